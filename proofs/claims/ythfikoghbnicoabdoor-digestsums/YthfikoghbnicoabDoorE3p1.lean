/- The document's Sum: part 1. -/
import Derived.Test.YthfikoghbnicoabDoorE3
namespace Go.Proofs.YthfikoghbnicoabDoor
open Go.RowKit
attribute [local go_sem ↓] Go.wp_at_zero Go.wp_at_succ

set_option maxHeartbeats 40000000 in
set_option maxRecDepth 100000 in
theorem rpart1 : rskel.P1 := by
  unfold rskel
  intro v bs w M NB hNB0 L hML hL2 HMB HSH F HF HLN wA wB ina16 w1 w0 ina19 ina20 gm capm hgl hgc ina25 hb00 HC0 hszw0 gs Hgs gk Hgk hgs1 hgs2 hgk1 hgk2 hgm1 HK0 HO0 wr0 wo ina42 u8 ina44 ina45 ina46 u12 u13 u14 u15 u16 u17 u18 u25 u26 u27 u28 u29 u30 u31 ina61 ina62 ina63 ina64 ina65 ina66 ina67 ina68 ina69 ina70 ina71 ina72 ina73 ina74 ina75 ina76 ina77 ina78 ina79 ina80 ina81 ina82 ina83 ina84 ina85 ina86 ina87 ina88 ina89 ina90 ina91 ina92 ina93 ina94 ina95 ina96 ina97 ina98 ina99 ina100 ina101 ina102 ina103 ina104 ina105 ina106 ina107 ina108 ina109 ina110 ina111 ina112 ina113 ina114 ina115 ina116 ina117 ina118 ina119 ina120 ina121 ina122 ina123 ina124 ina125 ina126 ina127 ina128 ina129 ina130 ina131 ina132 ina133 ina134 ina135 ina136 ina137 ina138 ina139 ina140 ina141 ina142 ina143 ina144 ina145 ina146 ina147 ina148 ina149 ina150 ina151 ina152 ina153 ina154 ina155 ina156 ina157 ina158 ina159 ina160 u132 u133 u134 u135 u136 u137 u138 u139 u140 u141 u142 u143 u144 u145 u146 u147 u148 u149 u150 u151 u152 u153 u154 u155 u156 u157 u158 u159 u160 u161 u162 u163 u164 u165 u166 u167 u168 u169 u170 u171 u172 u173 u174 u175 u176 u177 u178 u179 u180 u181 u182 u183 u184 u185 u186 u187 u188 u189 u190 u191 u192 u193 u194 u195 u196 u197 u198 u199 u200 u201 u202 u203 u204 u205 u206 u207 u208 u209 u210 u211 u212 u213 u214 u215 u216 u217 u218 u219 u220 u221 u222 u223 u224 u225 u226 u227 u228 u229 u230 u231 u232 u233 u234 u235 u236 u237 u238 u239 u240 u241 u242 u243 u244 u245 u246 u247 u248 u249 u250 n A hn hnN W HW hAL hALn hALi s Hs HCr HKr HSr HGR HA hszr hgmr ina298 ina299 ina300 ina301 ina302 w2 wi u7 u9 u10 u11 u32 u33 u34 u35 u36 u37 u38 u39 u40 u41 u42 u43 u44 u45 u46 u47 u48 u49 u50 u51 u52 u53 u54 u55 u56 u57 u58 u59 u60 u61 u62 u63 u64 u65 u66 u67 u68 u69 u70 u71 u72 u73 u74 u75 u76 u77 u78 u79 u80 u81 u82 u83 u84 u85 u86 u87 u88 u89 u90 u91 u92 u93 u94 u95 u96 u97 u98 u99 u100 u101 u102 u103 u104 u105 u106 u107 u108 u109 u110 u111 u112 u113 u114 u115 u116 u117 u118 u119 u120 u121 u122 u123 u124 u125 u126 u127 u128 u129 u130 u131 t ht hx hb3 ht16
  obtain ⟨I, HI⟩ : ∃ I, Hid (I = A + 4 * t) := ⟨_, rfl⟩
  have hI : (A : Int) + 4 * (t : Int) = (I : Int) := by rw [HI.out]; omega
  have hIL : I + 3 < L := by rw [HI.out]; omega
  have hIL' : (I : Int) + 3 < (L : Int) := by omega
  obtain ⟨b0, hb0, e0⟩ := getD_rng M HMB.out I
  obtain ⟨b1, hb1, e1⟩ := getD_rng M HMB.out (I + 1)
  obtain ⟨b2, hb2, e2⟩ := getD_rng M HMB.out (I + 2)
  obtain ⟨b4, hb4, e4⟩ := getD_rng M HMB.out (I + 3)
  have HWt : Hid (W t = bits .or .u32 (bits .or .u32 (bits .or .u32 ((b0 : Int) * 16777216) ((b1 : Int) * 65536)) ((b2 : Int) * 256)) (b4 : Int)) := by
    show W t = _
    rw [or4 _ _ _ _ hb0 hb1 hb2 hb4, HW.out, ext_base _ _ ht16, wrd_64, if_pos ht16]
    rw [← e0, ← e1, ← e2, ← e4, HI.out, HA.out]
    simp only [Nat.add_assoc]
  have HS : ∀ w', Below wo.heap.size wo w' → w'.cell? ⟨gm, I, none⟩ = some (.int .u8 (b0 : Int)) ∧ w'.cell? ⟨gm, I + 1, none⟩ = some (.int .u8 (b1 : Int)) ∧ w'.cell? ⟨gm, I + 2, none⟩ = some (.int .u8 (b2 : Int)) ∧ w'.cell? ⟨gm, I + 3, none⟩ = some (.int .u8 (b4 : Int)) := by
    intro w' h
    rw [← e0, ← e1, ← e2, ← e4]
    exact ⟨(h.cell hgmr).trans (HCr.out _ (by omega)), (h.cell hgmr).trans (HCr.out _ (by omega)), (h.cell hgmr).trans (HCr.out _ (by omega)), (h.cell hgmr).trans (HCr.out _ (by omega))⟩
  clear e0 e1 e2 e4 HI
  go_wp2
  refine wp_region_held_drew (S := fun w' => w'.cell? ⟨gm, I, none⟩ = some (.int .u8 (b0 : Int)) ∧ w'.cell? ⟨gm, I + 1, none⟩ = some (.int .u8 (b1 : Int)) ∧ w'.cell? ⟨gm, I + 2, none⟩ = some (.int .u8 (b2 : Int)) ∧ w'.cell? ⟨gm, I + 3, none⟩ = some (.int .u8 (b4 : Int))) (by kernel_rfl) (HS wi.drew hb3.drew) (fun hS => ?_)
  refine wpAnyH_take (i := 0) (v := u7) rfl (by kernel_rfl) (by kernel_rfl) (by kernel_rfl) (fun _ _ _ h => h) (Or.inl ⟨by kernel_rfl, fun _ _ => by kernel_rfl⟩) hS ?_
  refine wpAnyH_take (i := 1) (v := .slice (some ⟨gm, 0, none⟩) L capm) rfl (by kernel_rfl) (by kernel_rfl) (by kernel_rfl) (fun _ _ _ h => h) (Or.inl ⟨by kernel_rfl, fun _ _ => by kernel_rfl⟩) hS ?_
  refine wpAnyH_take (i := 2) (v := .int .i64 I) rfl (by kernel_rfl) (by kernel_rfl) (by kernel_rfl) (fun _ _ _ h => h) (Or.inl ⟨by kernel_rfl, fun _ _ => by kernel_rfl⟩) hS ?_
  refine wpAnyH_take (i := 3) (v := .pointer (some ⟨gm, I, none⟩)) rfl (by kernel_rfl) (by kernel_rfl) (by kernel_rfl) (fun _ _ _ h => h) (Or.inl ⟨by kernel_rfl, fun wx hx => by go_simp; try first | omega | (intro hq; omega) | (rw [IntKind.wrap_u32]; omega) | (rw [IntKind.wrap_i64]; omega)⟩) hS ?_
  refine wpAnyH_take (i := 4) (v := .int .u8 (b0 : Int)) rfl (by kernel_rfl) (by kernel_rfl) (by kernel_rfl) (fun _ _ _ h => h) (Or.inl ⟨by kernel_rfl, fun wx hx => by have h := hx.1; go_simp⟩) hS ?_
  refine wpAnyH_take (i := 5) (v := .int .u32 (b0 : Int)) rfl (by kernel_rfl) (by kernel_rfl) (by kernel_rfl) (fun _ _ _ h => h) (Or.inl ⟨by kernel_rfl, fun wx hx => by go_simp; try first | omega | (intro hq; omega) | (rw [IntKind.wrap_u32]; omega) | (rw [IntKind.wrap_i64]; omega)⟩) hS ?_
  refine wpAnyH_take (i := 6) (v := .int .u32 ((b0 : Int) * 16777216)) rfl (by kernel_rfl) (by kernel_rfl) (by kernel_rfl) (fun _ _ _ h => h) (Or.inl ⟨by kernel_rfl, fun wx hx => by go_simp; try first | omega | (intro hq; omega) | (rw [IntKind.wrap_u32]; omega) | (rw [IntKind.wrap_i64]; omega)⟩) hS ?_
  refine wpAnyH_take (i := 7) (v := .slice (some ⟨gm, 0, none⟩) L capm) rfl (by kernel_rfl) (by kernel_rfl) (by kernel_rfl) (fun _ _ _ h => h) (Or.inl ⟨by kernel_rfl, fun _ _ => by kernel_rfl⟩) hS ?_
  refine wpAnyH_take (i := 8) (v := .int .i64 I) rfl (by kernel_rfl) (by kernel_rfl) (by kernel_rfl) (fun _ _ _ h => h) (Or.inl ⟨by kernel_rfl, fun _ _ => by kernel_rfl⟩) hS ?_
  refine wpAnyH_take (i := 9) (v := .int .i64 ((I : Int) + 1)) rfl (by kernel_rfl) (by kernel_rfl) (by kernel_rfl) (fun _ _ _ h => h) (Or.inl ⟨by kernel_rfl, fun wx hx => by go_simp; try first | omega | (intro hq; omega) | (rw [IntKind.wrap_u32]; omega) | (rw [IntKind.wrap_i64]; omega)⟩) hS ?_
  refine wpAnyH_take (i := 10) (v := .pointer (some ⟨gm, I + 1, none⟩)) rfl (by kernel_rfl) (by kernel_rfl) (by kernel_rfl) (fun _ _ _ h => h) (Or.inl ⟨by kernel_rfl, fun wx hx => by go_simp; try first | omega | (intro hq; omega) | (rw [IntKind.wrap_u32]; omega) | (rw [IntKind.wrap_i64]; omega)⟩) hS ?_
  refine wpAnyH_take (i := 11) (v := .int .u8 (b1 : Int)) rfl (by kernel_rfl) (by kernel_rfl) (by kernel_rfl) (fun _ _ _ h => h) (Or.inl ⟨by kernel_rfl, fun wx hx => by have h := hx.2.1; go_simp⟩) hS ?_
  refine wpAnyH_take (i := 12) (v := .int .u32 (b1 : Int)) rfl (by kernel_rfl) (by kernel_rfl) (by kernel_rfl) (fun _ _ _ h => h) (Or.inl ⟨by kernel_rfl, fun wx hx => by go_simp; try first | omega | (intro hq; omega) | (rw [IntKind.wrap_u32]; omega) | (rw [IntKind.wrap_i64]; omega)⟩) hS ?_
  refine wpAnyH_take (i := 13) (v := .int .u32 ((b1 : Int) * 65536)) rfl (by kernel_rfl) (by kernel_rfl) (by kernel_rfl) (fun _ _ _ h => h) (Or.inl ⟨by kernel_rfl, fun wx hx => by go_simp; try first | omega | (intro hq; omega) | (rw [IntKind.wrap_u32]; omega) | (rw [IntKind.wrap_i64]; omega)⟩) hS ?_
  refine wpAnyH_take (i := 14) (v := .int .u32 (bits .or .u32 ((b0 : Int) * 16777216) ((b1 : Int) * 65536))) rfl (by kernel_rfl) (by kernel_rfl) (by kernel_rfl) (fun _ _ _ h => h) (Or.inl ⟨by kernel_rfl, fun wx hx => by go_simp; try first | omega | (intro hq; omega) | (rw [IntKind.wrap_u32]; omega) | (rw [IntKind.wrap_i64]; omega)⟩) hS ?_
  refine wpAnyH_take (i := 15) (v := .slice (some ⟨gm, 0, none⟩) L capm) rfl (by kernel_rfl) (by kernel_rfl) (by kernel_rfl) (fun _ _ _ h => h) (Or.inl ⟨by kernel_rfl, fun _ _ => by kernel_rfl⟩) hS ?_
  refine wpAnyH_take (i := 16) (v := .int .i64 I) rfl (by kernel_rfl) (by kernel_rfl) (by kernel_rfl) (fun _ _ _ h => h) (Or.inl ⟨by kernel_rfl, fun _ _ => by kernel_rfl⟩) hS ?_
  refine wpAnyH_take (i := 17) (v := .int .i64 ((I : Int) + 2)) rfl (by kernel_rfl) (by kernel_rfl) (by kernel_rfl) (fun _ _ _ h => h) (Or.inl ⟨by kernel_rfl, fun wx hx => by go_simp; try first | omega | (intro hq; omega) | (rw [IntKind.wrap_u32]; omega) | (rw [IntKind.wrap_i64]; omega)⟩) hS ?_
  refine wpAnyH_take (i := 18) (v := .pointer (some ⟨gm, I + 2, none⟩)) rfl (by kernel_rfl) (by kernel_rfl) (by kernel_rfl) (fun _ _ _ h => h) (Or.inl ⟨by kernel_rfl, fun wx hx => by go_simp; rw [if_pos (by omega), show ((I : Int) + 2).toNat = I + 2 by omega]⟩) hS ?_
  refine wpAnyH_take (i := 19) (v := .int .u8 (b2 : Int)) rfl (by kernel_rfl) (by kernel_rfl) (by kernel_rfl) (fun _ _ _ h => h) (Or.inl ⟨by kernel_rfl, fun wx hx => by have h := hx.2.2.1; go_simp⟩) hS ?_
  refine wpAnyH_take (i := 20) (v := .int .u32 (b2 : Int)) rfl (by kernel_rfl) (by kernel_rfl) (by kernel_rfl) (fun _ _ _ h => h) (Or.inl ⟨by kernel_rfl, fun wx hx => by go_simp; try first | omega | (intro hq; omega) | (rw [IntKind.wrap_u32]; omega) | (rw [IntKind.wrap_i64]; omega)⟩) hS ?_
  refine wpAnyH_take (i := 21) (v := .int .u32 ((b2 : Int) * 256)) rfl (by kernel_rfl) (by kernel_rfl) (by kernel_rfl) (fun _ _ _ h => h) (Or.inl ⟨by kernel_rfl, fun wx hx => by go_simp; try first | omega | (intro hq; omega) | (rw [IntKind.wrap_u32]; omega) | (rw [IntKind.wrap_i64]; omega)⟩) hS ?_
  refine wpAnyH_take (i := 22) (v := .int .u32 (bits .or .u32 (bits .or .u32 ((b0 : Int) * 16777216) ((b1 : Int) * 65536)) ((b2 : Int) * 256))) rfl (by kernel_rfl) (by kernel_rfl) (by kernel_rfl) (fun _ _ _ h => h) (Or.inl ⟨by kernel_rfl, fun wx hx => by go_simp; try first | omega | (intro hq; omega) | (rw [IntKind.wrap_u32]; omega) | (rw [IntKind.wrap_i64]; omega)⟩) hS ?_
  refine wpAnyH_take (i := 23) (v := .slice (some ⟨gm, 0, none⟩) L capm) rfl (by kernel_rfl) (by kernel_rfl) (by kernel_rfl) (fun _ _ _ h => h) (Or.inl ⟨by kernel_rfl, fun _ _ => by kernel_rfl⟩) hS ?_
  refine wpAnyH_take (i := 24) (v := .int .i64 I) rfl (by kernel_rfl) (by kernel_rfl) (by kernel_rfl) (fun _ _ _ h => h) (Or.inl ⟨by kernel_rfl, fun _ _ => by kernel_rfl⟩) hS ?_
  refine wpAnyH_take (i := 25) (v := .int .i64 ((I : Int) + 3)) rfl (by kernel_rfl) (by kernel_rfl) (by kernel_rfl) (fun _ _ _ h => h) (Or.inl ⟨by kernel_rfl, fun wx hx => by go_simp; try first | omega | (intro hq; omega) | (rw [IntKind.wrap_u32]; omega) | (rw [IntKind.wrap_i64]; omega)⟩) hS ?_
  refine wpAnyH_take (i := 26) (v := .pointer (some ⟨gm, I + 3, none⟩)) rfl (by kernel_rfl) (by kernel_rfl) (by kernel_rfl) (fun _ _ _ h => h) (Or.inl ⟨by kernel_rfl, fun wx hx => by go_simp; rw [if_pos (by omega), show ((I : Int) + 3).toNat = I + 3 by omega]⟩) hS ?_
  refine wpAnyH_take (i := 27) (v := .int .u8 (b4 : Int)) rfl (by kernel_rfl) (by kernel_rfl) (by kernel_rfl) (fun _ _ _ h => h) (Or.inl ⟨by kernel_rfl, fun wx hx => by have h := hx.2.2.2; go_simp⟩) hS ?_
  refine wpAnyH_take (i := 28) (v := .int .u32 (b4 : Int)) rfl (by kernel_rfl) (by kernel_rfl) (by kernel_rfl) (fun _ _ _ h => h) (Or.inl ⟨by kernel_rfl, fun wx hx => by go_simp; try first | omega | (intro hq; omega) | (rw [IntKind.wrap_u32]; omega) | (rw [IntKind.wrap_i64]; omega)⟩) hS ?_
  refine wpAnyH_take (i := 29) (v := .int .u32 (bits .or .u32 (bits .or .u32 (bits .or .u32 ((b0 : Int) * 16777216) ((b1 : Int) * 65536)) ((b2 : Int) * 256)) (b4 : Int))) rfl (by kernel_rfl) (by kernel_rfl) (by kernel_rfl) (fun _ _ _ h => h) (Or.inl ⟨by kernel_rfl, fun wx hx => by go_simp; try first | omega | (intro hq; omega) | (rw [IntKind.wrap_u32]; omega) | (rw [IntKind.wrap_i64]; omega)⟩) hS ?_
  have hbx : Below wo.heap.size wo (wi.drew.alloc (.cells #[.int .u32 (bits .or .u32 (bits .or .u32 (bits .or .u32 ((b0 : Int) * 16777216) ((b1 : Int) * 65536)) ((b2 : Int) * 256)) (b4 : Int))] 35)) := (hb3.drew).alloc hb3.size _
  refine wpAnyH_ready (rs := [30]) (by kernel_rfl) (by simp) (readyH_plain rfl rfl (fun Kc hK => wp_val (v := .slice (some ⟨wi.heap.size, 0, none⟩) 1 1) (w' := wi.drew.alloc (.cells #[.int .u32 (bits .or .u32 (bits .or .u32 (bits .or .u32 ((b0 : Int) * 16777216) ((b1 : Int) * 65536)) ((b2 : Int) * 256)) (b4 : Int))] 35)) (by kernel_rfl) (hK _ _ (HS _ hbx) (fun hS => ?_))) AllReadyH.nil)
  refine wpAnyH_ready (rs := [31]) (by kernel_rfl) (by simp) (readyH_plain rfl rfl (fun Kc hK => wp_appW (.tmp 42) (.tmp 72) rfl (by kernel_rfl) (OwnW.alloc (OwnW.drew hx) _) ⟨wi.heap.size, 0, none⟩ 1 1 (ys := [bits .or .u32 (bits .or .u32 (bits .or .u32 ((b0 : Int) * 16777216) ((b1 : Int) * 65536)) ((b2 : Int) * 256)) (b4 : Int)]) (by kernel_rfl) rfl (fun j hj => by rw [show j = 0 by omega]; exact cell_lit wi.drew _ 35 0 _ rfl) (by rw [wl_length]; omega) hbx.size (fun v' w' hv' hb' => hK _ _ (HS _ (hbx.trans hb')) (fun hS => ?_))) AllReadyH.nil)
  refine wpAnyH_take (i := 32) (v := v') rfl (by kernel_rfl) (by kernel_rfl) (by kernel_rfl) (fun _ _ _ h => h) (Or.inl ⟨by kernel_rfl, fun _ _ => by kernel_rfl⟩) hS ?_
  refine wpAnyH_done (by kernel_rfl) ?_ _
  have hbw' := hbx.trans hb'
  clear hbx hb' hS
  go_simp
  go_wp2
  go_roundw
  case rel => exact ⟨t + 1, by omega, by go_num, by rw [wl_succ, HWt.out]; exact hv', hbw'⟩
  case measure => simp [intOf]; omega

end Go.Proofs.YthfikoghbnicoabDoor
