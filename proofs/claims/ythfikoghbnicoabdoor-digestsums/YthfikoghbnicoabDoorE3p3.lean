/- The document's Sum: part 3. -/
import Derived.Test.YthfikoghbnicoabDoorE3
namespace Go.Proofs.YthfikoghbnicoabDoor
open Go.RowKit
attribute [local go_sem ↓] Go.wp_at_zero Go.wp_at_succ

set_option maxHeartbeats 40000000 in
set_option maxRecDepth 100000 in
theorem rpart3 : rskel.P3 := by
  unfold rskel
  intro v bs w M NB hNB0 L hML hL2 HMB HSH F HF HLN wA wB ina16 w1 w0 ina19 ina20 gm capm hgl hgc ina25 hb00 HC0 hszw0 gs Hgs gk Hgk hgs1 hgs2 hgk1 hgk2 hgm1 HK0 HO0 wr0 wo u7 u8 ina44 ina45 ina46 u12 u13 ina49 ina50 ina51 ina52 u18 u25 u26 u27 u28 u29 u30 u31 ina61 ina62 ina63 ina64 ina65 ina66 ina67 ina68 ina69 ina70 ina71 ina72 ina73 ina74 ina75 ina76 ina77 ina78 ina79 ina80 ina81 ina82 ina83 ina84 ina85 ina86 ina87 ina88 ina89 ina90 ina91 ina92 ina93 ina94 ina95 ina96 ina97 ina98 ina99 ina100 ina101 ina102 ina103 ina104 ina105 ina106 ina107 ina108 ina109 ina110 ina111 ina112 ina113 ina114 ina115 ina116 ina117 ina118 ina119 ina120 ina121 ina122 ina123 ina124 ina125 ina126 ina127 ina128 ina129 ina130 ina131 ina132 ina133 ina134 ina135 ina136 ina137 ina138 ina139 ina140 ina141 ina142 ina143 ina144 ina145 ina146 ina147 ina148 ina149 ina150 ina151 ina152 ina153 ina154 ina155 ina156 ina157 ina158 ina159 ina160 u132 u133 u134 ina164 ina165 ina166 ina167 ina168 ina169 ina170 ina171 ina172 ina173 ina174 ina175 ina176 ina177 ina178 ina179 ina180 ina181 ina182 ina183 ina184 ina185 ina186 ina187 ina188 ina189 ina190 ina191 ina192 ina193 ina194 ina195 ina196 ina197 ina198 ina199 ina200 ina201 ina202 ina203 ina204 ina205 ina206 ina207 ina208 ina209 ina210 ina211 ina212 ina213 ina214 ina215 ina216 ina217 ina218 ina219 ina220 ina221 ina222 ina223 ina224 ina225 ina226 ina227 ina228 ina229 ina230 ina231 ina232 ina233 ina234 ina235 ina236 ina237 ina238 ina239 ina240 ina241 ina242 ina243 ina244 ina245 ina246 ina247 ina248 ina249 ina250 ina251 ina252 ina253 ina254 ina255 ina256 ina257 ina258 ina259 ina260 ina261 ina262 ina263 u235 u236 u237 u238 u239 u240 u241 u242 u243 u244 u245 u246 u247 u248 u249 u250 n A hn hnN W HW hAL hALn hALi s Hs HCr HKr HSr HGR HA hszr hgmr ina298 ina299 ina300 ina301 w2 wi u9 u10 u11 u32 u33 u34 u35 u36 u37 u38 u39 u40 u41 u42 u43 u44 u45 u46 u47 u48 u49 u50 u51 u52 u53 u54 u55 u56 u57 u58 u59 u60 u61 u62 u63 u64 u65 u66 u67 u68 u69 u70 u71 u72 u73 u74 u75 u76 u77 u78 u79 u80 u81 u82 u83 u84 u85 u86 u87 u88 u89 u90 u91 u92 u93 u94 u95 u96 u97 u98 u99 u100 u101 u102 u103 u104 u105 u106 u107 u108 u109 u110 u111 u112 u113 u114 u115 u116 u117 u118 u119 u120 u121 u122 u123 u124 u125 u126 u127 u128 u129 u130 u131 ina407 ht16 ina409 gw capw hgw hgwc hgwm hgwl HCW HSi HKi HB3 ina420 ina421 ina422 w4 ina424 ina425 gv0 capv0 w5 u14 u15 u16 u17 u135 u136 u137 u138 u139 u140 u141 u142 u143 u144 u145 u146 u147 u148 u149 u150 u151 u152 u153 u154 u155 u156 u157 u158 u159 u160 u161 u162 u163 u164 u165 u166 u167 u168 u169 u170 u171 u172 u173 u174 u175 u176 u177 u178 u179 u180 u181 u182 u183 u184 u185 u186 u187 u188 u189 u190 u191 u192 u193 u194 u195 u196 u197 u198 u199 u200 u201 u202 u203 u204 u205 u206 u207 u208 u209 u210 u211 u212 u213 u214 u215 u216 u217 u218 u219 u220 u221 u222 u223 u224 u225 u226 u227 u228 u229 u230 u231 u232 u233 u234 t gv capv V ht hcv hcm HVt HCV hgv hb5 ht64
  obtain ⟨kt, Hkt⟩ : ∃ kt, Hid (kt = KL t) := ⟨_, rfl⟩
  obtain ⟨wt, Hwt⟩ : ∃ wt, Hid (wt = W t) := ⟨_, rfl⟩
  have ck : w5.cell? ⟨gk, t, none⟩ = some (.int .u32 kt) := by rw [Hkt.out]; exact (Arr.below HKi.out hb5).cell t ht64
  have cw : w5.cell? ⟨gw, t, none⟩ = some (.int .u32 wt) := by rw [Hwt.out]; exact (hb5.cell hgwl).trans (HCW.out t ht64)
  have v0 := HCV.out 0 (by decide)
  have v1 := HCV.out 1 (by decide)
  have v2 := HCV.out 2 (by decide)
  have v4 := HCV.out 4 (by decide)
  have v5 := HCV.out 5 (by decide)
  have v6 := HCV.out 6 (by decide)
  have v7 := HCV.out 7 (by decide)
  have HB5 : Hid (Below wi.heap.size wi w5) := hb5
  have t0 : (0 : Int) ≤ (t : Int) := by omega
  have t64 : (t : Int) < 64 := by omega
  clear hb5
  go_wp2
  go_quiet ((go_at_call 22; exact Calls.quiet_of_same (right_r _ _ _ (by decide) (by decide))))
  generalize hw6 : World.drewN _ _ = w6
  have HCX : Hid (∀ j, j < 8 → w6.cell? ⟨gv, j, none⟩ = some (.int .u32 (V j))) := by rw [← hw6]; exact HCV
  have HB6 : Hid (Below wi.heap.size wi w6) := by rw [← hw6]; exact ⟨HB5.out.os, HB5.out.tape, HB5.out.output, HB5.out.size, HB5.out.block⟩
  clear hw6 ck cw v0 v1 v2 v4 v5 v6 v7 HB5 HCV
  have v1 := HCX.out 1 (by decide)
  have v2 := HCX.out 2 (by decide)
  go_wp2
  go_quiet ((go_at_call 22; exact Calls.quiet_of_same (right_r _ _ _ (by decide) (by decide))))
  generalize hw7 : World.drewN _ _ = wy
  have HCY : Hid (∀ j, j < 8 → wy.cell? ⟨gv, j, none⟩ = some (.int .u32 (V j))) := by rw [← hw7]; exact HCX
  have hby : Below wi.heap.size wi wy := by rw [← hw7]; exact ⟨HB6.out.os, HB6.out.tape, HB6.out.output, HB6.out.size, HB6.out.block⟩
  clear hw7 v1 v2 HB6 HCX
  go_wp2
  rw [← t1_sum, ← t2_sum]
  refine wp_region_held_drew (S := fun w' => w'.cell? ⟨gv, 0, none⟩ = some (.int .u32 (V 0)) ∧ w'.cell? ⟨gv, 1, none⟩ = some (.int .u32 (V 1)) ∧ w'.cell? ⟨gv, 2, none⟩ = some (.int .u32 (V 2)) ∧ w'.cell? ⟨gv, 3, none⟩ = some (.int .u32 (V 3)) ∧ w'.cell? ⟨gv, 4, none⟩ = some (.int .u32 (V 4)) ∧ w'.cell? ⟨gv, 5, none⟩ = some (.int .u32 (V 5)) ∧ w'.cell? ⟨gv, 6, none⟩ = some (.int .u32 (V 6))) (by kernel_rfl) ⟨HCY.out 0 (by decide), HCY.out 1 (by decide), HCY.out 2 (by decide), HCY.out 3 (by decide), HCY.out 4 (by decide), HCY.out 5 (by decide), HCY.out 6 (by decide)⟩ (fun hS => ?_)
  refine wpAnyH_take (i := 0) (v := .int .u32 (t1S (V 4) (V 5) (V 6) (V 7) kt wt)) rfl (by kernel_rfl) (by kernel_rfl) (by kernel_rfl) (fun _ _ _ h => h) (Or.inl ⟨by kernel_rfl, fun _ _ => by kernel_rfl⟩) hS ?_
  refine wpAnyH_take (i := 1) (v := .int .u32 (t2S (V 0) (V 1) (V 2))) rfl (by kernel_rfl) (by kernel_rfl) (by kernel_rfl) (fun _ _ _ h => h) (Or.inl ⟨by kernel_rfl, fun _ _ => by kernel_rfl⟩) hS ?_
  refine wpAnyH_take (i := 2) (v := .int .u32 (IntKind.u32.wrap ((t1S (V 4) (V 5) (V 6) (V 7) kt wt) + (t2S (V 0) (V 1) (V 2))))) rfl (by kernel_rfl) (by kernel_rfl) (by kernel_rfl) (fun _ _ _ h => h) (Or.inl ⟨by kernel_rfl, fun wx hx => by go_simp⟩) hS ?_
  refine wpAnyH_take (i := 3) (v := .slice (some ⟨gv, 0, none⟩) 8 capv) rfl (by kernel_rfl) (by kernel_rfl) (by kernel_rfl) (fun _ _ _ h => h) (Or.inl ⟨by kernel_rfl, fun _ _ => by kernel_rfl⟩) hS ?_
  refine wpAnyH_take (i := 4) (v := .pointer (some ⟨gv, 0, none⟩)) rfl (by kernel_rfl) (by kernel_rfl) (by kernel_rfl) (fun _ _ _ h => h) (Or.inl ⟨by kernel_rfl, fun wx hx => by go_simp⟩) hS ?_
  refine wpAnyH_take (i := 5) (v := .int .u32 (V 0)) rfl (by kernel_rfl) (by kernel_rfl) (by kernel_rfl) (fun _ _ _ h => h) (Or.inl ⟨by kernel_rfl, fun wx hx => by have h := hx.1; go_simp⟩) hS ?_
  refine wpAnyH_take (i := 6) (v := .slice (some ⟨gv, 0, none⟩) 8 capv) rfl (by kernel_rfl) (by kernel_rfl) (by kernel_rfl) (fun _ _ _ h => h) (Or.inl ⟨by kernel_rfl, fun _ _ => by kernel_rfl⟩) hS ?_
  refine wpAnyH_take (i := 7) (v := .pointer (some ⟨gv, 1, none⟩)) rfl (by kernel_rfl) (by kernel_rfl) (by kernel_rfl) (fun _ _ _ h => h) (Or.inl ⟨by kernel_rfl, fun wx hx => by go_simp⟩) hS ?_
  refine wpAnyH_take (i := 8) (v := .int .u32 (V 1)) rfl (by kernel_rfl) (by kernel_rfl) (by kernel_rfl) (fun _ _ _ h => h) (Or.inl ⟨by kernel_rfl, fun wx hx => by have h := hx.2.1; go_simp⟩) hS ?_
  refine wpAnyH_take (i := 9) (v := .slice (some ⟨gv, 0, none⟩) 8 capv) rfl (by kernel_rfl) (by kernel_rfl) (by kernel_rfl) (fun _ _ _ h => h) (Or.inl ⟨by kernel_rfl, fun _ _ => by kernel_rfl⟩) hS ?_
  refine wpAnyH_take (i := 10) (v := .pointer (some ⟨gv, 2, none⟩)) rfl (by kernel_rfl) (by kernel_rfl) (by kernel_rfl) (fun _ _ _ h => h) (Or.inl ⟨by kernel_rfl, fun wx hx => by go_simp⟩) hS ?_
  refine wpAnyH_take (i := 11) (v := .int .u32 (V 2)) rfl (by kernel_rfl) (by kernel_rfl) (by kernel_rfl) (fun _ _ _ h => h) (Or.inl ⟨by kernel_rfl, fun wx hx => by have h := hx.2.2.1; go_simp⟩) hS ?_
  refine wpAnyH_take (i := 12) (v := .slice (some ⟨gv, 0, none⟩) 8 capv) rfl (by kernel_rfl) (by kernel_rfl) (by kernel_rfl) (fun _ _ _ h => h) (Or.inl ⟨by kernel_rfl, fun _ _ => by kernel_rfl⟩) hS ?_
  refine wpAnyH_take (i := 13) (v := .pointer (some ⟨gv, 3, none⟩)) rfl (by kernel_rfl) (by kernel_rfl) (by kernel_rfl) (fun _ _ _ h => h) (Or.inl ⟨by kernel_rfl, fun wx hx => by go_simp⟩) hS ?_
  refine wpAnyH_take (i := 14) (v := .int .u32 (V 3)) rfl (by kernel_rfl) (by kernel_rfl) (by kernel_rfl) (fun _ _ _ h => h) (Or.inl ⟨by kernel_rfl, fun wx hx => by have h := hx.2.2.2.1; go_simp⟩) hS ?_
  refine wpAnyH_take (i := 15) (v := .int .u32 (t1S (V 4) (V 5) (V 6) (V 7) kt wt)) rfl (by kernel_rfl) (by kernel_rfl) (by kernel_rfl) (fun _ _ _ h => h) (Or.inl ⟨by kernel_rfl, fun _ _ => by kernel_rfl⟩) hS ?_
  refine wpAnyH_take (i := 16) (v := .int .u32 (IntKind.u32.wrap (V 3 + (t1S (V 4) (V 5) (V 6) (V 7) kt wt)))) rfl (by kernel_rfl) (by kernel_rfl) (by kernel_rfl) (fun _ _ _ h => h) (Or.inl ⟨by kernel_rfl, fun wx hx => by go_simp⟩) hS ?_
  refine wpAnyH_take (i := 17) (v := .slice (some ⟨gv, 0, none⟩) 8 capv) rfl (by kernel_rfl) (by kernel_rfl) (by kernel_rfl) (fun _ _ _ h => h) (Or.inl ⟨by kernel_rfl, fun _ _ => by kernel_rfl⟩) hS ?_
  refine wpAnyH_take (i := 18) (v := .pointer (some ⟨gv, 4, none⟩)) rfl (by kernel_rfl) (by kernel_rfl) (by kernel_rfl) (fun _ _ _ h => h) (Or.inl ⟨by kernel_rfl, fun wx hx => by go_simp⟩) hS ?_
  refine wpAnyH_take (i := 19) (v := .int .u32 (V 4)) rfl (by kernel_rfl) (by kernel_rfl) (by kernel_rfl) (fun _ _ _ h => h) (Or.inl ⟨by kernel_rfl, fun wx hx => by have h := hx.2.2.2.2.1; go_simp⟩) hS ?_
  refine wpAnyH_take (i := 20) (v := .slice (some ⟨gv, 0, none⟩) 8 capv) rfl (by kernel_rfl) (by kernel_rfl) (by kernel_rfl) (fun _ _ _ h => h) (Or.inl ⟨by kernel_rfl, fun _ _ => by kernel_rfl⟩) hS ?_
  refine wpAnyH_take (i := 21) (v := .pointer (some ⟨gv, 5, none⟩)) rfl (by kernel_rfl) (by kernel_rfl) (by kernel_rfl) (fun _ _ _ h => h) (Or.inl ⟨by kernel_rfl, fun wx hx => by go_simp⟩) hS ?_
  refine wpAnyH_take (i := 22) (v := .int .u32 (V 5)) rfl (by kernel_rfl) (by kernel_rfl) (by kernel_rfl) (fun _ _ _ h => h) (Or.inl ⟨by kernel_rfl, fun wx hx => by have h := hx.2.2.2.2.2.1; go_simp⟩) hS ?_
  refine wpAnyH_take (i := 23) (v := .slice (some ⟨gv, 0, none⟩) 8 capv) rfl (by kernel_rfl) (by kernel_rfl) (by kernel_rfl) (fun _ _ _ h => h) (Or.inl ⟨by kernel_rfl, fun _ _ => by kernel_rfl⟩) hS ?_
  refine wpAnyH_take (i := 24) (v := .pointer (some ⟨gv, 6, none⟩)) rfl (by kernel_rfl) (by kernel_rfl) (by kernel_rfl) (fun _ _ _ h => h) (Or.inl ⟨by kernel_rfl, fun wx hx => by go_simp⟩) hS ?_
  refine wpAnyH_take (i := 25) (v := .int .u32 (V 6)) rfl (by kernel_rfl) (by kernel_rfl) (by kernel_rfl) (fun _ _ _ h => h) (Or.inl ⟨by kernel_rfl, fun wx hx => by have h := hx.2.2.2.2.2.2; go_simp⟩) hS ?_
  have hcell : ∀ j, j < 7 → (wy.drew.alloc (.cells #[.int .u32 (IntKind.u32.wrap ((t1S (V 4) (V 5) (V 6) (V 7) kt wt) + (t2S (V 0) (V 1) (V 2)))), .int .u32 (V 0), .int .u32 (V 1), .int .u32 (V 2), .int .u32 (IntKind.u32.wrap (V 3 + (t1S (V 4) (V 5) (V 6) (V 7) kt wt))), .int .u32 (V 4), .int .u32 (V 5), .int .u32 (V 6)] 35)).cell? ⟨gv, j, none⟩ = some (.int .u32 (V j)) := fun j hj => ((((Below.refl wy.heap.size wy).drew).alloc (Nat.le_refl _) _).cell (World.block_lt_of_cell? _ _ (HCY.out j (by omega)))).trans (HCY.out j (by omega))
  refine wpAnyH_ready (rs := [26]) (by kernel_rfl) (by simp) (readyH_plain rfl rfl (fun Kc hK => wp_val (v := .slice (some ⟨wy.heap.size, 0, none⟩) 8 8) (w' := wy.drew.alloc (.cells #[.int .u32 (IntKind.u32.wrap ((t1S (V 4) (V 5) (V 6) (V 7) kt wt) + (t2S (V 0) (V 1) (V 2)))), .int .u32 (V 0), .int .u32 (V 1), .int .u32 (V 2), .int .u32 (IntKind.u32.wrap (V 3 + (t1S (V 4) (V 5) (V 6) (V 7) kt wt))), .int .u32 (V 4), .int .u32 (V 5), .int .u32 (V 6)] 35)) (by kernel_rfl) (hK _ _ ⟨hcell 0 (by decide), hcell 1 (by decide), hcell 2 (by decide), hcell 3 (by decide), hcell 4 (by decide), hcell 5 (by decide), hcell 6 (by decide)⟩ (fun hS => ?_))) AllReadyH.nil)
  refine wpAnyH_take (i := 27) (v := .slice (some ⟨wy.heap.size, 0, none⟩) 8 8) rfl (by kernel_rfl) (by kernel_rfl) (by kernel_rfl) (fun _ _ _ h => h) (Or.inl ⟨by kernel_rfl, fun _ _ => by kernel_rfl⟩) hS ?_
  refine wpAnyH_done (by kernel_rfl) ?_ _
  have hNC : ∀ j, j < 8 → (wy.drew.alloc (.cells #[.int .u32 (IntKind.u32.wrap ((t1S (V 4) (V 5) (V 6) (V 7) kt wt) + (t2S (V 0) (V 1) (V 2)))), .int .u32 (V 0), .int .u32 (V 1), .int .u32 (V 2), .int .u32 (IntKind.u32.wrap (V 3 + (t1S (V 4) (V 5) (V 6) (V 7) kt wt))), .int .u32 (V 4), .int .u32 (V 5), .int .u32 (V 6)] 35)).cell? ⟨wy.heap.size, j, none⟩ = some (.int .u32 (rnd V kt wt j)) := by
    intro j hj
    have := cell_lit wy.drew #[.int .u32 (IntKind.u32.wrap ((t1S (V 4) (V 5) (V 6) (V 7) kt wt) + (t2S (V 0) (V 1) (V 2)))), .int .u32 (V 0), .int .u32 (V 1), .int .u32 (V 2), .int .u32 (IntKind.u32.wrap (V 3 + (t1S (V 4) (V 5) (V 6) (V 7) kt wt))), .int .u32 (V 4), .int .u32 (V 5), .int .u32 (V 6)] 35 j (.int .u32 (rnd V kt wt j)) (by
      match j, hj with
      | 0, _ => rfl
      | 1, _ => rfl
      | 2, _ => rfl
      | 3, _ => rfl
      | 4, _ => rfl
      | 5, _ => rfl
      | 6, _ => rfl
      | 7, _ => rfl)
    rw [add_plain, Nat.zero_add] at this
    exact this
  have hbN : Below wi.heap.size wi (wy.drew.alloc (.cells #[.int .u32 (IntKind.u32.wrap ((t1S (V 4) (V 5) (V 6) (V 7) kt wt) + (t2S (V 0) (V 1) (V 2)))), .int .u32 (V 0), .int .u32 (V 1), .int .u32 (V 2), .int .u32 (IntKind.u32.wrap (V 3 + (t1S (V 4) (V 5) (V 6) (V 7) kt wt))), .int .u32 (V 4), .int .u32 (V 5), .int .u32 (V 6)] 35)) := (hby.drew).alloc hby.size _
  have hszN : wi.heap.size ≤ wy.heap.size := hby.size
  clear hS hcell
  generalize wy.drew.alloc (.cells #[.int .u32 (IntKind.u32.wrap ((t1S (V 4) (V 5) (V 6) (V 7) kt wt) + (t2S (V 0) (V 1) (V 2)))), .int .u32 (V 0), .int .u32 (V 1), .int .u32 (V 2), .int .u32 (IntKind.u32.wrap (V 3 + (t1S (V 4) (V 5) (V 6) (V 7) kt wt))), .int .u32 (V 4), .int .u32 (V 5), .int .u32 (V 6)] 35) = wz at hNC hbN ⊢
  go_simp
  go_wp2
  go_roundw
  case rel => exact ⟨t + 1, wy.heap.size, 8, rnd V kt wt, by omega, by go_num, rfl, by omega, by omega, by show _ = _; rw [HVt.out, Hkt.out, Hwt.out]; rfl, hNC, hszN, hbN⟩
  case measure => simp [intOf]; omega

end Go.Proofs.YthfikoghbnicoabDoor
