/- The document's Sum: part 2. -/
import Derived.Test.YthfikoghbnicoabDoorE3
namespace Go.Proofs.YthfikoghbnicoabDoor
open Go.RowKit
attribute [local go_sem ↓] Go.wp_at_zero Go.wp_at_succ

set_option maxHeartbeats 40000000 in
set_option maxRecDepth 100000 in
theorem rpart2 : rskel.P2 := by
  unfold rskel
  intro v bs w M NB hNB0 L hML hL2 HMB HSH F HF HLN wA wB ina16 w1 w0 ina19 ina20 gm capm hgl hgc ina25 hb00 HC0 hszw0 gs Hgs gk Hgk hgs1 hgs2 hgk1 hgk2 hgm1 HK0 HO0 wr0 wo ina42 u8 ina44 ina45 ina46 u12 u13 u14 u15 u16 u17 u18 u25 u26 u27 u28 u29 u30 u31 ina61 ina62 ina63 ina64 ina65 ina66 ina67 ina68 ina69 ina70 ina71 ina72 ina73 ina74 ina75 ina76 ina77 ina78 ina79 ina80 ina81 ina82 ina83 ina84 ina85 ina86 ina87 ina88 ina89 ina90 ina91 ina92 ina93 ina94 ina95 ina96 ina97 ina98 ina99 ina100 ina101 ina102 ina103 ina104 ina105 ina106 ina107 ina108 ina109 ina110 ina111 ina112 ina113 ina114 ina115 ina116 ina117 ina118 ina119 ina120 ina121 ina122 ina123 ina124 ina125 ina126 ina127 ina128 ina129 ina130 ina131 ina132 ina133 ina134 ina135 ina136 ina137 ina138 ina139 ina140 ina141 ina142 ina143 ina144 ina145 ina146 ina147 ina148 ina149 ina150 ina151 ina152 ina153 ina154 ina155 ina156 ina157 ina158 ina159 ina160 u132 u133 u134 u135 u136 u137 u138 u139 u140 u141 u142 u143 u144 u145 u146 u147 u148 u149 u150 u151 u152 u153 u154 u155 u156 u157 u158 u159 u160 u161 u162 u163 u164 u165 u166 u167 u168 u169 u170 u171 u172 u173 u174 u175 u176 u177 u178 u179 u180 u181 u182 u183 u184 u185 u186 u187 u188 u189 u190 u191 u192 u193 u194 u195 u196 u197 u198 u199 u200 u201 u202 u203 u204 u205 u206 u207 u208 u209 u210 u211 u212 u213 u214 u215 u216 u217 u218 u219 u220 u221 u222 u223 u224 u225 u226 u227 u228 u229 u230 u231 u232 u233 u234 u235 u236 u237 u238 u239 u240 u241 u242 u243 u244 u245 u246 u247 u248 u249 u250 n A hn hnN W HW hAL hALn hALi s Hs HCr HKr HSr HGR HA hszr hgmr ina298 ina299 ina300 ina301 ina302 w2 wi u7 u9 u10 u11 u32 u33 u34 u35 u36 u37 u38 u39 u40 u41 u42 u43 u44 u45 u46 u47 u48 u49 u50 u51 u52 u53 u54 u55 u56 u57 u58 u59 u60 u61 u62 u63 u64 u65 u66 u67 u68 u69 u70 u71 u72 u73 u74 u75 u76 u77 u78 u79 u80 u81 u82 u83 u84 u85 u86 u87 u88 u89 u90 u91 u92 u93 u94 u95 u96 u97 u98 u99 u100 u101 u102 u103 u104 u105 u106 u107 u108 u109 u110 u111 u112 u113 u114 u115 u116 u117 u118 u119 u120 u121 u122 u123 u124 u125 u126 u127 u128 u129 u130 u131 t ht hx hb3 ht16 ht64
  obtain ⟨gw, capw, hu7, hgw, hgwc, hgwm, hgwl⟩ := hx.shape (by intro e; have := congrArg List.length e; rw [wl_length, List.length_nil] at this; omega)
  rw [wl_length] at hu7 hgwc
  subst hu7
  unfold maxLen at hgwm
  obtain ⟨t16, rfl⟩ : ∃ q, t = q + 16 := ⟨t - 16, by omega⟩
  obtain ⟨t, Ht⟩ : ∃ t, Hid (t = t16 + 16) := ⟨_, rfl⟩
  rw [← Ht.out] at hx ht ht64 hgwc ht16 ⊢
  obtain ⟨t2, H2⟩ : ∃ q, Hid (q = t16 + 14) := ⟨_, rfl⟩
  obtain ⟨t7, H7⟩ : ∃ q, Hid (q = t16 + 9) := ⟨_, rfl⟩
  obtain ⟨t15, H15⟩ : ∃ q, Hid (q = t16 + 1) := ⟨_, rfl⟩
  have i2 : (t : Int) - 2 = (t2 : Int) := by rw [Ht.out, H2.out]; omega
  have i7 : (t : Int) - 7 = (t7 : Int) := by rw [Ht.out, H7.out]; omega
  have i15 : (t : Int) - 15 = (t15 : Int) := by rw [Ht.out, H15.out]; omega
  have i16 : (t : Int) - 16 = (t16 : Int) := by rw [Ht.out]; omega
  have l2 : t2 < t := by rw [Ht.out, H2.out]; omega
  have l7 : t7 < t := by rw [Ht.out, H7.out]; omega
  have l15 : t15 < t := by rw [Ht.out, H15.out]; omega
  have l16 : t16 < t := by rw [Ht.out]; omega
  have HCW : Hid (∀ j, j < t → wi.cell? ⟨gw, j, none⟩ = some (.int .u32 (W j))) := fun j hj => by rw [← wl_getD W t j hj]; exact hx.cellAt j (by rw [wl_length]; exact hj)
  have c2 := HCW.out t2 l2
  have c15 := HCW.out t15 l15
  have HWt : Hid (W t = IntKind.u32.wrap (IntKind.u32.wrap (IntKind.u32.wrap ((shi (W t2) 17 19 10) + W t7) + (shi (W t15) 7 18 3)) + W t16)) := by
    show W t = nxt (W t2) (W t7) (W t15) (W t16)
    rw [HW.out, Ht.out, H2.out, H7.out, H15.out]
    exact ext_rec _ t16 (by have := Ht.out; omega)
  have HX : Hid (OwnW wi wo.heap.size (.slice (some ⟨gw, 0, none⟩) t capw) (wl W t)) := hx
  have HB3 : Hid (Below wo.heap.size wo wi) := hb3
  clear hx hb3
  go_wp2
  go_quiet ((go_at_call 22; exact Calls.quiet_of_same (right_r _ _ _ (by decide) (by decide))))
  generalize hw4 : World.drewN _ _ = w4
  have c2' : w4.cell? ⟨gw, t2, none⟩ = some (.int .u32 (W t2)) := by rw [← hw4]; exact c2
  have HX4 : Hid (OwnW w4 wo.heap.size (.slice (some ⟨gw, 0, none⟩) t capw) (wl W t)) := by rw [← hw4]; exact HX.out
  have HB4 : Hid (Below wo.heap.size wo w4) := by rw [← hw4]; exact ⟨HB3.out.os, HB3.out.tape, HB3.out.output, HB3.out.size, HB3.out.block⟩
  clear hw4 c2 c15 HX HB3 HCW
  go_wp2
  go_quiet ((go_at_call 22; exact Calls.quiet_of_same (right_r _ _ _ (by decide) (by decide))))
  generalize hw5 : World.drewN _ _ = wy
  have hy : OwnW wy wo.heap.size (.slice (some ⟨gw, 0, none⟩) t capw) (wl W t) := by rw [← hw5]; exact HX4.out
  have hby0 : Below wo.heap.size wo wy := by rw [← hw5]; exact ⟨HB4.out.os, HB4.out.tape, HB4.out.output, HB4.out.size, HB4.out.block⟩
  have c7 : wy.cell? ⟨gw, t7, none⟩ = some (.int .u32 (W t7)) := by rw [← wl_getD W t t7 l7]; exact hy.cellAt t7 (by rw [wl_length]; exact l7)
  have c16 : wy.cell? ⟨gw, t16, none⟩ = some (.int .u32 (W t16)) := by rw [← wl_getD W t t16 l16]; exact hy.cellAt t16 (by rw [wl_length]; exact l16)
  have hgwy : gw < wy.heap.size := World.block_lt_of_cell? _ _ c7
  clear hw5 c2' HX4 HB4 i2 i15
  go_wp2
  refine wp_region_any (by kernel_rfl) ?_
  change wpAny _ _ _ _ _ _ _ (World.drew _)
  refine wpAny_take (i := 0) (v := .slice (some ⟨gw, 0, none⟩) t capw) rfl (by kernel_rfl) (by kernel_rfl) (by kernel_rfl) (fun _ _ _ h => h) (Or.inl ⟨by kernel_rfl, fun _ => by kernel_rfl⟩) ?_
  refine wpAny_take (i := 1) (v := .int .u32 (shi (W t2) 17 19 10)) rfl (by kernel_rfl) (by kernel_rfl) (by kernel_rfl) (fun _ _ _ h => h) (Or.inl ⟨by kernel_rfl, fun _ => by kernel_rfl⟩) ?_
  refine wpAny_take (i := 2) (v := .slice (some ⟨gw, 0, none⟩) t capw) rfl (by kernel_rfl) (by kernel_rfl) (by kernel_rfl) (fun _ _ _ h => h) (Or.inl ⟨by kernel_rfl, fun _ => by kernel_rfl⟩) ?_
  refine wpAny_take (i := 3) (v := .int .i64 t) rfl (by kernel_rfl) (by kernel_rfl) (by kernel_rfl) (fun _ _ _ h => h) (Or.inl ⟨by kernel_rfl, fun _ => by kernel_rfl⟩) ?_
  refine wpAny_take (i := 4) (v := .int .i64 t7) rfl (by kernel_rfl) (by kernel_rfl) (by kernel_rfl) (fun _ _ _ h => h) (Or.inl ⟨by kernel_rfl, fun wx => by go_simp; try first | omega | (intro hq; omega) | (rw [IntKind.wrap_u32]; omega) | (rw [IntKind.wrap_i64]; omega)⟩) ?_
  refine wpAny_take (i := 5) (v := .pointer (some ⟨gw, t7, none⟩)) rfl (by kernel_rfl) (by kernel_rfl) (by kernel_rfl) (fun _ _ _ h => h) (Or.inl ⟨by kernel_rfl, fun wx => by go_simp; try first | omega | (intro hq; omega) | (rw [IntKind.wrap_u32]; omega) | (rw [IntKind.wrap_i64]; omega)⟩) ?_
  refine wpAny_take (i := 8) (v := .int .u32 (shi (W t15) 7 18 3)) rfl (by kernel_rfl) (by kernel_rfl) (by kernel_rfl) (fun _ _ _ h => h) (Or.inl ⟨by kernel_rfl, fun _ => by kernel_rfl⟩) ?_
  refine wpAny_take (i := 10) (v := .slice (some ⟨gw, 0, none⟩) t capw) rfl (by kernel_rfl) (by kernel_rfl) (by kernel_rfl) (fun _ _ _ h => h) (Or.inl ⟨by kernel_rfl, fun _ => by kernel_rfl⟩) ?_
  refine wpAny_take (i := 11) (v := .int .i64 t) rfl (by kernel_rfl) (by kernel_rfl) (by kernel_rfl) (fun _ _ _ h => h) (Or.inl ⟨by kernel_rfl, fun _ => by kernel_rfl⟩) ?_
  refine wpAny_take (i := 12) (v := .int .i64 t16) rfl (by kernel_rfl) (by kernel_rfl) (by kernel_rfl) (fun _ _ _ h => h) (Or.inl ⟨by kernel_rfl, fun wx => by go_simp; try first | omega | (intro hq; omega) | (rw [IntKind.wrap_u32]; omega) | (rw [IntKind.wrap_i64]; omega)⟩) ?_
  refine wpAny_take (i := 13) (v := .pointer (some ⟨gw, t16, none⟩)) rfl (by kernel_rfl) (by kernel_rfl) (by kernel_rfl) (fun _ _ _ h => h) (Or.inl ⟨by kernel_rfl, fun wx => by go_simp; try first | omega | (intro hq; omega) | (rw [IntKind.wrap_u32]; omega) | (rw [IntKind.wrap_i64]; omega)⟩) ?_
  refine wpAny_ready (rs := [6, 14]) (by kernel_rfl) (by simp) (ready_load1 (o := { dst := some 120, op := .load 35 (.tmp 119), type := 35, pos := "ref.go:50", after := #[{ on := 5, ground := Ground.data }], guard := none }) rfl rfl (.tmp 119) rfl (by kernel_rfl) (show wy.drew.cell? _ = _ from c7) ?_ (ready_load1 (o := { dst := some 128, op := .load 35 (.tmp 127), type := 35, pos := "ref.go:50", after := #[{ on := 13, ground := Ground.data }], guard := none }) rfl rfl (.tmp 127) rfl (by kernel_rfl) (show wy.drew.cell? _ = _ from c16) ?_ AllReady.nil))
  · skip
    refine wpAny_take (i := 7) (v := .int .u32 (IntKind.u32.wrap ((shi (W t2) 17 19 10) + W t7))) rfl (by kernel_rfl) (by kernel_rfl) (by kernel_rfl) (fun _ _ _ h => h) (Or.inl ⟨by kernel_rfl, fun wx => by go_simp⟩) ?_
    refine wpAny_take (i := 9) (v := .int .u32 (IntKind.u32.wrap (IntKind.u32.wrap ((shi (W t2) 17 19 10) + W t7) + (shi (W t15) 7 18 3)))) rfl (by kernel_rfl) (by kernel_rfl) (by kernel_rfl) (fun _ _ _ h => h) (Or.inl ⟨by kernel_rfl, fun wx => by go_simp⟩) ?_
    refine wpAny_ready (rs := [14]) (by kernel_rfl) (by simp) (ready_load1 (o := { dst := some 128, op := .load 35 (.tmp 127), type := 35, pos := "ref.go:50", after := #[{ on := 13, ground := Ground.data }], guard := none }) rfl rfl (.tmp 127) rfl (by kernel_rfl) (show wy.drew.cell? _ = _ from c16) ?_ AllReady.nil)
    refine wpAny_take (i := 15) (v := .int .u32 (IntKind.u32.wrap (IntKind.u32.wrap (IntKind.u32.wrap ((shi (W t2) 17 19 10) + W t7) + (shi (W t15) 7 18 3)) + W t16))) rfl (by kernel_rfl) (by kernel_rfl) (by kernel_rfl) (fun _ _ _ h => h) (Or.inl ⟨by kernel_rfl, fun wx => by go_simp⟩) ?_
    have hby : Below wo.heap.size wo (wy.drew.alloc (.cells #[.int .u32 (IntKind.u32.wrap (IntKind.u32.wrap (IntKind.u32.wrap ((shi (W t2) 17 19 10) + W t7) + (shi (W t15) 7 18 3)) + W t16))] 35)) := (hby0.drew).alloc hby0.size _
    refine wpAny_ready (rs := [16]) (by kernel_rfl) (by simp) (ready_plain rfl rfl (fun Kc hK => wp_val (v := .slice (some ⟨wy.heap.size, 0, none⟩) 1 1) (w' := wy.drew.alloc (.cells #[.int .u32 (IntKind.u32.wrap (IntKind.u32.wrap (IntKind.u32.wrap ((shi (W t2) 17 19 10) + W t7) + (shi (W t15) 7 18 3)) + W t16))] 35)) (by kernel_rfl) (hK _ _ ?_)) AllReady.nil)
    refine wpAny_ready (rs := [17]) (by kernel_rfl) (by simp) (ready_plain rfl rfl (fun Kc hK => wp_appW (.tmp 114) (.tmp 130) rfl (by kernel_rfl) (OwnW.alloc (OwnW.drew hy) _) ⟨wy.heap.size, 0, none⟩ 1 1 (ys := [IntKind.u32.wrap (IntKind.u32.wrap (IntKind.u32.wrap ((shi (W t2) 17 19 10) + W t7) + (shi (W t15) 7 18 3)) + W t16)]) (by kernel_rfl) rfl (fun j hj => by rw [show j = 0 by omega]; exact cell_lit wy.drew _ 35 0 _ rfl) (by rw [wl_length]; omega) hby.size (fun v' w' hv' hb' => hK _ _ ?_)) AllReady.nil)
    refine wpAny_take (i := 18) (v := v') rfl (by kernel_rfl) (by kernel_rfl) (by kernel_rfl) (fun _ _ _ h => h) (Or.inl ⟨by kernel_rfl, fun wx => by kernel_rfl⟩) ?_
    refine wpAny_done (by kernel_rfl) ?_ _
    have hbw' := hby.trans hb'
    clear hby hb'
    go_simp
    go_wp2
    go_roundw
    case rel => exact ⟨t + 1, by omega, by go_num, by rw [wl_succ, HWt.out]; exact hv', hbw'⟩
    case measure => simp [intOf]; omega
  · refine wpAny_ready (rs := [6]) (by kernel_rfl) (by simp) (ready_load1 (o := { dst := some 120, op := .load 35 (.tmp 119), type := 35, pos := "ref.go:50", after := #[{ on := 5, ground := Ground.data }], guard := none }) rfl rfl (.tmp 119) rfl (by kernel_rfl) (show wy.drew.cell? _ = _ from c7) ?_ AllReady.nil)
    refine wpAny_take (i := 7) (v := .int .u32 (IntKind.u32.wrap ((shi (W t2) 17 19 10) + W t7))) rfl (by kernel_rfl) (by kernel_rfl) (by kernel_rfl) (fun _ _ _ h => h) (Or.inl ⟨by kernel_rfl, fun wx => by go_simp⟩) ?_
    refine wpAny_take (i := 9) (v := .int .u32 (IntKind.u32.wrap (IntKind.u32.wrap ((shi (W t2) 17 19 10) + W t7) + (shi (W t15) 7 18 3)))) rfl (by kernel_rfl) (by kernel_rfl) (by kernel_rfl) (fun _ _ _ h => h) (Or.inl ⟨by kernel_rfl, fun wx => by go_simp⟩) ?_
    refine wpAny_take (i := 15) (v := .int .u32 (IntKind.u32.wrap (IntKind.u32.wrap (IntKind.u32.wrap ((shi (W t2) 17 19 10) + W t7) + (shi (W t15) 7 18 3)) + W t16))) rfl (by kernel_rfl) (by kernel_rfl) (by kernel_rfl) (fun _ _ _ h => h) (Or.inl ⟨by kernel_rfl, fun wx => by go_simp⟩) ?_
    have hby : Below wo.heap.size wo (wy.drew.alloc (.cells #[.int .u32 (IntKind.u32.wrap (IntKind.u32.wrap (IntKind.u32.wrap ((shi (W t2) 17 19 10) + W t7) + (shi (W t15) 7 18 3)) + W t16))] 35)) := (hby0.drew).alloc hby0.size _
    refine wpAny_ready (rs := [16]) (by kernel_rfl) (by simp) (ready_plain rfl rfl (fun Kc hK => wp_val (v := .slice (some ⟨wy.heap.size, 0, none⟩) 1 1) (w' := wy.drew.alloc (.cells #[.int .u32 (IntKind.u32.wrap (IntKind.u32.wrap (IntKind.u32.wrap ((shi (W t2) 17 19 10) + W t7) + (shi (W t15) 7 18 3)) + W t16))] 35)) (by kernel_rfl) (hK _ _ ?_)) AllReady.nil)
    refine wpAny_ready (rs := [17]) (by kernel_rfl) (by simp) (ready_plain rfl rfl (fun Kc hK => wp_appW (.tmp 114) (.tmp 130) rfl (by kernel_rfl) (OwnW.alloc (OwnW.drew hy) _) ⟨wy.heap.size, 0, none⟩ 1 1 (ys := [IntKind.u32.wrap (IntKind.u32.wrap (IntKind.u32.wrap ((shi (W t2) 17 19 10) + W t7) + (shi (W t15) 7 18 3)) + W t16)]) (by kernel_rfl) rfl (fun j hj => by rw [show j = 0 by omega]; exact cell_lit wy.drew _ 35 0 _ rfl) (by rw [wl_length]; omega) hby.size (fun v' w' hv' hb' => hK _ _ ?_)) AllReady.nil)
    refine wpAny_take (i := 18) (v := v') rfl (by kernel_rfl) (by kernel_rfl) (by kernel_rfl) (fun _ _ _ h => h) (Or.inl ⟨by kernel_rfl, fun wx => by kernel_rfl⟩) ?_
    refine wpAny_done (by kernel_rfl) ?_ _
    have hbw' := hby.trans hb'
    clear hby hb'
    go_simp
    go_wp2
    go_roundw
    case rel => exact ⟨t + 1, by omega, by go_num, by rw [wl_succ, HWt.out]; exact hv', hbw'⟩
    case measure => simp [intOf]; omega

end Go.Proofs.YthfikoghbnicoabDoor
