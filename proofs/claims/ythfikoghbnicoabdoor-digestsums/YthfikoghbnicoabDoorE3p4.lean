/- The document's Sum: part 4. -/
import Derived.Test.YthfikoghbnicoabDoorE3
namespace Go.Proofs.YthfikoghbnicoabDoor
open Go.RowKit
attribute [local go_sem ↓] Go.wp_at_zero Go.wp_at_succ

set_option maxHeartbeats 40000000 in
set_option maxRecDepth 100000 in
theorem rpart4 : rskel.P4 := by
  unfold rskel
  intro v bs w M NB hNB0 L hML hL2 HMB HSH F HF HLN wA wB ina16 w1 w0 ina19 ina20 gm capm hgl hgc ina25 hb00 HC0 hszw0 gs Hgs gk Hgk hgs1 hgs2 hgk1 hgk2 hgm1 HK0 HO0 wr0 wo u7 u8 ina44 ina45 ina46 u12 u13 ina49 ina50 ina51 ina52 u18 u25 u26 u27 u28 u29 u30 u31 ina61 ina62 ina63 ina64 ina65 ina66 ina67 ina68 ina69 ina70 ina71 ina72 ina73 ina74 ina75 ina76 ina77 ina78 ina79 ina80 ina81 ina82 ina83 ina84 ina85 ina86 ina87 ina88 ina89 ina90 ina91 ina92 ina93 ina94 ina95 ina96 ina97 ina98 ina99 ina100 ina101 ina102 ina103 ina104 ina105 ina106 ina107 ina108 ina109 ina110 ina111 ina112 ina113 ina114 ina115 ina116 ina117 ina118 ina119 ina120 ina121 ina122 ina123 ina124 ina125 ina126 ina127 ina128 ina129 ina130 ina131 ina132 ina133 ina134 ina135 ina136 ina137 ina138 ina139 ina140 ina141 ina142 ina143 ina144 ina145 ina146 ina147 ina148 ina149 ina150 ina151 ina152 ina153 ina154 ina155 ina156 ina157 ina158 ina159 ina160 u132 u133 u134 ina164 ina165 ina166 ina167 ina168 ina169 ina170 ina171 ina172 ina173 ina174 ina175 ina176 ina177 ina178 ina179 ina180 ina181 ina182 ina183 ina184 ina185 ina186 ina187 ina188 ina189 ina190 ina191 ina192 ina193 ina194 ina195 ina196 ina197 ina198 ina199 ina200 ina201 ina202 ina203 ina204 ina205 ina206 ina207 ina208 ina209 ina210 ina211 ina212 ina213 ina214 ina215 ina216 ina217 ina218 ina219 ina220 ina221 ina222 ina223 ina224 ina225 ina226 ina227 ina228 ina229 ina230 ina231 ina232 ina233 ina234 ina235 ina236 ina237 ina238 ina239 ina240 ina241 ina242 ina243 ina244 ina245 ina246 ina247 ina248 ina249 ina250 ina251 ina252 ina253 ina254 ina255 ina256 ina257 ina258 ina259 ina260 ina261 ina262 ina263 u235 u236 u237 u238 u239 u240 u241 u242 u243 u244 u245 u246 u247 u248 u249 u250 n A hn hnN W HW hAL hALn hALi s Hs HCr HKr HSr HGR HA hszr hgmr ina298 ina299 ina300 ina301 w2 wi u9 u10 u11 u32 u33 u34 u35 u36 u37 u38 u39 u40 u41 u42 u43 u44 u45 u46 u47 u48 u49 u50 u51 u52 u53 u54 u55 u56 u57 u58 u59 u60 u61 u62 u63 u64 u65 u66 u67 u68 u69 u70 u71 u72 u73 u74 u75 u76 u77 u78 u79 u80 u81 u82 u83 u84 u85 u86 u87 u88 u89 u90 u91 u92 u93 u94 u95 u96 u97 u98 u99 u100 u101 u102 u103 u104 u105 u106 u107 u108 u109 u110 u111 u112 u113 u114 u115 u116 u117 u118 u119 u120 u121 u122 u123 u124 u125 u126 u127 u128 u129 u130 u131 ina407 ht16 ina409 gw capw hgw hgwc hgwm hgwl HCW HSi HKi HB3 ina420 ina421 ina422 w4 ina424 ina425 gv0 capv0 w5 u14 u15 u16 u17 u135 u136 u137 u138 u139 u140 u141 u142 u143 u144 u145 u146 u147 u148 u149 u150 u151 u152 u153 u154 u155 u156 u157 u158 u159 u160 u161 u162 u163 u164 u165 u166 u167 u168 u169 u170 u171 u172 u173 u174 u175 u176 u177 u178 u179 u180 u181 u182 u183 u184 u185 u186 u187 u188 u189 u190 u191 u192 u193 u194 u195 u196 u197 u198 u199 u200 u201 u202 u203 u204 u205 u206 u207 u208 u209 u210 u211 u212 u213 u214 u215 u216 u217 u218 u219 u220 u221 u222 u223 u224 u225 u226 u227 u228 u229 u230 u231 u232 u233 u234 t gv capv V ht hcv hcm HVt HCV hgv hb5 ht64
  have ht' : t = 64 := by omega
  subst ht'
  have hS5 : Arr w5 gs 35 .u32 8 (fun j => if j < 0 then IntKind.u32.wrap (s j + V j) else s j) := by
    have := Arr.below HSi.out hb5
    simpa using this
  have hgr5 : w0.grownBy w5 (some gs) := grown_trans HGR.out (grown_of_below (HB3.out.trans (hb5.mono HB3.out.size)))
  have hgvs : gv ≠ gs := by have := HB3.out.size; omega
  have hgsv : gs ≠ gv := Ne.symm hgvs
  clear hb5
  go_wp2
  go_loopw [18] (fun i wr => ∃ q : Nat, q ≤ 8 ∧ i = .int .i64 q ∧ Arr wr gs 35 .u32 8 (fun j => if j < q then IntKind.u32.wrap (s j + V j) else s j) ∧ Hid (∀ j, j < 8 → wr.cell? ⟨gv, j, none⟩ = some (.int .u32 (V j))) ∧ w0.grownBy wr (some gs)) (fun i _ => 8 - (intOf i).toNat)
  case atStart => exact ⟨0, Nat.zero_le _, rfl, hS5, HCV, hgr5⟩
  case round =>
    clear hS5 HCV hgr5
    obtain ⟨q, hq, rfl, hSq, HCV, hgr⟩ := hrel
    rename World => w8
    by_cases hq8 : q < 8
    · have cs := hSq.cell q hq8
      simp only [Nat.lt_irrefl, if_false] at cs
      have fs := hSq.frozen q
      have cv := HCV.out q hq8
      have HU : Hid (upd (fun j => if j < q then IntKind.u32.wrap (s j + V j) else s j) q (IntKind.u32.wrap (s q + V q)) = fun j => if j < q + 1 then IntKind.u32.wrap (s j + V j) else s j) := by
        funext j
        unfold upd
        by_cases hj : j = q
        · subst hj; simp
        · simp only [hj, if_false]
          by_cases hjq : j < q
          · simp [hjq, Nat.lt_succ_of_lt hjq]
          · simp [hjq, show ¬ j < q + 1 by omega]
      have hST : Arr (w8.setCell ⟨gs, q, none⟩ (.int .u32 (IntKind.u32.wrap (s q + V q)))) gs 35 .u32 8 (fun j => if j < q + 1 then IntKind.u32.wrap (s j + V j) else s j) := by
        rw [← HU.out]; exact hSq.store q _
      have hGT : w0.grownBy (w8.setCell ⟨gs, q, none⟩ (.int .u32 (IntKind.u32.wrap (s q + V q)))) (some gs) := grown_trans hgr (grown_set _ _ _ _)
      have HCT : Hid (∀ j, j < 8 → (w8.setCell ⟨gs, q, none⟩ (.int .u32 (IntKind.u32.wrap (s q + V q)))).cell? ⟨gv, j, none⟩ = some (.int .u32 (V j))) := fun j hj => (grown_set w8 gs q _).cell (HCV.out j hj) (by simp; exact hgvs)
      have HST : Hid (Arr (w8.setCell ⟨gs, q, none⟩ (.int .u32 (IntKind.u32.wrap (s q + V q)))) gs 35 .u32 8 (fun j => if j < q + 1 then IntKind.u32.wrap (s j + V j) else s j)) := hST
      have HGT : Hid (w0.grownBy (w8.setCell ⟨gs, q, none⟩ (.int .u32 (IntKind.u32.wrap (s q + V q)))) (some gs)) := hGT
      rw [IntKind.wrap_u32'] at HCT HST HGT
      have q0 : (0 : Int) ≤ (q : Int) := by omega
      have q8 : (q : Int) < 8 := by omega
      clear hST hGT hSq hgr HU
      go_wp2
      go_region
      clear cs fs cv
      go_wp2
      go_roundw
      case rel => exact ⟨q + 1, by omega, by go_num, HST.out, HCT.out, grown_drew HGT.out⟩
      case measure => simp [intOf]; omega
    · have hq' : q = 8 := by omega
      subst hq'
      have hSN : Arr w8 gs 35 .u32 8 (chain KL SL M (n + 1)) := by
        have e : arr .u32 8 (fun j => if j < 8 then IntKind.u32.wrap (s j + V j) else s j) = arr .u32 8 (chain KL SL M (n + 1)) := arr_congr (fun j hj => by
          rw [if_pos hj, HVt.out, Hs.out, HW.out]
          rfl)
        unfold Arr at hSq ⊢
        rw [← e]; exact hSq
      have HSN : Hid (Arr w8 gs 35 .u32 8 (chain KL SL M (n + 1))) := hSN
      have HGN : Hid (w0.grownBy w8 (some gs)) := hgr
      clear hSN hSq hgr
      go_wp2
      go_roundw
      case rel => exact ⟨n + 1, A + 64, by omega, by rw [HA.out]; omega, by go_num, HSN.out, HGN.out⟩
      case measure => simp [intOf]; omega

end Go.Proofs.YthfikoghbnicoabDoor
