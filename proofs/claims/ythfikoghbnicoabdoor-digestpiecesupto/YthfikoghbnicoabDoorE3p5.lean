/- The document's Sum: part 5. -/
import Derived.Test.YthfikoghbnicoabDoorE3
namespace Go.Proofs.YthfikoghbnicoabDoor
open Go.RowKit
attribute [local go_sem ↓] Go.wp_at_zero Go.wp_at_succ

set_option maxHeartbeats 40000000 in
set_option maxRecDepth 100000 in
theorem rpart5 : rskel.P5 := by
  unfold rskel
  intro v bs w M NB hNB0 L hML hL2 HMB HSH F HF HLN wA wB ina16 w1 w0 ina19 ina20 gm capm hgl hgc ina25 hb00 HC0 hszw0 gs Hgs gk Hgk hgs1 hgs2 hgk1 hgk2 hgm1 HK0 HO0 wr0 wo u7 u8 u9 u10 u11 u12 u13 u14 u15 u16 u17 u18 u25 u26 u27 u28 u29 u30 u31 u32 u33 u34 u35 u36 u37 u38 u39 u40 u41 u42 u43 u44 u45 u46 u47 u48 u49 u50 u51 u52 u53 u54 u55 u56 u57 u58 u59 u60 u61 u62 u63 u64 u65 u66 u67 u68 u69 u70 u71 u72 u73 u74 u75 u76 u77 u78 u79 u80 u81 u82 u83 u84 u85 u86 u87 u88 u89 u90 u91 u92 u93 u94 u95 u96 u97 u98 u99 u100 u101 u102 u103 u104 u105 u106 u107 u108 u109 u110 u111 u112 u113 u114 u115 u116 u117 u118 u119 u120 u121 u122 u123 u124 u125 u126 u127 u128 u129 u130 u131 u132 u133 u134 u135 u136 u137 u138 u139 u140 u141 u142 u143 u144 u145 u146 u147 u148 u149 u150 u151 u152 u153 u154 u155 u156 u157 u158 u159 u160 u161 u162 u163 u164 u165 u166 u167 u168 u169 u170 u171 u172 u173 u174 u175 u176 u177 u178 u179 u180 u181 u182 u183 u184 u185 u186 u187 u188 u189 u190 u191 u192 u193 u194 u195 u196 u197 u198 u199 u200 u201 u202 u203 u204 u205 u206 u207 u208 u209 u210 u211 u212 u213 u214 u215 u216 u217 u218 u219 u220 u221 u222 u223 u224 u225 u226 u227 u228 u229 u230 u231 u232 u233 u234 u235 u236 u237 u238 u239 u240 u241 u242 u243 u244 u245 u246 u247 u248 u249 u250 n A hn hA hS hgr hnN
  have hnB : n = NB := by omega
  subst hnB
  have hAL : A = L := by rw [HLN.out, hA]
  subst hAL
  obtain ⟨s, Hs⟩ : ∃ s, Hid (s = chain KL SL M n) := ⟨_, rfl⟩
  rw [← Hs.out] at hS
  have hHF : F = outB s := by rw [HF.out, HSH.out, Hs.out]
  have hOo : Arr wo w.heap.size 24 .u8 32 (fun _ => 0) := grown_arr HO0.out hgr (by omega)
  have hbo : Below w.heap.size w wo := below_of_grown hb00 hgr (by omega) (Nat.le_refl _)
  have hszo : w0.heap.size ≤ wo.heap.size := hgr.size
  obtain ⟨wp, hwp⟩ : ∃ wp, wp = (wo.alloc (.cells (arr .u8 32 (fun _ => 0)) 24)).setRow wo.heap.size (arr .u8 32 (fun _ => 0)) := ⟨_, rfl⟩
  have hap : Arr (wo.alloc (.cells (arr .u8 32 (fun _ => 0)) 24)) wo.heap.size 24 .u8 32 (fun _ => 0) := Arr.new _ _ _ _ _
  have hbp : Below wo.heap.size wo wp := by rw [hwp]; exact below_setRow' ((Below.refl _ wo).alloc (Nat.le_refl _) _) (Nat.le_refl _) _
  have hGp : Arr wp wo.heap.size 24 .u8 32 (fun j => if j < 4 * 0 then F j else 0) := by rw [hwp]; exact setRow_heap _ _ _ _ _ _ hap
  have HSp : Hid (Arr wp gs 35 .u32 8 s) := hS.below hbp
  have HOp : Hid (Arr wp w.heap.size 24 .u8 32 (fun _ => 0)) := hOo.below hbp
  have hbwp : Below w.heap.size w wp := hbo.trans (hbp.mono hbo.size)
  have hgo1 : w.heap.size < wo.heap.size := by omega
  have hgo2 : gs < wo.heap.size := by omega
  have HF2 : Hid (F = outB s) := hHF
  clear hS hgr hOo hbo hbp hHF HF
  go_wp2_with (show wpList _ _ _ (({ dst := some 251, op := Op.build 24 #[], type := 24, pos := "ref.go:64", after := #[], guard := none } : Oper) :: _) _ _
               refine wpList_val rfl (build24 _ _ 251 "ref.go:64") ?_
               refine wpList_val rfl (alloc24 _ wo 19 "ref.go:64") ?_
               refine wpList_store_row rfl 24 (.tmp 19) (.tmp 251) rfl wo.heap.size (arr .u8 32 (fun _ => 0)) rfl rfl 24 (arr .u8 32 (fun _ => 0)) hap (by rw [arr_size]; exact info24) (by rw [arr_size]) (arr_one _ _ _) ?_
               rw [← hwp]
               clear hwp hap)
  obtain ⟨go, Hgo⟩ : ∃ go, Hid (go = wo.heap.size) := ⟨_, rfl⟩
  rw [← Hgo.out] at hGp hgo1 hgo2 ⊢
  have hgne : gs ≠ go := by omega
  have hgne' : go ≠ gs := by omega
  go_loopw [20] (fun i wr => ∃ q : Nat, q ≤ 8 ∧ i = .int .i64 q ∧ Arr wr go 24 .u8 32 (fun j => if j < 4 * q then F j else 0) ∧ Hid (Arr wr gs 35 .u32 8 s) ∧ Hid (Arr wr w.heap.size 24 .u8 32 (fun _ => 0)) ∧ Below w.heap.size w wr) (fun i _ => 8 - (intOf i).toNat)
  case atStart => exact ⟨0, Nat.zero_le _, rfl, hGp, HSp, HOp, hbwp⟩
  case round =>
    clear hGp HSp HOp hbwp
    obtain ⟨q, hq, rfl, hG, HSq, HOq, hbq⟩ := hrel
    rename World => w9
    by_cases hq8 : q < 8
    · have cs := Arr.cell HSq.out q hq8
      have g0 := hG.cell (4 * q) (by omega)
      have g1 := hG.cell (4 * q + 1) (by omega)
      have g2 := hG.cell (4 * q + 2) (by omega)
      have g3 := hG.cell (4 * q + 3) (by omega)
      simp only [show ¬ 4 * q < 4 * q by omega, show ¬ 4 * q + 1 < 4 * q by omega, show ¬ 4 * q + 2 < 4 * q by omega, show ¬ 4 * q + 3 < 4 * q by omega, if_false] at g0 g1 g2 g3
      have f0 := hG.frozen (4 * q)
      have f1 := hG.frozen (4 * q + 1)
      have f2 := hG.frozen (4 * q + 2)
      have f3 := hG.frozen (4 * q + 3)
      have q0 : (0 : Int) ≤ (q : Int) := by omega
      have q8 : (q : Int) < 8 := by omega
      have HG : Hid (Arr w9 go 24 .u8 32 (fun j => if j < 4 * q then F j else 0)) := hG
      clear hG
      go_wp2
      go_roundw
      case rel =>
        refine ⟨q + 1, by omega, by go_num, ?_, ?_, ?_, ?_⟩
        · have := (((Arr.store HG.out (4 * q) (s q / 16777216 % 256)).store (4 * q + 1) (s q / 65536 % 256)).store (4 * q + 2) (s q / 256 % 256)).store (4 * q + 3) (s q % 256)
          rw [upd4 F q _ _ _ _ (by rw [HF2.out, outB_0]) (by rw [HF2.out, outB_1]) (by rw [HF2.out, outB_2]) (by rw [HF2.out, outB_3])] at this
          exact this
        · exact (((Arr.setOther HSq.out _ _ _ hgne).setOther _ _ _ hgne).setOther _ _ _ hgne).setOther _ _ _ hgne
        · exact (((Arr.setOther HOq.out _ _ _ (by omega)).setOther _ _ _ (by omega)).setOther _ _ _ (by omega)).setOther _ _ _ (by omega)
        · have hle : w.heap.size ≤ go := by omega
          exact (((hbq.setCell hle _).setCell hle _).setCell hle _).setCell hle _
      case measure => simp [intOf]; omega
    · have hq' : q = 8 := by omega
      subst hq'
      have ec : arr .u8 32 (fun j => if j < 4 * 8 then F j else 0) = arr .u8 32 F := arr_congr (fun j hj => by simp [hj])
      have hG' : Arr w9 go 24 .u8 32 F := by unfold Arr at hG ⊢; rw [← ec]; exact hG
      have hO' := HOq.out
      clear ec hG
      go_wp2_with (first
        | (refine wpList_load_row rfl 24 (.tmp 19) rfl go rfl 24 (arr .u8 32 F) (0, 0) (.array 32 5) hG' Tryd.underlying24 rfl (by rw [arr_size]; exact info24) ?_)
        | (refine wpList_store_row rfl 24 (.tmp 2) (.tmp 294) rfl w.heap.size (arr .u8 32 F) rfl rfl 24 (arr .u8 32 (fun _ => 0)) hO' (by rw [arr_size]; exact info24) (by rw [arr_size, arr_size]) (arr_one _ _ _) ?_))
      have hsr := setRow_heap w9 w.heap.size _ (arr .u8 32 F) 24 (0, 0) hO'
      refine bodyPost_ret (v := .agg (arr .u8 32 F)) (results_cell_row (p := 2) Tryd.results11 _ _ w.heap.size 24 _ (0, 0) (.array 32 5) (by kernel_rfl) hsr Tryd.underlying24 rfl (by rw [arr_size]; exact info24)) rfl ⟨rfl, ?_⟩
      exact below_setRow' hbq (Nat.le_refl _) _

end Go.Proofs.YthfikoghbnicoabDoor
