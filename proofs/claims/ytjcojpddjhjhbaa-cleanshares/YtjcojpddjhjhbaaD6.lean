/- The document's Shares. -/
import Derived.Test.YtjcojpddjhjhbaaD5
namespace Go.Proofs.Ytjcojpddjhjhbaa
open Go.RowKit Go.Lib

section
variable {w : World}
set_option maxHeartbeats 8000000 in
set_option maxRecDepth 100000 in
theorem rshares9 (v u : Value) (F : List Fl) (L : List Sp) (h : RdF w v F) (hF : F.length ≤ 5000000000000) (hu : RdE sp2 2 q0 w u L) (hL : L.length ≤ 9000000000000) :
    Calls Try.prog 9 #[v, u] w fun e w' => ∃ x, e = .returned x ∧ OwnE sh3 3 27 w' w.heap.size x (F.map (shr L)) ∧ Below w.heap.size w w' := by
  have H := Hid.mk h
  have HU := Hid.mk hu
  obtain ⟨a, c, rfl, hlc, hcm, _⟩ := h.shape
  obtain ⟨au, cu, rfl, hlu, hcu, _⟩ := hu.shape
  obtain ⟨n, Hn⟩ : ∃ n, Hid (F.length = n) := ⟨_, ⟨rfl⟩⟩
  obtain ⟨k, Hk⟩ : ∃ n, Hid (L.length = n) := ⟨_, ⟨rfl⟩⟩
  rw [Hn.out] at H hF hlc ⊢
  rw [Hk.out] at HU hL hlu ⊢
  have hcx : c ≤ 9223372036854775807 := hcm
  have HTe : Hid (F.take n = F) := ⟨List.take_of_length_le (by rw [Hn.out]; exact Nat.le_refl _)⟩
  have HO0 : Hid (OwnE sh3 3 27 (w.alloc (.cells #[] 27)) w.heap.size (.slice (some ⟨w.heap.size, 0, none⟩) 0 0) []) := ⟨OwnE.none sh3 3 27 w⟩
  clear h hu
  go_enter Try.func9, Try.ntmps9
  go_wp2_with fail
  go_loopg [5, 6, 7, 8, 9] n (fun gg s5 s6 _ _ _ wr => ∃ i : Nat, i ≤ n ∧ n - i ≤ gg ∧ s6 = .int .i64 (i : Int) ∧ Hid (OwnE sh3 3 27 wr w.heap.size s5 ((F.take i).map (shr L))) ∧ Hid (Below w.heap.size w wr))
  case atStart => exact ⟨0, Nat.zero_le _, by omega, rfl, HO0, ⟨(Below.refl _ w).alloc (Nat.le_refl _) _⟩⟩
  case round =>
    clear HO0
    obtain ⟨i, hi, hgg, rfl, HO, HB⟩ := hrel
    rename World => wo
    obtain ⟨a9, c9, e9, _⟩ := (HO.out.rd s0).shape
    subst e9
    obtain ⟨PR, HPR⟩ : ∃ x, Hid ((F.take i).map (shr L) = x) := ⟨_, ⟨rfl⟩⟩
    have HPl : Hid (PR.length = i) := ⟨by rw [← HPR.out, List.length_map, List.length_take]; have := Hn.out; omega⟩
    rw [HPR.out, HPl.out] at HO
    rw [HPR.out, HPl.out]
    by_cases hlt : i < n
    · have hltz : (i : Int) < (n : Int) := by omega
      have hiF : i < F.length := by rw [Hn.out]; exact hlt
      obtain ⟨g, off, cap, sl, e, h1, h2, h3⟩ := H.out.at' i hiF
      rw [Hn.out] at e
      simp at e
      obtain ⟨rfl, rfl⟩ := e
      have HSn := Hid.mk (map_snoc (shr L) F hiF)
      rw [HPR.out] at HSn
      generalize F.getD i f0 = f at h1 h3 HSn
      obtain ⟨bn, ls⟩ := f
      simp only at h1 h3
      obtain ⟨al, cl, el, hlcl, hclm, _⟩ := h3.shape
      subst el
      have hclx : cl ≤ 9223372036854775807 := hclm
      obtain ⟨ln, Hln⟩ : ∃ x, Hid (ls.length = x) := ⟨_, ⟨rfl⟩⟩
      rw [Hln.out] at h2 h3 hlcl
      obtain ⟨m, Hm⟩ : ∃ m, Hid (min ln 64 = m) := ⟨_, ⟨rfl⟩⟩
      have hmn : m ≤ ln := by have := Hm.out; omega
      have hm64 : m ≤ 64 := by have := Hm.out; omega
      have Hshr : Hid (shr L (bn, ls) = (bn, sumA ls m, sumL L bn ls m)) := ⟨by unfold shr; simp only; rw [Hln.out, Hm.out]⟩
      have HF := Hid.mk (sums_fit L bn ls)
      have Hin1 := Hid.mk h1
      have Hin2 := Hid.mk h2
      have HRl := Hid.mk h3
      have g1o : wo.cell? ⟨g, off + i * 2, none⟩ = some (.int .i64 bn) := (HB.out.cell (p := ⟨g, off + i * 2, none⟩) (World.block_lt_of_cell? _ _ h1)).trans h1
      obtain ⟨w3, Hw3⟩ : ∃ x, Hid (wo.alloc (.cells #[.int .i64 bn, .int .i64 0, .int .i64 0] 27) = x) := ⟨_, ⟨rfl⟩⟩
      have HB3 : Hid (Below wo.heap.size wo w3) := ⟨by rw [← Hw3.out]; exact (Below.refl _ wo).alloc (Nat.le_refl _) _⟩
      have HQ3 : Hid (w3.heap[wo.heap.size]? = some (.cells #[.int .i64 bn, .int .i64 0, .int .i64 0] 27 (0, 0))) := ⟨by rw [← Hw3.out]; exact heap_alloc_new wo _⟩
      obtain ⟨q, Hq⟩ : ∃ x, Hid (wo.heap.size = x) := ⟨_, ⟨rfl⟩⟩
      rw [Hq.out] at HQ3
      have Hqn : Hid (q ∉ ob (.slice a9 i c9)) := ⟨fun hm => by have := (HO.out.lt q hm).2; have := Hq.out; omega⟩
      have Hqw : Hid (w.heap.size ≤ q) := ⟨by rw [← Hq.out]; exact HB.out.size⟩
      have HO3 : Hid (OwnE sh3 3 27 w3 w.heap.size (.slice a9 i c9) PR) := ⟨HO.out.far (Chg.ofBelow (X := []) HB3.out) (by simp)⟩
      have HB03 : Hid (Below w.heap.size w w3) := ⟨HB.out.trans (HB3.out.mono HB.out.size)⟩
      clear h1 h2 h3 HO HB HB3
      go_upto_region 7 with fail
      rw [Hw3.out, Hq.out]
      clear g1o Hw3
      go_loopg [8, 9] m (fun gg2 s8 _ wr => ∃ j : Nat, j ≤ m ∧ m - j ≤ gg2 ∧ s8 = .int .i64 (j : Int) ∧ Hid (wr.heap[q]? = some (.cells #[.int .i64 bn, .int .i64 (sumA ls j), .int .i64 (sumL L bn ls j)] 27 (0, 0))) ∧ Hid (OwnE sh3 3 27 wr w.heap.size (.slice a9 i c9) PR) ∧ Hid (Below w.heap.size w wr))
      case atStart => exact ⟨0, Nat.zero_le _, by omega, rfl, HQ3, HO3, HB03⟩
      case round =>
        clear HQ3 HO3 HB03
        obtain ⟨j, hj, hgg2, rfl, HQ, HOk, HBk⟩ := hrel
        rename World => wk
        have HAs : Hid (sumA ls (j + 1) = sumA ls j + cnt (ls.getD j 0)) := ⟨rfl⟩
        have HLs : Hid (sumL L bn ls (j + 1) = sumL L bn ls j + (if (bn, (j : Int)) ∈ L then cnt (ls.getD j 0) else 0)) := ⟨rfl⟩
        have hfit := HF.out j
        have HAe : Hid (m = j → sumA ls m = sumA ls j ∧ sumL L bn ls m = sumL L bn ls j) := ⟨fun e => by rw [e]; exact ⟨rfl, rfl⟩⟩
        obtain ⟨A, HA⟩ : ∃ x, Hid (sumA ls j = x) := ⟨_, ⟨rfl⟩⟩
        obtain ⟨V, HV⟩ : ∃ x, Hid (sumL L bn ls j = x) := ⟨_, ⟨rfl⟩⟩
        rw [HA.out] at HQ HAs hfit HAe
        rw [HV.out] at HQ HLs hfit HAe
        have m0 : wk.cell? ⟨q, 0, none⟩ = some (.int .i64 bn) := by rw [cell_of_row _ _ _ _ _ _ HQ.out]; rfl
        have m1 : wk.cell? ⟨q, 1, none⟩ = some (.int .i64 A) := by rw [cell_of_row _ _ _ _ _ _ HQ.out]; rfl
        have m2 : wk.cell? ⟨q, 2, none⟩ = some (.int .i64 V) := by rw [cell_of_row _ _ _ _ _ _ HQ.out]; rfl
        have g1 : wk.cell? ⟨g, off + i * 2, none⟩ = some (.int .i64 bn) := (HBk.out.cell (p := ⟨g, off + i * 2, none⟩) (World.block_lt_of_cell? _ _ Hin1.out)).trans Hin1.out
        have g2 : wk.cell? ⟨g, off + i * 2 + 1, none⟩ = some (.slice al ln cl) := (HBk.out.cell (p := ⟨g, off + i * 2 + 1, none⟩) (World.block_lt_of_cell? _ _ Hin2.out)).trans Hin2.out
        by_cases hjm : j < m
        · have hj1 : (j : Int) < (ln : Int) := by omega
          have hj2 : (j : Int) < 64 := by omega
          have hjl : j < ls.length := by rw [Hln.out]; omega
          have hRd : RdI wk (.slice al ln cl) ls := HRl.out.far (Chg.ofBelow (X := []) HBk.out) (by simp)
          obtain ⟨gl, ol, cpl, e, _, hc⟩ := hRd.at hjl
          rw [Hln.out] at e
          simp at e
          obtain ⟨rfl, rfl⟩ := e
          have e1 := hc j hjl
          clear hc hRd
          generalize ls.getD j 0 = x at e1 HAs HLs
          have hjln : ¬ ln ≤ j := by omega
          by_cases hin : 1 ≤ x ∧ x ≤ 512
          · have hx1 : ¬ x < 1 := by omega
            have hx2 : ¬ 512 < x := by omega
            have HcX : Hid (cnt x = x) := ⟨by unfold cnt; rw [if_pos hin]⟩
            rw [HcX.out] at HAs HLs
            have HAn : Hid (sumA ls (j + 1) = A + x) := HAs
            clear hin
            have f1 : wk.frozen? ⟨q, 1, none⟩ = false := frozen_of_row wk q _ _ 27 HQ.out
            obtain ⟨w2, Hw2⟩ : ∃ z, Hid (wk.setCell ⟨q, 1, none⟩ (.int .i64 (A + x)) = z) := ⟨_, ⟨rfl⟩⟩
            have HC2 : Hid (Chg [q] wk w2) := ⟨by rw [← Hw2.out]; exact (Chg.refl [q] wk).setCell (.inl (by simp)) _⟩
            have HQ2 : Hid (w2.heap[q]? = some (.cells #[.int .i64 bn, .int .i64 (A + x), .int .i64 V] 27 (0, 0))) := ⟨by rw [← Hw2.out]; have := heap_setCell_same wk q 1 _ 27 (.int .i64 (A + x)) HQ.out; simpa using this⟩
            have HO2 : Hid (OwnE sh3 3 27 w2 w.heap.size (.slice a9 i c9) PR) := ⟨HOk.out.far HC2.out (fun y hy hm => by simp at hm; subst hm; exact Hqn.out hy)⟩
            have HB2 : Hid (Below w.heap.size w w2) := ⟨HBk.out.trans (HC2.out.below HBk.out.size (by have := Hqw.out; simpa using this))⟩
            have t3 := has20 (w := w2) (.slice au k cu) L bn (j : Int) (HU.out.far (Chg.ofBelow (X := []) HB2.out) (by simp)) (by rw [Hk.out]; omega)
            have d0 : w2.cell? ⟨q, 0, none⟩ = some (.int .i64 bn) := by rw [cell_of_row _ _ _ _ _ _ HQ2.out]; rfl
            obtain ⟨y, Hy⟩ : ∃ y, Hid (decide ((bn, (j : Int)) ∈ L) = y) := ⟨_, ⟨rfl⟩⟩
            rw [Hy.out] at t3
            go_upto_region 13 with fail
            rw [Hw2.out]
            clear m0 m1 m2 g1 g2 e1 f1 Hw2
            go_wp2_with fail
            refine t3.mono ?_
            rintro e w3 ⟨rfl, rfl⟩
            clear t3 d0
            cases y with
            | false =>
              have hns : ¬ (bn, (j : Int)) ∈ L := of_decide_eq_false Hy.out
              have HLn : Hid (sumL L bn ls (j + 1) = V) := ⟨by rw [HLs.out, if_neg hns]; omega⟩
              clear hns
              go_wp2_with fail
              go_roundg (m - (j + 1))
              case measure => omega
              case rel => exact ⟨j + 1, by omega, by omega, by go_num, ⟨by rw [HAn.out, HLn.out]; exact HQ2.out⟩, HO2, HB2⟩
            | true =>
              have hns : (bn, (j : Int)) ∈ L := of_decide_eq_true Hy.out
              have HLn : Hid (sumL L bn ls (j + 1) = V + x) := ⟨by rw [HLs.out, if_pos hns]⟩
              clear hns
              have k2 : w2.cell? ⟨q, 2, none⟩ = some (.int .i64 V) := by rw [cell_of_row _ _ _ _ _ _ HQ2.out]; rfl
              have f2 : w2.frozen? ⟨q, 2, none⟩ = false := frozen_of_row w2 q _ _ 27 HQ2.out
              obtain ⟨w4, Hw4⟩ : ∃ z, Hid (w2.setCell ⟨q, 2, none⟩ (.int .i64 (V + x)) = z) := ⟨_, ⟨rfl⟩⟩
              have HC4 : Hid (Chg [q] w2 w4) := ⟨by rw [← Hw4.out]; exact (Chg.refl [q] w2).setCell (.inl (by simp)) _⟩
              have HQ4 : Hid (w4.heap[q]? = some (.cells #[.int .i64 bn, .int .i64 (A + x), .int .i64 (V + x)] 27 (0, 0))) := ⟨by rw [← Hw4.out]; have := heap_setCell_same w2 q 2 _ 27 (.int .i64 (V + x)) HQ2.out; simpa using this⟩
              have HO4 : Hid (OwnE sh3 3 27 w4 w.heap.size (.slice a9 i c9) PR) := ⟨HO2.out.far HC4.out (fun y hy hm => by simp at hm; subst hm; exact Hqn.out hy)⟩
              have HB4 : Hid (Below w.heap.size w w4) := ⟨HB2.out.trans (HC4.out.below HB2.out.size (by have := Hqw.out; simpa using this))⟩
              go_upto_region 8 with fail
              rw [Hw4.out]
              clear k2 f2 Hw4
              go_wp2_with fail
              go_roundg (m - (j + 1))
              case measure => omega
              case rel => exact ⟨j + 1, by omega, by omega, by go_num, ⟨by rw [HAn.out, HLn.out]; exact HQ4.out⟩, HO4, HB4⟩
          · have HcX : Hid (cnt x = 0) := ⟨by unfold cnt; rw [if_neg hin]⟩
            rw [HcX.out] at HAs HLs
            have HAn : Hid (sumA ls (j + 1) = A) := ⟨by rw [HAs.out]; omega⟩
            by_cases hx1 : x < 1
            · clear hin
              have f1 : wk.frozen? ⟨q, 1, none⟩ = false := frozen_of_row wk q _ _ 27 HQ.out
              obtain ⟨w2, Hw2⟩ : ∃ z, Hid (wk.setCell ⟨q, 1, none⟩ (.int .i64 (A)) = z) := ⟨_, ⟨rfl⟩⟩
              have HC2 : Hid (Chg [q] wk w2) := ⟨by rw [← Hw2.out]; exact (Chg.refl [q] wk).setCell (.inl (by simp)) _⟩
              have HQ2 : Hid (w2.heap[q]? = some (.cells #[.int .i64 bn, .int .i64 (A), .int .i64 V] 27 (0, 0))) := ⟨by rw [← Hw2.out]; have := heap_setCell_same wk q 1 _ 27 (.int .i64 (A)) HQ.out; simpa using this⟩
              have HO2 : Hid (OwnE sh3 3 27 w2 w.heap.size (.slice a9 i c9) PR) := ⟨HOk.out.far HC2.out (fun y hy hm => by simp at hm; subst hm; exact Hqn.out hy)⟩
              have HB2 : Hid (Below w.heap.size w w2) := ⟨HBk.out.trans (HC2.out.below HBk.out.size (by have := Hqw.out; simpa using this))⟩
              have t3 := has20 (w := w2) (.slice au k cu) L bn (j : Int) (HU.out.far (Chg.ofBelow (X := []) HB2.out) (by simp)) (by rw [Hk.out]; omega)
              have d0 : w2.cell? ⟨q, 0, none⟩ = some (.int .i64 bn) := by rw [cell_of_row _ _ _ _ _ _ HQ2.out]; rfl
              obtain ⟨y, Hy⟩ : ∃ y, Hid (decide ((bn, (j : Int)) ∈ L) = y) := ⟨_, ⟨rfl⟩⟩
              rw [Hy.out] at t3
              go_upto_region 13 with fail
              rw [Hw2.out]
              clear m0 m1 m2 g1 g2 e1 f1 Hw2
              go_wp2_with fail
              refine t3.mono ?_
              rintro e w3 ⟨rfl, rfl⟩
              clear t3 d0
              cases y with
              | false =>
                have hns : ¬ (bn, (j : Int)) ∈ L := of_decide_eq_false Hy.out
                have HLn : Hid (sumL L bn ls (j + 1) = V) := ⟨by rw [HLs.out, if_neg hns]; omega⟩
                clear hns
                go_wp2_with fail
                go_roundg (m - (j + 1))
                case measure => omega
                case rel => exact ⟨j + 1, by omega, by omega, by go_num, ⟨by rw [HAn.out, HLn.out]; exact HQ2.out⟩, HO2, HB2⟩
              | true =>
                have hns : (bn, (j : Int)) ∈ L := of_decide_eq_true Hy.out
                have HLn : Hid (sumL L bn ls (j + 1) = V) := ⟨by rw [HLs.out, if_pos hns]; omega⟩
                clear hns
                have k2 : w2.cell? ⟨q, 2, none⟩ = some (.int .i64 V) := by rw [cell_of_row _ _ _ _ _ _ HQ2.out]; rfl
                have f2 : w2.frozen? ⟨q, 2, none⟩ = false := frozen_of_row w2 q _ _ 27 HQ2.out
                obtain ⟨w4, Hw4⟩ : ∃ z, Hid (w2.setCell ⟨q, 2, none⟩ (.int .i64 (V)) = z) := ⟨_, ⟨rfl⟩⟩
                have HC4 : Hid (Chg [q] w2 w4) := ⟨by rw [← Hw4.out]; exact (Chg.refl [q] w2).setCell (.inl (by simp)) _⟩
                have HQ4 : Hid (w4.heap[q]? = some (.cells #[.int .i64 bn, .int .i64 (A), .int .i64 (V)] 27 (0, 0))) := ⟨by rw [← Hw4.out]; have := heap_setCell_same w2 q 2 _ 27 (.int .i64 (V)) HQ2.out; simpa using this⟩
                have HO4 : Hid (OwnE sh3 3 27 w4 w.heap.size (.slice a9 i c9) PR) := ⟨HO2.out.far HC4.out (fun y hy hm => by simp at hm; subst hm; exact Hqn.out hy)⟩
                have HB4 : Hid (Below w.heap.size w w4) := ⟨HB2.out.trans (HC4.out.below HB2.out.size (by have := Hqw.out; simpa using this))⟩
                go_upto_region 8 with fail
                rw [Hw4.out]
                clear k2 f2 Hw4
                go_wp2_with fail
                go_roundg (m - (j + 1))
                case measure => omega
                case rel => exact ⟨j + 1, by omega, by omega, by go_num, ⟨by rw [HAn.out, HLn.out]; exact HQ4.out⟩, HO4, HB4⟩
            · have hx2 : 512 < x := by omega
              clear hin
              have f1 : wk.frozen? ⟨q, 1, none⟩ = false := frozen_of_row wk q _ _ 27 HQ.out
              obtain ⟨w2, Hw2⟩ : ∃ z, Hid (wk.setCell ⟨q, 1, none⟩ (.int .i64 (A)) = z) := ⟨_, ⟨rfl⟩⟩
              have HC2 : Hid (Chg [q] wk w2) := ⟨by rw [← Hw2.out]; exact (Chg.refl [q] wk).setCell (.inl (by simp)) _⟩
              have HQ2 : Hid (w2.heap[q]? = some (.cells #[.int .i64 bn, .int .i64 (A), .int .i64 V] 27 (0, 0))) := ⟨by rw [← Hw2.out]; have := heap_setCell_same wk q 1 _ 27 (.int .i64 (A)) HQ.out; simpa using this⟩
              have HO2 : Hid (OwnE sh3 3 27 w2 w.heap.size (.slice a9 i c9) PR) := ⟨HOk.out.far HC2.out (fun y hy hm => by simp at hm; subst hm; exact Hqn.out hy)⟩
              have HB2 : Hid (Below w.heap.size w w2) := ⟨HBk.out.trans (HC2.out.below HBk.out.size (by have := Hqw.out; simpa using this))⟩
              have t3 := has20 (w := w2) (.slice au k cu) L bn (j : Int) (HU.out.far (Chg.ofBelow (X := []) HB2.out) (by simp)) (by rw [Hk.out]; omega)
              have d0 : w2.cell? ⟨q, 0, none⟩ = some (.int .i64 bn) := by rw [cell_of_row _ _ _ _ _ _ HQ2.out]; rfl
              obtain ⟨y, Hy⟩ : ∃ y, Hid (decide ((bn, (j : Int)) ∈ L) = y) := ⟨_, ⟨rfl⟩⟩
              rw [Hy.out] at t3
              go_upto_region 13 with fail
              rw [Hw2.out]
              clear m0 m1 m2 g1 g2 e1 f1 Hw2
              go_wp2_with fail
              refine t3.mono ?_
              rintro e w3 ⟨rfl, rfl⟩
              clear t3 d0
              cases y with
              | false =>
                have hns : ¬ (bn, (j : Int)) ∈ L := of_decide_eq_false Hy.out
                have HLn : Hid (sumL L bn ls (j + 1) = V) := ⟨by rw [HLs.out, if_neg hns]; omega⟩
                clear hns
                go_wp2_with fail
                go_roundg (m - (j + 1))
                case measure => omega
                case rel => exact ⟨j + 1, by omega, by omega, by go_num, ⟨by rw [HAn.out, HLn.out]; exact HQ2.out⟩, HO2, HB2⟩
              | true =>
                have hns : (bn, (j : Int)) ∈ L := of_decide_eq_true Hy.out
                have HLn : Hid (sumL L bn ls (j + 1) = V) := ⟨by rw [HLs.out, if_pos hns]; omega⟩
                clear hns
                have k2 : w2.cell? ⟨q, 2, none⟩ = some (.int .i64 V) := by rw [cell_of_row _ _ _ _ _ _ HQ2.out]; rfl
                have f2 : w2.frozen? ⟨q, 2, none⟩ = false := frozen_of_row w2 q _ _ 27 HQ2.out
                obtain ⟨w4, Hw4⟩ : ∃ z, Hid (w2.setCell ⟨q, 2, none⟩ (.int .i64 (V)) = z) := ⟨_, ⟨rfl⟩⟩
                have HC4 : Hid (Chg [q] w2 w4) := ⟨by rw [← Hw4.out]; exact (Chg.refl [q] w2).setCell (.inl (by simp)) _⟩
                have HQ4 : Hid (w4.heap[q]? = some (.cells #[.int .i64 bn, .int .i64 (A), .int .i64 (V)] 27 (0, 0))) := ⟨by rw [← Hw4.out]; have := heap_setCell_same w2 q 2 _ 27 (.int .i64 (V)) HQ2.out; simpa using this⟩
                have HO4 : Hid (OwnE sh3 3 27 w4 w.heap.size (.slice a9 i c9) PR) := ⟨HO2.out.far HC4.out (fun y hy hm => by simp at hm; subst hm; exact Hqn.out hy)⟩
                have HB4 : Hid (Below w.heap.size w w4) := ⟨HB2.out.trans (HC4.out.below HB2.out.size (by have := Hqw.out; simpa using this))⟩
                go_upto_region 8 with fail
                rw [Hw4.out]
                clear k2 f2 Hw4
                go_wp2_with fail
                go_roundg (m - (j + 1))
                case measure => omega
                case rel => exact ⟨j + 1, by omega, by omega, by go_num, ⟨by rw [HAn.out, HLn.out]; exact HQ4.out⟩, HO4, HB4⟩
        · have hje : m = j := by omega
          obtain ⟨hA1, hV1⟩ := HAe.out hje
          rw [hA1, hV1] at Hshr
          clear hA1 hV1
          by_cases hj1 : (j : Int) < (ln : Int)
          · have hj2 : ¬ (j : Int) < 64 := by have := Hm.out; omega
            clear hje
            have k0 : wk.cell? ⟨q, 0, none⟩ = some (.int .i64 bn) := m0
            obtain ⟨U, HUe⟩ : ∃ x, Hid (wk.alloc (.cells #[.int .i64 bn, .int .i64 A, .int .i64 V] 27) = x) := ⟨_, ⟨rfl⟩⟩
            have HBU : Hid (Below wk.heap.size wk U) := ⟨by rw [← HUe.out]; exact (Below.refl _ wk).alloc (Nat.le_refl _) _⟩
            have HRU : Hid (RdE sh3 3 s0 U (.slice (some ⟨wk.heap.size, 0, none⟩) 1 1) [(bn, A, V)]) := ⟨by rw [← HUe.out]; exact rde_one wk ((bn, A, V) : Sh) rfl (sh3_one (bn, A, V)).2 27⟩
            have HOU : Hid (OwnE sh3 3 27 U w.heap.size (.slice a9 i c9) PR) := ⟨HOk.out.far (Chg.ofBelow (X := []) HBU.out) (by simp)⟩
            have HB0U : Hid (Below w.heap.size w U) := ⟨HBk.out.trans (HBU.out.mono HBk.out.size)⟩
            have hl1 : (PR.length + [((bn, A, V) : Sh)].length) * 24 ≤ 140737488355328 := by rw [HPl.out]; simp; omega
            have hl2 : PR.length + [((bn, A, V) : Sh)].length ≤ maxLen := by rw [HPl.out]; unfold maxLen; simp; omega
            have hl3 : w.heap.size ≤ U.heap.size := HB0U.out.size
            go_wp2_with (first
              | (refine wp_sliceE eltS rfl (.tmp 67) rfl #[.int .i64 bn, .int .i64 A, .int .i64 V] rfl rfl (by decide) ?_; rw [HUe.out])
              | (refine wp_appE (f := sh3) (d := s0) eltS rfl (.tmp 66) (.tmp 68) rfl rfl HOU.out rfl HRU.out hl1 hl2 hl3 ?_; intro v7 w7 hO7 hG7 hV7))
            have HG7 : Hid (Chg (ob (.slice a9 i c9)) U w7) := ⟨hG7⟩
            have HB7 : Hid (Below w.heap.size w w7) := ⟨HB0U.out.trans (HG7.out.below HB0U.out.size (fun x hx => (HOU.out.lt x hx).1))⟩
            have HO7 : Hid (OwnE sh3 3 27 w7 w.heap.size v7 ((F.take (i + 1)).map (shr L))) := ⟨by rw [HSn.out, Hshr.out]; exact hO7⟩
            clear hO7 hG7 hV7
            go_roundg (n - (i + 1))
            case measure => omega
            case rel => exact ⟨i + 1, by omega, by omega, by go_num, HO7, HB7⟩
          · clear hje
            have k0 : wk.cell? ⟨q, 0, none⟩ = some (.int .i64 bn) := m0
            obtain ⟨U, HUe⟩ : ∃ x, Hid (wk.alloc (.cells #[.int .i64 bn, .int .i64 A, .int .i64 V] 27) = x) := ⟨_, ⟨rfl⟩⟩
            have HBU : Hid (Below wk.heap.size wk U) := ⟨by rw [← HUe.out]; exact (Below.refl _ wk).alloc (Nat.le_refl _) _⟩
            have HRU : Hid (RdE sh3 3 s0 U (.slice (some ⟨wk.heap.size, 0, none⟩) 1 1) [(bn, A, V)]) := ⟨by rw [← HUe.out]; exact rde_one wk ((bn, A, V) : Sh) rfl (sh3_one (bn, A, V)).2 27⟩
            have HOU : Hid (OwnE sh3 3 27 U w.heap.size (.slice a9 i c9) PR) := ⟨HOk.out.far (Chg.ofBelow (X := []) HBU.out) (by simp)⟩
            have HB0U : Hid (Below w.heap.size w U) := ⟨HBk.out.trans (HBU.out.mono HBk.out.size)⟩
            have hl1 : (PR.length + [((bn, A, V) : Sh)].length) * 24 ≤ 140737488355328 := by rw [HPl.out]; simp; omega
            have hl2 : PR.length + [((bn, A, V) : Sh)].length ≤ maxLen := by rw [HPl.out]; unfold maxLen; simp; omega
            have hl3 : w.heap.size ≤ U.heap.size := HB0U.out.size
            go_wp2_with (first
              | (refine wp_sliceE eltS rfl (.tmp 67) rfl #[.int .i64 bn, .int .i64 A, .int .i64 V] rfl rfl (by decide) ?_; rw [HUe.out])
              | (refine wp_appE (f := sh3) (d := s0) eltS rfl (.tmp 66) (.tmp 68) rfl rfl HOU.out rfl HRU.out hl1 hl2 hl3 ?_; intro v7 w7 hO7 hG7 hV7))
            have HG7 : Hid (Chg (ob (.slice a9 i c9)) U w7) := ⟨hG7⟩
            have HB7 : Hid (Below w.heap.size w w7) := ⟨HB0U.out.trans (HG7.out.below HB0U.out.size (fun x hx => (HOU.out.lt x hx).1))⟩
            have HO7 : Hid (OwnE sh3 3 27 w7 w.heap.size v7 ((F.take (i + 1)).map (shr L))) := ⟨by rw [HSn.out, Hshr.out]; exact hO7⟩
            clear hO7 hG7 hV7
            go_roundg (n - (i + 1))
            case measure => omega
            case rel => exact ⟨i + 1, by omega, by omega, by go_num, HO7, HB7⟩
    · obtain rfl : n = i := by omega
      have HOf : Hid (OwnE sh3 3 27 wo w.heap.size (.slice a9 n c9) (F.map (shr L))) := ⟨by rw [← HTe.out, HPR.out]; exact HO.out⟩
      go_wp2_with fail
      go_ret
      exact ⟨_, rfl, HOf.out, HB.out⟩
end
end Go.Proofs.Ytjcojpddjhjhbaa
