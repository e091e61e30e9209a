/- How much of one container is live: the program's share. -/
import Derived.Test.YtjcojpddjhjhbaaC14
namespace Go.Proofs.Ytjcojpddjhjhbaa
open Go.RowKit Go.Lib Go.Shelf

def cnt (n : Int) : Int := if 1 ≤ n ∧ n ≤ 512 then n else 0
def sumA (l : List Int) : Nat → Int
  | 0 => 0
  | j + 1 => sumA l j + cnt (l.getD j 0)
def sumL (S : List Sp) (b : Int) (l : List Int) : Nat → Int
  | 0 => 0
  | j + 1 => sumL S b l j + (if (b, (j : Int)) ∈ S then cnt (l.getD j 0) else 0)
theorem cnt_fit (n : Int) : 0 ≤ cnt n ∧ cnt n ≤ 512 := by unfold cnt; split <;> omega
theorem sums_fit (S : List Sp) (b : Int) (l : List Int) : ∀ j, 0 ≤ sumL S b l j ∧ sumL S b l j ≤ sumA l j ∧ sumA l j ≤ 512 * j
  | 0 => ⟨Int.le_refl _, Int.le_refl _, Int.le_refl _⟩
  | j + 1 => by
    obtain ⟨h1, h2, h3⟩ := sums_fit S b l j
    have := cnt_fit (l.getD j 0)
    unfold sumA sumL
    split <;> omega
/-- A container's share. -/
def shr (S : List Sp) (f : Int × List Int) : Sh := (f.1, sumA f.2 (min f.2.length 64), sumL S f.1 f.2 (min f.2.length 64))
theorem shr_rt (S : List Sp) (f : Int × List Int) : Rt (shr S f) := by
  obtain ⟨h1, h2, h3⟩ := sums_fit S f.1 f.2 (min f.2.length 64)
  exact ⟨h1, h2, by show sumA f.2 (min f.2.length 64) ≤ 32768; omega⟩
theorem eg18 : ∀ args w, (callFunc 18 args).run Try.prog w = .ok (.enter 18 args) w := enters_of Try.func18 (by kernel_rfl) rfl
section
variable {w : World}
set_option maxHeartbeats 4000000 in
set_option maxRecDepth 100000 in
theorem live18 {B mb : Nat} {S : List Sp} (hB : w.heap[B]? = some (.cells #[.map (some mb)] 48 (0, 0))) (hM : MsAt w mb S) (x y : Int) :
    Calls Try.prog 18 #[.agg #[.int .i64 x, .int .i64 y], .pointer (some ⟨B, 0, none⟩)] w fun e w' => e = .returned (.bool (decide ((x, y) ∈ S))) ∧ Below w.heap.size w w' := by
  obtain ⟨w1, Hw1⟩ : ∃ z, Hid (w.alloc (.cells #[.int .i64 x, .int .i64 y] 46) = z) := ⟨_, ⟨rfl⟩⟩
  have HB1 : Hid (Below w.heap.size w w1) := ⟨by rw [← Hw1.out]; exact (Below.refl _ w).alloc (Nat.le_refl _) _⟩
  have hlk := lookup_run (hM.far (Chg.ofBelow (X := []) HB1.out) (by simp)) (x, y)
  simp only [spv] at hlk
  obtain ⟨z, Hz⟩ : ∃ z, Hid (decide ((x, y) ∈ S) = z) := ⟨_, ⟨rfl⟩⟩
  rw [Hz.out] at hlk ⊢
  have HQ1 : Hid (w1.heap[w.heap.size]? = some (.cells #[.int .i64 x, .int .i64 y] 46 (0, 0))) := ⟨by rw [← Hw1.out]; exact heap_alloc_new w _⟩
  have kB : w1.cell? ⟨B, 0, none⟩ = some (.map (some mb)) := by rw [cell_of_row _ _ _ _ _ _ ((HB1.out.block B (Array.getElem?_eq_some_iff.1 hB).1).trans hB)]; rfl
  have c0 : w1.cell? ⟨w.heap.size, 0, none⟩ = some (.int .i64 x) := by rw [cell_of_row _ _ _ _ _ _ HQ1.out]; rfl
  have c1 : w1.cell? ⟨w.heap.size, 1, none⟩ = some (.int .i64 y) := by rw [cell_of_row _ _ _ _ _ _ HQ1.out]; rfl
  obtain ⟨q, Hq⟩ : ∃ x, Hid (w.heap.size = x) := ⟨_, ⟨rfl⟩⟩
  rw [Hq.out] at c0 c1
  clear hB hM
  go_enter Try.func18, Try.ntmps18
  go_upto_region 1 with fail
  rw [Hw1.out, Hq.out]
  go_wp2_with fail
  go_ret
  refine ⟨rfl, HB1.out.trans ?_⟩
  exact ((Below.refl _ w1).alloc (Nat.le_refl _) _).mono HB1.out.size
theorem run_cut32 (W : World) (a : Option Addr) (n c m : Nat) (hm : m ≤ n) (hn : n ≤ c) (ha : a = none → c = 0) : (Instr.sliceAt 32 (.slice a n c) none (some (.int .i64 (m : Int))) none).run Try.prog W = .ok (.slice a m c) W := by
  cases a with
  | none =>
    have := ha rfl
    obtain rfl : c = 0 := this
    obtain rfl : n = 0 := by omega
    obtain rfl : m = 0 := by omega
    go_simp
  | some x =>
    have h1 : (m : Int) ≤ (n : Int) := by omega
    have h2 : (m : Int) ≤ (c : Int) := by omega
    have h3 : m ≤ c := by omega
    go_simp
set_option maxHeartbeats 8000000 in
set_option maxRecDepth 100000 in
theorem share19 {B mb : Nat} {S : List Sp} (hB : w.heap[B]? = some (.cells #[.map (some mb)] 48 (0, 0))) (hM : MsAt w mb S) (bin : Int) (v : Value) (l : List Int) (h : RdI w v l) :
    Calls Try.prog 19 #[.agg #[.int .i64 bin, v], .func (.func 18) #[] #[.pointer (some ⟨B, 0, none⟩)]] w fun e w' => e = .returned (.agg (sh3 (shr S (bin, l))).toArray) ∧ Below w.heap.size w w' := by
  have e18 := eg18
  have HRv := Hid.mk h
  obtain ⟨a, c, rfl, hlc, hcm, han⟩ := h.shape
  have hcx : c ≤ 9223372036854775807 := hcm
  unfold shr
  simp only
  obtain ⟨n, Hn⟩ : ∃ n, Hid (l.length = n) := ⟨_, ⟨rfl⟩⟩
  rw [Hn.out] at HRv hlc ⊢
  obtain ⟨m, Hm⟩ : ∃ m, Hid (min n 64 = m) := ⟨_, ⟨rfl⟩⟩
  rw [Hm.out]
  have hmn : m ≤ n := by have := Hm.out; omega
  have hm64 : m ≤ 64 := by have := Hm.out; omega
  have hmin : min (n : Int) 64 = (m : Int) := by have := Hm.out; omega
  have hcut := run_cut32 (a := a) (n := n) (c := c) (m := m) (hm := hmn) (hn := hlc) (ha := han)
  have HF := Hid.mk (sums_fit S bin l)
  have HlB : Hid (B < w.heap.size) := ⟨(Array.getElem?_eq_some_iff.1 hB).1⟩
  have HlM : Hid (mb < w.heap.size) := ⟨hM.lt⟩
  have HBx := Hid.mk hB
  have HMs := Hid.mk hM
  clear h hB hM
  go_enter Try.func19, Try.ntmps19
  go_upto_region 3 with fail
  obtain ⟨w1, Hw1⟩ : ∃ x, Hid ((((w.alloc (.cells #[.int .i64 bin, .slice a n c] 39)).alloc (.cells #[.int .i64 0, .int .i64 0, .int .i64 0] 27)).alloc (.cells #[.int .i64 bin, .int .i64 0, .int .i64 0] 27)) = x) := ⟨_, ⟨rfl⟩⟩
  have HB1 : Hid (Below w.heap.size w w1) := ⟨by rw [← Hw1.out]; exact (((Below.refl _ w).alloc (Nat.le_refl _) _).alloc (by simp) _).alloc (by simp; omega) _⟩
  obtain ⟨p, Hp⟩ : ∃ x, Hid (w.heap.size = x) := ⟨_, ⟨rfl⟩⟩
  obtain ⟨r, Hr⟩ : ∃ x, Hid (w.heap.size + 1 = x) := ⟨_, ⟨rfl⟩⟩
  obtain ⟨q, Hq⟩ : ∃ x, Hid (w.heap.size + 1 + 1 = x) := ⟨_, ⟨rfl⟩⟩
  have Hne : Hid (p ≠ r ∧ p ≠ q ∧ r ≠ q ∧ w.heap.size ≤ p ∧ w.heap.size ≤ r ∧ w.heap.size ≤ q) := ⟨by have := Hp.out; have := Hr.out; have := Hq.out; omega⟩
  have HP1 : Hid (w1.heap[p]? = some (.cells #[.int .i64 bin, .slice a n c] 39 (0, 0))) := ⟨by
    rw [← Hw1.out, ← Hp.out]
    have h1 := heap_alloc_new w (.cells #[.int .i64 bin, .slice a n c] 39)
    have h2 := (((Below.refl _ (w.alloc (.cells #[.int .i64 bin, .slice a n c] 39))).alloc (Nat.le_refl _) (.cells #[.int .i64 0, .int .i64 0, .int .i64 0] 27)).alloc (by simp) (.cells #[.int .i64 bin, .int .i64 0, .int .i64 0] 27)).block w.heap.size (by simp)
    exact h2.trans h1⟩
  have HR1 : Hid (w1.heap[r]? = some (.cells #[.int .i64 0, .int .i64 0, .int .i64 0] 27 (0, 0))) := ⟨by
    rw [← Hw1.out, ← Hr.out]
    have h1 := heap_alloc_new (w.alloc (.cells #[.int .i64 bin, .slice a n c] 39)) (.cells #[.int .i64 0, .int .i64 0, .int .i64 0] 27)
    have h2 := ((Below.refl _ ((w.alloc (.cells #[.int .i64 bin, .slice a n c] 39)).alloc (.cells #[.int .i64 0, .int .i64 0, .int .i64 0] 27))).alloc (Nat.le_refl _) (.cells #[.int .i64 bin, .int .i64 0, .int .i64 0] 27)).block (w.heap.size + 1) (by simp)
    refine h2.trans ?_
    simpa using h1⟩
  have HQ1 : Hid (w1.heap[q]? = some (.cells #[.int .i64 bin, .int .i64 0, .int .i64 0] 27 (0, 0))) := ⟨by
    rw [← Hw1.out, ← Hq.out]
    have h1 := heap_alloc_new ((w.alloc (.cells #[.int .i64 bin, .slice a n c] 39)).alloc (.cells #[.int .i64 0, .int .i64 0, .int .i64 0] 27)) (.cells #[.int .i64 bin, .int .i64 0, .int .i64 0] 27)
    simpa using h1⟩
  rw [Hw1.out, Hq.out, Hr.out, Hp.out]
  clear Hw1
  go_loopg [6, 7, 19] m (fun gg _ _ s19 wr => ∃ j : Nat, j ≤ m ∧ m - j ≤ gg ∧ s19 = .int .i64 (j : Int) ∧ Hid (wr.heap[p]? = some (.cells #[.int .i64 bin, .slice a n c] 39 (0, 0))) ∧ Hid (wr.heap[r]? = some (.cells #[.int .i64 0, .int .i64 0, .int .i64 0] 27 (0, 0))) ∧ Hid (wr.heap[q]? = some (.cells #[.int .i64 bin, .int .i64 (sumA l j), .int .i64 (sumL S bin l j)] 27 (0, 0))) ∧ Hid (Below w.heap.size w wr))
  case atStart => exact ⟨0, Nat.zero_le _, by omega, rfl, HP1, HR1, HQ1, HB1⟩
  case round =>
    clear HP1 HR1 HQ1 HB1
    obtain ⟨j, hj, hgg, rfl, HP, HRr, HQ, HB⟩ := hrel
    rename World => wo
    have HAs : Hid (sumA l (j + 1) = sumA l j + cnt (l.getD j 0)) := ⟨rfl⟩
    have HLs : Hid (sumL S bin l (j + 1) = sumL S bin l j + (if (bin, (j : Int)) ∈ S then cnt (l.getD j 0) else 0)) := ⟨rfl⟩
    have hfit := HF.out j
    obtain ⟨A, HA⟩ : ∃ x, Hid (sumA l j = x) := ⟨_, ⟨rfl⟩⟩
    obtain ⟨V, HV⟩ : ∃ x, Hid (sumL S bin l j = x) := ⟨_, ⟨rfl⟩⟩
    rw [HA.out] at HQ HAs hfit
    rw [HV.out] at HQ HLs hfit
    have q0' : wo.cell? ⟨q, 0, none⟩ = some (.int .i64 bin) := by rw [cell_of_row _ _ _ _ _ _ HQ.out]; rfl
    have q1' : wo.cell? ⟨q, 1, none⟩ = some (.int .i64 A) := by rw [cell_of_row _ _ _ _ _ _ HQ.out]; rfl
    have q2' : wo.cell? ⟨q, 2, none⟩ = some (.int .i64 V) := by rw [cell_of_row _ _ _ _ _ _ HQ.out]; rfl
    by_cases hlt : j < m
    · have hltz : (j : Int) < (m : Int) := by omega
      have hjl : j < l.length := by rw [Hn.out]; omega
      have hRd : RdI wo (.slice a n c) l := HRv.out.far (Chg.ofBelow (X := []) HB.out) (by simp)
      obtain ⟨g, off, cap, e, _, hc⟩ := hRd.at hjl
      rw [Hn.out] at e
      simp at e
      obtain ⟨rfl, rfl⟩ := e
      have c0 := hc j hjl
      clear hc hRd
      generalize l.getD j 0 = x at c0 HAs HLs
      by_cases hin : 1 ≤ x ∧ x ≤ 512
      · have hx1 : ¬ x < 1 := by omega
        have hx2 : ¬ 512 < x := by omega
        have HcX : Hid (cnt x = x) := ⟨by unfold cnt; rw [if_pos hin]⟩
        rw [HcX.out] at HAs HLs
        have f1 : wo.frozen? ⟨q, 1, none⟩ = false := frozen_of_row wo q _ _ 27 HQ.out
        obtain ⟨w2, Hw2⟩ : ∃ z, Hid (wo.setCell ⟨q, 1, none⟩ (.int .i64 (A + x)) = z) := ⟨_, ⟨rfl⟩⟩
        have HC2 : Hid (Chg [q] wo w2) := ⟨by rw [← Hw2.out]; exact (Chg.refl [q] wo).setCell (.inl (by simp)) _⟩
        have HQ2 : Hid (w2.heap[q]? = some (.cells #[.int .i64 bin, .int .i64 (A + x), .int .i64 V] 27 (0, 0))) := ⟨by rw [← Hw2.out]; have := heap_setCell_same wo q 1 _ 27 (.int .i64 (A + x)) HQ.out; simpa using this⟩
        have HP2 : Hid (w2.heap[p]? = some (.cells #[.int .i64 bin, .slice (some ⟨g, off, none⟩) n c] 39 (0, 0))) := ⟨(HC2.out.block p (Array.getElem?_eq_some_iff.1 HP.out).1 (by simpa using Hne.out.2.1)).trans HP.out⟩
        have HR2 : Hid (w2.heap[r]? = some (.cells #[.int .i64 0, .int .i64 0, .int .i64 0] 27 (0, 0))) := ⟨(HC2.out.block r (Array.getElem?_eq_some_iff.1 HRr.out).1 (by simpa using Hne.out.2.2.1)).trans HRr.out⟩
        have HB2 : Hid (Below w.heap.size w w2) := ⟨HB.out.trans (HC2.out.below HB.out.size (by simpa using Hne.out.2.2.2.2.2))⟩
        have t3 := live18 (w := w2) ((HB2.out.block B HlB.out).trans HBx.out) (HMs.out.far (Chg.ofBelow (X := []) HB2.out) (by simp)) bin (j : Int)
        have d0 : w2.cell? ⟨p, 0, none⟩ = some (.int .i64 bin) := by rw [cell_of_row _ _ _ _ _ _ HP2.out]; rfl
        obtain ⟨y, Hy⟩ : ∃ y, Hid (decide ((bin, (j : Int)) ∈ S) = y) := ⟨_, ⟨rfl⟩⟩
        rw [Hy.out] at t3
        clear hin
        go_upto_region 7 with fail
        rw [Hw2.out]
        clear q0' q1' q2' f1 c0 Hw2
        go_wp2_with fail
        refine t3.mono ?_
        rintro e w3 ⟨rfl, hB3⟩
        have HB3 : Hid (Below w.heap.size w w3) := ⟨HB2.out.trans (hB3.mono HB2.out.size)⟩
        have HQ3 : Hid (w3.heap[q]? = some (.cells #[.int .i64 bin, .int .i64 (A + x), .int .i64 V] 27 (0, 0))) := ⟨(hB3.block q (Array.getElem?_eq_some_iff.1 HQ2.out).1).trans HQ2.out⟩
        have HP3 : Hid (w3.heap[p]? = some (.cells #[.int .i64 bin, .slice (some ⟨g, off, none⟩) n c] 39 (0, 0))) := ⟨(hB3.block p (Array.getElem?_eq_some_iff.1 HP2.out).1).trans HP2.out⟩
        have HR3 : Hid (w3.heap[r]? = some (.cells #[.int .i64 0, .int .i64 0, .int .i64 0] 27 (0, 0))) := ⟨(hB3.block r (Array.getElem?_eq_some_iff.1 HR2.out).1).trans HR2.out⟩
        clear t3 hB3 d0
        cases y with
        | false =>
          have hns : ¬ (bin, (j : Int)) ∈ S := of_decide_eq_false Hy.out
          have HLn : Hid (sumL S bin l (j + 1) = V) := ⟨by rw [HLs.out, if_neg hns]; omega⟩
          clear hns
          go_wp2_with fail
          go_roundg (m - (j + 1))
          case measure => omega
          case rel => exact ⟨j + 1, by omega, by omega, by go_num, HP3, HR3, ⟨by rw [HAs.out, HLn.out]; exact HQ3.out⟩, HB3⟩
        | true =>
          have hns : (bin, (j : Int)) ∈ S := of_decide_eq_true Hy.out
          have HLn : Hid (sumL S bin l (j + 1) = V + x) := ⟨by rw [HLs.out, if_pos hns]⟩
          clear hns
          have k2 : w3.cell? ⟨q, 2, none⟩ = some (.int .i64 V) := by rw [cell_of_row _ _ _ _ _ _ HQ3.out]; rfl
          have f2 : w3.frozen? ⟨q, 2, none⟩ = false := frozen_of_row w3 q _ _ 27 HQ3.out
          obtain ⟨w4, Hw4⟩ : ∃ z, Hid (w3.setCell ⟨q, 2, none⟩ (.int .i64 (V + x)) = z) := ⟨_, ⟨rfl⟩⟩
          have HC4 : Hid (Chg [q] w3 w4) := ⟨by rw [← Hw4.out]; exact (Chg.refl [q] w3).setCell (.inl (by simp)) _⟩
          have HQ4 : Hid (w4.heap[q]? = some (.cells #[.int .i64 bin, .int .i64 (A + x), .int .i64 (V + x)] 27 (0, 0))) := ⟨by rw [← Hw4.out]; have := heap_setCell_same w3 q 2 _ 27 (.int .i64 (V + x)) HQ3.out; simpa using this⟩
          have HP4 : Hid (w4.heap[p]? = some (.cells #[.int .i64 bin, .slice (some ⟨g, off, none⟩) n c] 39 (0, 0))) := ⟨(HC4.out.block p (Array.getElem?_eq_some_iff.1 HP3.out).1 (by simpa using Hne.out.2.1)).trans HP3.out⟩
          have HR4 : Hid (w4.heap[r]? = some (.cells #[.int .i64 0, .int .i64 0, .int .i64 0] 27 (0, 0))) := ⟨(HC4.out.block r (Array.getElem?_eq_some_iff.1 HR3.out).1 (by simpa using Hne.out.2.2.1)).trans HR3.out⟩
          have HB4 : Hid (Below w.heap.size w w4) := ⟨HB3.out.trans (HC4.out.below HB3.out.size (by simpa using Hne.out.2.2.2.2.2))⟩
          go_upto_region 9 with fail
          rw [Hw4.out]
          clear k2 f2 Hw4
          go_wp2_with fail
          go_roundg (m - (j + 1))
          case measure => omega
          case rel => exact ⟨j + 1, by omega, by omega, by go_num, HP4, HR4, ⟨by rw [HAs.out, HLn.out]; exact HQ4.out⟩, HB4⟩
      · have HcX : Hid (cnt x = 0) := ⟨by unfold cnt; rw [if_neg hin]⟩
        have HAn : Hid (sumA l (j + 1) = A) := ⟨by rw [HAs.out, HcX.out]; omega⟩
        have HLn : Hid (sumL S bin l (j + 1) = V) := ⟨by rw [HLs.out, HcX.out]; split <;> omega⟩
        by_cases hx1 : x < 1
        · clear hin
          go_wp2_with fail
          go_roundg (m - (j + 1))
          case measure => omega
          case rel => exact ⟨j + 1, by omega, by omega, by go_num, HP, HRr, ⟨by rw [HAn.out, HLn.out]; exact HQ.out⟩, HB⟩
        · have hx2 : 512 < x := by omega
          clear hin
          go_wp2_with fail
          go_roundg (m - (j + 1))
          case measure => omega
          case rel => exact ⟨j + 1, by omega, by omega, by go_num, HP, HRr, ⟨by rw [HAn.out, HLn.out]; exact HQ.out⟩, HB⟩
    · obtain rfl : m = j := by omega
      have r0 : wo.cell? ⟨r, 0, none⟩ = some (.int .i64 0) := by rw [cell_of_row _ _ _ _ _ _ HRr.out]; rfl
      have r1 : wo.cell? ⟨r, 1, none⟩ = some (.int .i64 0) := by rw [cell_of_row _ _ _ _ _ _ HRr.out]; rfl
      have r2 : wo.cell? ⟨r, 2, none⟩ = some (.int .i64 0) := by rw [cell_of_row _ _ _ _ _ _ HRr.out]; rfl
      have f0 : wo.frozen? ⟨r, 0, none⟩ = false := frozen_of_row wo r _ _ 27 HRr.out
      have f1 : wo.frozen? ⟨r, 1, none⟩ = false := frozen_of_row wo r _ _ 27 HRr.out
      have f2 : wo.frozen? ⟨r, 2, none⟩ = false := frozen_of_row wo r _ _ 27 HRr.out
      go_wp2_with fail
      obtain ⟨W, HW⟩ : ∃ x, Hid (((wo.setCell ⟨r, 0, none⟩ (.int .i64 bin)).setCell ⟨r, 1, none⟩ (.int .i64 A)).setCell ⟨r, 2, none⟩ (.int .i64 V) = x) := ⟨_, ⟨rfl⟩⟩
      have HCV : Hid (Chg [r] wo W) := ⟨by rw [← HW.out]; exact (((Chg.refl [r] wo).setCell (.inl (by simp)) _).setCell (.inl (by simp)) _).setCell (.inl (by simp)) _⟩
      have HRW : Hid (W.heap[r]? = some (.cells #[.int .i64 bin, .int .i64 A, .int .i64 V] 27 (0, 0))) := ⟨by
        rw [← HW.out]
        have h1 := heap_setCell_same wo r 0 _ 27 (.int .i64 bin) HRr.out
        have h2 := heap_setCell_same _ r 1 _ 27 (.int .i64 A) h1
        have h3 := heap_setCell_same _ r 2 _ 27 (.int .i64 V) h2
        simpa using h3⟩
      have v0 : W.cell? ⟨r, 0, none⟩ = some (.int .i64 bin) := by rw [cell_of_row _ _ _ _ _ _ HRW.out]; rfl
      have v1 : W.cell? ⟨r, 1, none⟩ = some (.int .i64 A) := by rw [cell_of_row _ _ _ _ _ _ HRW.out]; rfl
      have v2 : W.cell? ⟨r, 2, none⟩ = some (.int .i64 V) := by rw [cell_of_row _ _ _ _ _ _ HRW.out]; rfl
      have HBW : Hid (Below w.heap.size w W) := ⟨HB.out.trans (HCV.out.below HB.out.size (by simpa using Hne.out.2.2.2.2.1))⟩
      rw [HW.out]
      clear q0' q1' q2' r0 r1 r2 f0 f1 f2
      refine bodyPost_ret (v := .agg #[.int .i64 bin, .int .i64 A, .int .i64 V]) (by simp [results, Try.results19, go_sem, v0, v1, v2]) rfl ⟨by rw [HA.out, HV.out]; rfl, HBW.out⟩
end
end Go.Proofs.Ytjcojpddjhjhbaa
