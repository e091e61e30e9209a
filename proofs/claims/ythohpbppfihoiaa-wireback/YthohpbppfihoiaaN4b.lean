/- What stands alone in a note, by what it names. -/
import Derived.Test.YthohpbppfihoiaaN4
namespace Go.Proofs.Ythohpbppfihoiaa
open Go.RowKit Oct

section
variable {w : World}
set_option maxHeartbeats 8000000 in
set_option maxRecDepth 100000 in
theorem alone_F (s : Int) (nm : ByteArray) (g i : Int) (ha pa ba : Option Addr) (hn hc pn pc bn bc : Nat) : Calls Try.prog 16 #[.agg (nmV (true, false, false, false, false)), .agg (na s nm g i (.slice ha hn hc) (.slice pa pn pc) (.slice ba bn bc))] w fun e w' => e = .returned (.bool (al (true, false, false, false, false) nm g i hn pn bn)) ∧ Below w.heap.size w w' := by
  obtain ⟨w1, Hw1⟩ : ∃ x, Hid (w.alloc (.cells (nmV (true, false, false, false, false)) 40) = x) := ⟨_, ⟨rfl⟩⟩
  have HB1 : Hid (Below w.heap.size w w1) := ⟨by rw [← Hw1.out]; exact (Below.refl _ w).alloc (Nat.le_refl _) _⟩
  obtain ⟨q, Hq⟩ : ∃ q, Hid (w.heap.size = q) := ⟨_, ⟨rfl⟩⟩
  have HX1 : Hid (w1.heap[q]? = some (.cells (nmV (true, false, false, false, false)) 40 (0, 0))) := ⟨by rw [← Hw1.out, ← Hq.out]; exact heap_alloc_new w _⟩
  have HS1 : Hid (w1.heap.size = q + 1) := ⟨by rw [← Hw1.out, ← Hq.out]; exact Array.size_push _⟩
  obtain ⟨w2, Hw2⟩ : ∃ x, Hid (w1.alloc (.cells (na s nm g i (.slice ha hn hc) (.slice pa pn pc) (.slice ba bn bc)) 27) = x) := ⟨_, ⟨rfl⟩⟩
  have HB2 : Hid (Below w.heap.size w w2) := ⟨by rw [← Hw2.out]; exact HB1.out.alloc HB1.out.size _⟩
  have HX2 : Hid (w2.heap[q]? = some (.cells (nmV (true, false, false, false, false)) 40 (0, 0))) := ⟨by rw [← Hw2.out]; rw [heap_alloc_old (h := by rw [HS1.out]; omega)]; exact HX1.out⟩
  have HY2 : Hid (w2.heap[q + 1]? = some (.cells (na s nm g i (.slice ha hn hc) (.slice pa pn pc) (.slice ba bn bc)) 27 (0, 0))) := ⟨by rw [← Hw2.out, ← HS1.out]; exact heap_alloc_new w1 _⟩
  have a0 : w2.cell? ⟨q, 0, none⟩ = some (.bool true) := by rw [cell_of_row _ _ _ _ _ _ HX2.out]; rfl
  have a1 : w2.cell? ⟨q, 1, none⟩ = some (.bool false) := by rw [cell_of_row _ _ _ _ _ _ HX2.out]; rfl
  have a2 : w2.cell? ⟨q, 2, none⟩ = some (.bool false) := by rw [cell_of_row _ _ _ _ _ _ HX2.out]; rfl
  have a3 : w2.cell? ⟨q, 3, none⟩ = some (.bool false) := by rw [cell_of_row _ _ _ _ _ _ HX2.out]; rfl
  have a4 : w2.cell? ⟨q, 4, none⟩ = some (.bool false) := by rw [cell_of_row _ _ _ _ _ _ HX2.out]; rfl
  have b1 : w2.cell? ⟨q + 1, 1, none⟩ = some (.string nm) := by rw [cell_of_row _ _ _ _ _ _ HY2.out]; rfl
  have b2 : w2.cell? ⟨q + 1, 2, none⟩ = some (.int .i64 g) := by rw [cell_of_row _ _ _ _ _ _ HY2.out]; rfl
  have b3 : w2.cell? ⟨q + 1, 3, none⟩ = some (.int .i64 i) := by rw [cell_of_row _ _ _ _ _ _ HY2.out]; rfl
  have b4 : w2.cell? ⟨q + 1, 4, none⟩ = some (.slice ha hn hc) := by rw [cell_of_row _ _ _ _ _ _ HY2.out]; rfl
  have b5 : w2.cell? ⟨q + 1, 5, none⟩ = some (.slice pa pn pc) := by rw [cell_of_row _ _ _ _ _ _ HY2.out]; rfl
  have b6 : w2.cell? ⟨q + 1, 6, none⟩ = some (.slice ba bn bc) := by rw [cell_of_row _ _ _ _ _ _ HY2.out]; rfl
  obtain ⟨A, HA⟩ : ∃ x, Hid (na s nm g i (.slice ha hn hc) (.slice pa pn pc) (.slice ba bn bc) = x) := ⟨_, ⟨rfl⟩⟩
  obtain ⟨M, HM⟩ : ∃ x, Hid (nmV (true, false, false, false, false) = x) := ⟨_, ⟨rfl⟩⟩
  rw [HA.out] at Hw2 HY2
  rw [HM.out] at Hw1
  rw [HA.out, HM.out]
  clear HX2 HY2
  by_cases ci : i = 0
  · by_cases ch : hn = 0
    · by_cases cp : pn = 0
      · by_cases cb : bn = 0
        · have HR : Hid (al (true, false, false, false, false) nm g i hn pn bn = true) := ⟨by unfold al; simp [ci, ch, cp, cb]⟩
          have fi : (i == 0) = true := by simp [ci]
          have fh : ((hn : Int) == 0) = true := by simp [ch]
          have fp : ((pn : Int) == 0) = true := by simp [cp]
          have fb : ((bn : Int) == 0) = true := by simp [cb]
          clear ci ch cp cb
          go_enter Try.func16, Try.ntmps16
          go_upto_region 1 with (first | (refine wp_box rfl 40 (.tmp 0) rfl M rfl ?_; rw [Hw1.out]) | (refine wp_box rfl 27 (.tmp 1) rfl A rfl ?_; rw [Hw2.out, HS1.out, Hq.out]))
          go_wp2_with fail
          go_ret
          exact ⟨by rw [HR.out]; rfl, HB2.out⟩
        · have HR : Hid (al (true, false, false, false, false) nm g i hn pn bn = false) := ⟨by unfold al; simp [ci, ch, cp, cb]⟩
          have fi : (i == 0) = true := by simp [ci]
          have fh : ((hn : Int) == 0) = true := by simp [ch]
          have fp : ((pn : Int) == 0) = true := by simp [cp]
          have fb : ((bn : Int) == 0) = false := by simp; omega
          clear ci ch cp cb
          go_enter Try.func16, Try.ntmps16
          go_upto_region 1 with (first | (refine wp_box rfl 40 (.tmp 0) rfl M rfl ?_; rw [Hw1.out]) | (refine wp_box rfl 27 (.tmp 1) rfl A rfl ?_; rw [Hw2.out, HS1.out, Hq.out]))
          go_wp2_with fail
          go_ret
          exact ⟨by rw [HR.out]; rfl, HB2.out⟩
      · have HR : Hid (al (true, false, false, false, false) nm g i hn pn bn = false) := ⟨by unfold al; simp [ci, ch, cp]⟩
        have fi : (i == 0) = true := by simp [ci]
        have fh : ((hn : Int) == 0) = true := by simp [ch]
        have fp : ((pn : Int) == 0) = false := by simp; omega
        clear ci ch cp
        go_enter Try.func16, Try.ntmps16
        go_upto_region 1 with (first | (refine wp_box rfl 40 (.tmp 0) rfl M rfl ?_; rw [Hw1.out]) | (refine wp_box rfl 27 (.tmp 1) rfl A rfl ?_; rw [Hw2.out, HS1.out, Hq.out]))
        go_wp2_with fail
        go_ret
        exact ⟨by rw [HR.out]; rfl, HB2.out⟩
    · have HR : Hid (al (true, false, false, false, false) nm g i hn pn bn = false) := ⟨by unfold al; simp [ci, ch]⟩
      have fi : (i == 0) = true := by simp [ci]
      have fh : ((hn : Int) == 0) = false := by simp; omega
      clear ci ch
      go_enter Try.func16, Try.ntmps16
      go_upto_region 1 with (first | (refine wp_box rfl 40 (.tmp 0) rfl M rfl ?_; rw [Hw1.out]) | (refine wp_box rfl 27 (.tmp 1) rfl A rfl ?_; rw [Hw2.out, HS1.out, Hq.out]))
      go_wp2_with fail
      go_ret
      exact ⟨by rw [HR.out]; rfl, HB2.out⟩
  · have HR : Hid (al (true, false, false, false, false) nm g i hn pn bn = false) := ⟨by unfold al; simp [ci]⟩
    have fi : (i == 0) = false := by simp; omega
    clear ci
    go_enter Try.func16, Try.ntmps16
    go_upto_region 1 with (first | (refine wp_box rfl 40 (.tmp 0) rfl M rfl ?_; rw [Hw1.out]) | (refine wp_box rfl 27 (.tmp 1) rfl A rfl ?_; rw [Hw2.out, HS1.out, Hq.out]))
    go_wp2_with fail
    go_ret
    exact ⟨by rw [HR.out]; rfl, HB2.out⟩
set_option maxHeartbeats 8000000 in
set_option maxRecDepth 100000 in
theorem alone_P (s : Int) (nm : ByteArray) (g i : Int) (ha pa ba : Option Addr) (hn hc pn pc bn bc : Nat) : Calls Try.prog 16 #[.agg (nmV (true, false, false, true, false)), .agg (na s nm g i (.slice ha hn hc) (.slice pa pn pc) (.slice ba bn bc))] w fun e w' => e = .returned (.bool (al (true, false, false, true, false) nm g i hn pn bn)) ∧ Below w.heap.size w w' := by
  obtain ⟨w1, Hw1⟩ : ∃ x, Hid (w.alloc (.cells (nmV (true, false, false, true, false)) 40) = x) := ⟨_, ⟨rfl⟩⟩
  have HB1 : Hid (Below w.heap.size w w1) := ⟨by rw [← Hw1.out]; exact (Below.refl _ w).alloc (Nat.le_refl _) _⟩
  obtain ⟨q, Hq⟩ : ∃ q, Hid (w.heap.size = q) := ⟨_, ⟨rfl⟩⟩
  have HX1 : Hid (w1.heap[q]? = some (.cells (nmV (true, false, false, true, false)) 40 (0, 0))) := ⟨by rw [← Hw1.out, ← Hq.out]; exact heap_alloc_new w _⟩
  have HS1 : Hid (w1.heap.size = q + 1) := ⟨by rw [← Hw1.out, ← Hq.out]; exact Array.size_push _⟩
  obtain ⟨w2, Hw2⟩ : ∃ x, Hid (w1.alloc (.cells (na s nm g i (.slice ha hn hc) (.slice pa pn pc) (.slice ba bn bc)) 27) = x) := ⟨_, ⟨rfl⟩⟩
  have HB2 : Hid (Below w.heap.size w w2) := ⟨by rw [← Hw2.out]; exact HB1.out.alloc HB1.out.size _⟩
  have HX2 : Hid (w2.heap[q]? = some (.cells (nmV (true, false, false, true, false)) 40 (0, 0))) := ⟨by rw [← Hw2.out]; rw [heap_alloc_old (h := by rw [HS1.out]; omega)]; exact HX1.out⟩
  have HY2 : Hid (w2.heap[q + 1]? = some (.cells (na s nm g i (.slice ha hn hc) (.slice pa pn pc) (.slice ba bn bc)) 27 (0, 0))) := ⟨by rw [← Hw2.out, ← HS1.out]; exact heap_alloc_new w1 _⟩
  have a0 : w2.cell? ⟨q, 0, none⟩ = some (.bool true) := by rw [cell_of_row _ _ _ _ _ _ HX2.out]; rfl
  have a1 : w2.cell? ⟨q, 1, none⟩ = some (.bool false) := by rw [cell_of_row _ _ _ _ _ _ HX2.out]; rfl
  have a2 : w2.cell? ⟨q, 2, none⟩ = some (.bool false) := by rw [cell_of_row _ _ _ _ _ _ HX2.out]; rfl
  have a3 : w2.cell? ⟨q, 3, none⟩ = some (.bool true) := by rw [cell_of_row _ _ _ _ _ _ HX2.out]; rfl
  have a4 : w2.cell? ⟨q, 4, none⟩ = some (.bool false) := by rw [cell_of_row _ _ _ _ _ _ HX2.out]; rfl
  have b1 : w2.cell? ⟨q + 1, 1, none⟩ = some (.string nm) := by rw [cell_of_row _ _ _ _ _ _ HY2.out]; rfl
  have b2 : w2.cell? ⟨q + 1, 2, none⟩ = some (.int .i64 g) := by rw [cell_of_row _ _ _ _ _ _ HY2.out]; rfl
  have b3 : w2.cell? ⟨q + 1, 3, none⟩ = some (.int .i64 i) := by rw [cell_of_row _ _ _ _ _ _ HY2.out]; rfl
  have b4 : w2.cell? ⟨q + 1, 4, none⟩ = some (.slice ha hn hc) := by rw [cell_of_row _ _ _ _ _ _ HY2.out]; rfl
  have b5 : w2.cell? ⟨q + 1, 5, none⟩ = some (.slice pa pn pc) := by rw [cell_of_row _ _ _ _ _ _ HY2.out]; rfl
  have b6 : w2.cell? ⟨q + 1, 6, none⟩ = some (.slice ba bn bc) := by rw [cell_of_row _ _ _ _ _ _ HY2.out]; rfl
  obtain ⟨A, HA⟩ : ∃ x, Hid (na s nm g i (.slice ha hn hc) (.slice pa pn pc) (.slice ba bn bc) = x) := ⟨_, ⟨rfl⟩⟩
  obtain ⟨M, HM⟩ : ∃ x, Hid (nmV (true, false, false, true, false) = x) := ⟨_, ⟨rfl⟩⟩
  rw [HA.out] at Hw2 HY2
  rw [HM.out] at Hw1
  rw [HA.out, HM.out]
  clear HX2 HY2
  by_cases ci : i = 0
  · by_cases ch : hn = 0
    · by_cases cb : bn = 0
      · have HR : Hid (al (true, false, false, true, false) nm g i hn pn bn = true) := ⟨by unfold al; simp [ci, ch, cb]⟩
        have fi : (i == 0) = true := by simp [ci]
        have fh : ((hn : Int) == 0) = true := by simp [ch]
        have fb : ((bn : Int) == 0) = true := by simp [cb]
        clear ci ch cb
        go_enter Try.func16, Try.ntmps16
        go_upto_region 1 with (first | (refine wp_box rfl 40 (.tmp 0) rfl M rfl ?_; rw [Hw1.out]) | (refine wp_box rfl 27 (.tmp 1) rfl A rfl ?_; rw [Hw2.out, HS1.out, Hq.out]))
        go_wp2_with fail
        go_ret
        exact ⟨by rw [HR.out]; rfl, HB2.out⟩
      · have HR : Hid (al (true, false, false, true, false) nm g i hn pn bn = false) := ⟨by unfold al; simp [ci, ch, cb]⟩
        have fi : (i == 0) = true := by simp [ci]
        have fh : ((hn : Int) == 0) = true := by simp [ch]
        have fb : ((bn : Int) == 0) = false := by simp; omega
        clear ci ch cb
        go_enter Try.func16, Try.ntmps16
        go_upto_region 1 with (first | (refine wp_box rfl 40 (.tmp 0) rfl M rfl ?_; rw [Hw1.out]) | (refine wp_box rfl 27 (.tmp 1) rfl A rfl ?_; rw [Hw2.out, HS1.out, Hq.out]))
        go_wp2_with fail
        go_ret
        exact ⟨by rw [HR.out]; rfl, HB2.out⟩
    · have HR : Hid (al (true, false, false, true, false) nm g i hn pn bn = false) := ⟨by unfold al; simp [ci, ch]⟩
      have fi : (i == 0) = true := by simp [ci]
      have fh : ((hn : Int) == 0) = false := by simp; omega
      clear ci ch
      go_enter Try.func16, Try.ntmps16
      go_upto_region 1 with (first | (refine wp_box rfl 40 (.tmp 0) rfl M rfl ?_; rw [Hw1.out]) | (refine wp_box rfl 27 (.tmp 1) rfl A rfl ?_; rw [Hw2.out, HS1.out, Hq.out]))
      go_wp2_with fail
      go_ret
      exact ⟨by rw [HR.out]; rfl, HB2.out⟩
  · have HR : Hid (al (true, false, false, true, false) nm g i hn pn bn = false) := ⟨by unfold al; simp [ci]⟩
    have fi : (i == 0) = false := by simp; omega
    clear ci
    go_enter Try.func16, Try.ntmps16
    go_upto_region 1 with (first | (refine wp_box rfl 40 (.tmp 0) rfl M rfl ?_; rw [Hw1.out]) | (refine wp_box rfl 27 (.tmp 1) rfl A rfl ?_; rw [Hw2.out, HS1.out, Hq.out]))
    go_wp2_with fail
    go_ret
    exact ⟨by rw [HR.out]; rfl, HB2.out⟩
end
end Go.Proofs.Ythohpbppfihoiaa
