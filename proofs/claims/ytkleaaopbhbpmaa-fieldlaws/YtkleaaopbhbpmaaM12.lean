/- What must be whatever is asked. -/
import Derived.Test.YtkleaaopbhbpmaaM8
import Derived.Test.YtkleaaopbhbpmaaM11
namespace Go.Proofs.Ytkleaaopbhbpmaa
open Go.RowKit Gf

def l12 : List G := [ge 1 (by decide), ge 2 (by decide)]
def l31 : List G := [ge 3 (by decide), ge 1 (by decide)]
set_option maxRecDepth 100000 in
theorem l12_nodup : l12.Nodup := by decide
set_option maxRecDepth 100000 in
theorem l12_wts : (wts l12 1).map gi = [1, 0] := by decide +kernel
set_option maxRecDepth 100000 in
theorem l31_ev : gi (ev l31 (ge 2 (by decide))) = 1 := by decide +kernel
theorem rdG_two (w : World) (x y : G) : RdG (w.alloc (.cells #[.int .u8 (gi x), .int .u8 (gi y)] 5)) (.slice (some ⟨w.heap.size, 0, none⟩) 2 2) [x, y] := by
  refine ⟨some ⟨w.heap.size, 0, none⟩, 2, rfl, Nat.le_refl _, by decide, by simp, ?_⟩
  intro ad e i hi
  cases e
  have h := heap_alloc_new w (.cells #[.int .u8 (gi x), .int .u8 (gi y)] 5)
  rw [add_plain, Nat.zero_add, cell_of_row _ _ _ _ _ _ h]
  match i, hi with
  | 0, _ => rfl
  | 1, _ => rfl
section
variable {w : World}
set_option maxHeartbeats 4000000 in
set_option maxRecDepth 100000 in
theorem live12 : Calls Try.prog 12 #[] w fun e w' => e = .returned (.bool true) ∧ Below w.heap.size w w' := by
  obtain ⟨w1, Hw1⟩ : ∃ w1, Hid (w.alloc (.cells #[.int .u8 1, .int .u8 2] 5) = w1) := ⟨_, ⟨rfl⟩⟩
  have HB1 : Hid (Below w.heap.size w w1) := ⟨by rw [← Hw1.out]; exact (Below.refl _ w).alloc (Nat.le_refl _) _⟩
  have hr1 : RdG w1 (.slice (some ⟨w.heap.size, 0, none⟩) 2 2) l12 := by rw [← Hw1.out]; exact rdG_two w _ _
  have t1 : Calls Try.prog 21 #[.slice (some ⟨w.heap.size, 0, none⟩) 2 2, .int .u8 1] w1 fun e w' => ∃ v' c, e = .returned (.tuple #[v', .int .i64 c]) ∧ WRes w1 w' l12 1 v' c ∧ Below w1.heap.size w1 w' := weights21 (w := w1) 1 _ l12 hr1 (by decide)
  have t2 : ∀ w, Calls Try.prog 13 #[.int .u8 2, .int .u8 128] w fun e w' => e = .returned (.int .u8 29) ∧ w = w' := fun w => by
    have := mul13 (ge 2 (by decide)) (ge 128 (by decide)) w
    rw [show gi (ge 2 (by decide) * ge 128 (by decide)) = 29 by decide +kernel] at this
    exact this
  clear hr1
  go_enter Try.func12, Try.ntmps12
  go_wp2_with fail
  rw [Hw1.out]
  refine t1.mono ?_
  rintro e w2 ⟨v2, c2, rfl, hw2, hb2⟩
  have HB2 : Hid (Below w.heap.size w w2) := ⟨HB1.out.trans (hb2.mono HB1.out.size)⟩
  obtain ⟨ho2, rfl⟩ : OwnG w2 w1.heap.size v2 (wts l12 1) ∧ c2 = 0 := by
    rcases hw2 with ⟨_, h, h3⟩ | ⟨h, _⟩
    · exact ⟨h3, h⟩
    · exact absurd l12_nodup h
  have hr2 : RdG w2 v2 (wts l12 1) := ho2.rd
  obtain ⟨b, off, cap, e, hcap, hc⟩ := hr2.at (i := 0) (by decide)
  have hl : (wts l12 1).length = 2 := rfl
  rw [hl] at e hc hcap
  subst e
  have c0 : w2.cell? ⟨b, off, none⟩ = some (.int .u8 1) := by
    have h := hc 0 (by decide)
    have e : gi ((wts l12 1).getD 0 0) = 1 := by
      have := congrArg (fun l => l.getD 0 0) l12_wts
      exact this
    rw [e] at h
    exact h
  have c1 : w2.cell? ⟨b, off + 1, none⟩ = some (.int .u8 0) := by
    have h := hc 1 (by decide)
    have e : gi ((wts l12 1).getD 1 0) = 0 := by
      have := congrArg (fun l => l.getD 1 0) l12_wts
      exact this
    rw [e] at h
    exact h
  obtain ⟨w3, Hw3⟩ : ∃ w3, Hid (w2.alloc (.cells #[.int .u8 3, .int .u8 1] 5) = w3) := ⟨_, ⟨rfl⟩⟩
  have HB3 : Hid (Below w.heap.size w w3) := ⟨by rw [← Hw3.out]; exact HB2.out.alloc HB2.out.size _⟩
  have hr3 : RdG w3 (.slice (some ⟨w2.heap.size, 0, none⟩) 2 2) l31 := by rw [← Hw3.out]; exact rdG_two w2 _ _
  have t3 : Calls Try.prog 17 #[.slice (some ⟨w2.heap.size, 0, none⟩) 2 2, .int .u8 2] w3 fun e w' => e = .returned (.int .u8 1) ∧ Below w3.heap.size w3 w' := by
    have := eval17 (w := w3) l31 _ (ge 2 (by decide)) (by decide) hr3
    rw [l31_ev] at this
    exact this
  clear t1 hw2 hb2 ho2 hr2 hc hl hr3
  go_wp2_with fail
  refine (t2 _).mono ?_
  rintro e w4 ⟨rfl, rfl⟩
  clear t2
  go_wp2_with fail
  rw [Hw3.out]
  refine t3.mono ?_
  rintro e w5 ⟨rfl, hb5⟩
  have HB5 : Hid (Below w.heap.size w w5) := ⟨HB3.out.trans (hb5.mono HB3.out.size)⟩
  clear t3 hb5
  go_wp2_with fail
  go_ret
  exact ⟨rfl, HB5.out⟩
end
end Go.Proofs.Ytkleaaopbhbpmaa
