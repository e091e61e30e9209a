/- The document's less, of spots. -/
import Derived.Test.YtkkcdmdkjedkjaaS5
import Derived.Test.YtkkcdmdkjedkjaaMultiB
namespace Go.Proofs.Ytkkcdmdkjedkjaa
open Go.RowKit Go.Lib

def Lt2 (x y : Sp) : Prop := x.1 < y.1 ∨ (x.1 = y.1 ∧ x.2 < y.2)
instance (x y : Sp) : Decidable (Lt2 x y) := inferInstanceAs (Decidable (_ ∨ _))
theorem lt2_irr (x : Sp) : ¬ Lt2 x x := by unfold Lt2; omega
theorem lt2_tr (x y z : Sp) (h : Lt2 x y) (k : Lt2 y z) : Lt2 x z := by unfold Lt2 at *; omega
theorem lt2_tot (x y : Sp) (h : ¬ Lt2 x y) (k : ¬ x = y) : Lt2 y x := by
  obtain ⟨a, b⟩ := x
  obtain ⟨c, d⟩ := y
  unfold Lt2 at *
  simp at *
  omega
section
variable {w : World}
theorem rless_any (a b c d : Int) : Calls Try.prog 42 #[.agg #[.int .i64 a, .int .i64 b], .agg #[.int .i64 c, .int .i64 d]] w fun e w' => e = .returned (.bool (decide (Lt2 (a, b) (c, d)))) ∧ Below w.heap.size w w' := by
  have hb2 : Below w.heap.size w ((w.alloc (.cells #[.int .i64 a, .int .i64 b] 61)).alloc (.cells #[.int .i64 c, .int .i64 d] 61)) := ((Below.refl _ w).alloc (Nat.le_refl _) _).alloc (by simp) _
  have HB := Hid.mk hb2
  clear hb2
  by_cases h1 : a < c
  · have hr : Hid (decide (Lt2 (a, b) (c, d)) = true) := ⟨by simp [Lt2, h1]⟩
    rw [hr.out]
    go_enter Try.func42, Try.ntmps42
    go_wp2_with fail
    go_ret
    exact ⟨rfl, HB.out⟩
  · by_cases h2 : a = c
    · by_cases h3 : b < d
      · have hr : Hid (decide (Lt2 (a, b) (c, d)) = true) := ⟨by simp [Lt2, h2, h3]⟩
        rw [hr.out]
        subst h2
        go_enter Try.func42, Try.ntmps42
        go_wp2_with fail
        go_ret
        exact ⟨rfl, HB.out⟩
      · have hr : Hid (decide (Lt2 (a, b) (c, d)) = false) := ⟨by simp [Lt2, h2, h3]⟩
        rw [hr.out]
        subst h2
        go_enter Try.func42, Try.ntmps42
        go_wp2_with fail
        go_ret
        exact ⟨rfl, HB.out⟩
    · have hr : Hid (decide (Lt2 (a, b) (c, d)) = false) := ⟨by simp [Lt2, h1, h2]⟩
      have h2' : (a == c) = false := by simp [h2]
      rw [hr.out]
      go_enter Try.func42, Try.ntmps42
      go_wp2_with fail
      go_ret
      exact ⟨rfl, HB.out⟩
end
end Go.Proofs.Ytkkcdmdkjedkjaa
