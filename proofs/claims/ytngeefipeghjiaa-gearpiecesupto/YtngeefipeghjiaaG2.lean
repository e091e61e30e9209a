/- Package gear's Check. -/
import Derived.Test.YtngeefipeghjiaaG1
namespace Go.Proofs.Ytngeefipeghjiaa
open Go.RowKit

def chkE (mn av mx : Int) : Int := if okC mn av mx then 0 else 2
theorem pow_iff {n : Nat} (h : n < 256) : bits .and .i64 ((n : Int) + 1) (n : Int) = 0 ↔ ((n : Int) + 1 = 1 ∨ (n : Int) + 1 = 2 ∨ (n : Int) + 1 = 4 ∨ (n : Int) + 1 = 8 ∨ (n : Int) + 1 = 16 ∨ (n : Int) + 1 = 32 ∨ (n : Int) + 1 = 64 ∨ (n : Int) + 1 = 128 ∨ (n : Int) + 1 = 256) := by
  have := List.all_eq_true.1 and_pow n (by simpa using h)
  simp only [pows, beq_iff_eq] at this
  constructor
  · intro e
    rw [e] at this
    simp at this
    omega
  · intro e
    have e2 : [1, 2, 4, 8, 16, 32, 64, 128, 256].contains (n + 1) = true := by simp; omega
    rw [e2] at this
    simpa using this
set_option maxHeartbeats 1000000 in
theorem check_any (mn av mx : Int) (w : World) : Calls Try.prog 12 #[.agg #[.int .i64 mn, .int .i64 av, .int .i64 mx]] w fun e w' => e = .returned (.int .i64 (chkE mn av mx)) ∧ Below w.heap.size w w' := by
  have hb : Below w.heap.size w (w.alloc (.cells #[.int .i64 mn, .int .i64 av, .int .i64 mx] 24)) := (Below.refl _ w).alloc (Nat.le_refl _) _
  have HB : Hid (Below w.heap.size w (w.alloc (.cells #[.int .i64 mn, .int .i64 av, .int .i64 mx] 24))) := ⟨hb⟩
  have HE : ∀ z : Int, (z = if okC mn av mx then 0 else 2) → Hid (z = chkE mn av mx) := fun z h => ⟨h⟩
  clear hb
  go_enter Try.func12, Try.ntmps12
  by_cases h1 : mn < 1
  · have HZ := HE 2 (by rw [if_neg]; unfold okC; omega)
    go_wp2
    go_ret
    exact ⟨by rw [← HZ.out]; rfl, HB.out⟩
  by_cases h2 : mx < mn
  · have HZ := HE 2 (by rw [if_neg]; unfold okC; omega)
    go_wp2
    go_ret
    exact ⟨by rw [← HZ.out]; rfl, HB.out⟩
  by_cases h3 : 512 < mx
  · have HZ := HE 2 (by rw [if_neg]; unfold okC; omega)
    go_wp2
    go_ret
    exact ⟨by rw [← HZ.out]; rfl, HB.out⟩
  by_cases h4 : av < 1
  · have HZ := HE 2 (by rw [if_neg]; unfold okC; omega)
    go_wp2
    go_ret
    exact ⟨by rw [← HZ.out]; rfl, HB.out⟩
  by_cases h5 : 256 < av
  · have HZ := HE 2 (by rw [if_neg]; unfold okC; omega)
    go_wp2
    go_ret
    exact ⟨by rw [← HZ.out]; rfl, HB.out⟩
  obtain ⟨n, rfl⟩ : ∃ n : Nat, av = (n : Int) + 1 := ⟨(av - 1).toNat, by omega⟩
  have hp := pow_iff (n := n) (by omega)
  have hw : wrap64 ((n : Int) + 1 - 1) = (n : Int) := by rw [IntWalk.wrap64_in _ ⟨by omega, by omega⟩]; omega
  by_cases h6 : bits .and .i64 ((n : Int) + 1) (n : Int) = 0
  · have HZ := HE 0 (by rw [if_pos]; unfold okC; exact ⟨by omega, by omega, by omega, hp.1 h6⟩)
    clear hp
    go_wp2
    go_ret
    exact ⟨by rw [← HZ.out]; rfl, HB.out⟩
  · have HZ := HE 2 (by rw [if_neg]; unfold okC; intro h; exact h6 (hp.2 h.2.2.2))
    clear hp
    go_wp2
    go_ret
    exact ⟨by rw [← HZ.out]; rfl, HB.out⟩
end Go.Proofs.Ytngeefipeghjiaa
