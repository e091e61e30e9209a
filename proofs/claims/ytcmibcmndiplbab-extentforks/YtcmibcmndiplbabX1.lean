/- Contracts of the small functions of package extent: span's methods. -/
import Derived.Test.YtcmibcmndiplbabChecked
import Derived.WalkKit
import Derived.WalkSpells
import Derived.WalkLawsBesides
import Derived.Deep.LoopGhost
import Derived.BigQuiet
namespace Go.Proofs.Ytcmibcmndiplbab
open Go.RowKit

/-- Set aside, so that the walk does not use it. -/
structure Hid (p : Prop) : Prop where
  out : p

/-- A span, or a run, as a value. -/
def sp (x : Int × Int) : Value := .agg #[.int .i64 x.1, .int .i64 x.2]

theorem empty_any (x : Int × Int) (W : World) : Calls Try.prog 24 #[sp x] W fun e w' => e = .returned (.bool (x.1 == x.2)) ∧ Below W.heap.size W w' := by
  unfold sp
  go_enter Try.func24, Try.ntmps24
  go_wp2
  go_ret
  exact ⟨rfl, (Below.refl _ W).alloc (Nat.le_refl _) _⟩

theorem size_any (x : Int × Int) (W : World) : Calls Try.prog 26 #[sp x] W fun e w' => e = .returned (.int .i64 (wrap64 (x.2 - x.1))) ∧ Below W.heap.size W w' := by
  unfold sp
  go_enter Try.func26, Try.ntmps26
  go_wp2
  go_ret
  exact ⟨rfl, (Below.refl _ W).alloc (Nat.le_refl _) _⟩

theorem within_any (x y : Int × Int) (W : World) : Calls Try.prog 42 #[sp x, sp y] W fun e w' => e = .returned (.bool (decide (y.1 ≤ x.1 ∧ x.2 ≤ y.2))) ∧ Below W.heap.size W w' := by
  unfold sp
  go_enter Try.func42, Try.ntmps42
  by_cases h1 : y.1 ≤ x.1
  · go_wp2
    all_goals (go_ret; exact ⟨by simp_all <;> omega, ((Below.refl _ W).alloc (Nat.le_refl _) _).alloc (by simp) _⟩)
  · go_wp2
    all_goals (go_ret; exact ⟨by simp_all <;> omega, ((Below.refl _ W).alloc (Nat.le_refl _) _).alloc (by simp) _⟩)

theorem meets_any (x y : Int × Int) (W : World) : Calls Try.prog 33 #[sp x, sp y] W fun e w' => e = .returned (.bool (decide (x.1 < y.2 ∧ y.1 < x.2))) ∧ Below W.heap.size W w' := by
  unfold sp
  go_enter Try.func33, Try.ntmps33
  by_cases h1 : x.1 < y.2
  · go_wp2
    all_goals (go_ret; exact ⟨by simp_all <;> omega, ((Below.refl _ W).alloc (Nat.le_refl _) _).alloc (by simp) _⟩)
  · go_wp2
    all_goals (go_ret; exact ⟨by simp_all <;> omega, ((Below.refl _ W).alloc (Nat.le_refl _) _).alloc (by simp) _⟩)
end Go.Proofs.Ytcmibcmndiplbab
