/- Package extent's told, run, and the function of Take. -/
import Derived.Test.YtcmibcmndiplbabX3
import Derived.Deep.RegionWith
import Derived.Handy
namespace Go.Proofs.Ytcmibcmndiplbab
open Go.RowKit Go.Lib

/-- What is asked of a function that tells of a span. -/
def Tells (g : Nat) (f : Int × Int → Value) (w : World) : Prop :=
  ∀ (W : World) (x : Int × Int), Below w.heap.size w W → Calls Try.prog g #[sp x] W fun e w' => e = .returned (f x) ∧ Below W.heap.size W w'

theorem tells_size (w : World) : Tells 26 (fun x => .int .i64 (wrap64 (x.2 - x.1))) w := fun W x _ => size_any x W

theorem size_eq (x y : Int) (W : World) : Calls Try.prog 26 #[.agg #[.int .i64 x, .int .i64 y]] W fun e w' => e = .returned (.int .i64 (wrap64 (y - x))) ∧ w' = W.alloc (.cells #[.int .i64 x, .int .i64 y] 57) := by
  go_enter Try.func26, Try.ntmps26
  go_wp2
  go_ret
  exact ⟨rfl, rfl⟩

set_option maxHeartbeats 1000000 in
theorem run_any (x : Int × Int) (W : World) : Calls Try.prog 36 #[sp x] W fun e w' => e = .returned (sp (x.1, wrap64 (x.2 - x.1))) ∧ Below W.heap.size W w' := by
  unfold sp
  go_enter Try.func36, Try.ntmps36
  go_wp2
  go_region_with (go_at_call 26; refine (size_eq _ _ _).mono ?_; rintro e w' ⟨rfl, rfl⟩)
  all_goals (go_wp2; go_returns; exact ⟨rfl, ((((Below.refl _ W).alloc (Nat.le_refl _) _).alloc (by simp) _).alloc (by simp; omega) _).drew⟩)

set_option maxHeartbeats 1000000 in
theorem fit_any (n : Int) (B : Nat) (x : Int × Int) (W : World) (hB : B < W.heap.size) (hc : W.cell? ⟨B, 0, none⟩ = some (.int .i64 n)) : Calls Try.prog 29 #[sp x, .pointer (some ⟨B, 0, none⟩)] W fun e w' => e = .returned (.bool (decide (n ≤ wrap64 (x.2 - x.1)))) ∧ Below W.heap.size W w' := by
  unfold sp
  have hne : B ≠ W.heap.size := by omega
  have hne1 : B ≠ W.heap.size + 1 := by omega
  go_enter Try.func29, Try.ntmps29
  go_wp2
  go_region_with (go_at_call 26; refine (size_eq _ _ _).mono ?_; rintro e w' ⟨rfl, rfl⟩)
  all_goals (go_wp2; go_ret; exact ⟨rfl, (((Below.refl _ W).alloc (Nat.le_refl _) _).alloc (by simp) _).drew⟩)
end Go.Proofs.Ytcmibcmndiplbab
