/- A fact of a tick: Check. -/
import Derived.Test.YtdcmagdglmmdkaaN1
import Derived.Laws.StructEq
namespace Go.Proofs.Ytdcmagdglmmdkaa
open Go.RowKit
/-- A tick's cells. -/
abbrev tk (T : Int) : Array Value := #[.int .i64 8, .int .i64 0, .int .i64 0, .int .i64 0, .string { data := #[] }, .int .i64 0, .int .i64 T, .slice none 0 0, .slice none 0 0, .slice none 0 0, .int .i64 0, .int .i64 0, .int .i64 0, .int .i64 0]
section
variable {w : World}
set_option maxHeartbeats 4000000 in
set_option maxRecDepth 100000 in
theorem beside_tick (T : Int) : Calls Try.prog 20 #[.agg (tk T)] w fun e w' => e = .returned (.agg (tk 0)) ∧ Below w.heap.size w w' := by
  go_enter Try.func20, Try.ntmps20
  go_wp2
  refine bodyPost_ret (v := .agg (tk 0)) (by simp [results, Try.results20, go_sem]) rfl ⟨rfl, ?_⟩
  exact ((Below.refl _ _).alloc (Nat.le_refl _) _).alloc (by simp) _
set_option maxHeartbeats 4000000 in
set_option maxRecDepth 100000 in
theorem empty_tick : Calls Try.prog 19 #[.agg (tk 0)] w fun e w' => e = .returned (.bool true) ∧ Below w.heap.size w w' := by
  go_enter Try.func19, Try.ntmps19
  go_wp2
  go_ret
  exact ⟨rfl, (Below.refl _ _).alloc (Nat.le_refl _) _⟩
set_option maxHeartbeats 4000000 in
set_option maxRecDepth 100000 in
theorem parts_tick (T : Int) (h0 : 0 ≤ T) (h1 : T ≤ 9007199254740991) : Calls Try.prog 21 #[.agg (tk T)] w fun e w' => e = .returned (.bool true) ∧ Below w.heap.size w w' := by
  have t := fun (w : World) => num_q (w := w) T
  rw [decide_eq_true ⟨h0, h1⟩] at t
  go_enter Try.func21, Try.ntmps21
  go_wp2_with (go_at_call 42; refine (t _).mono ?_; rintro e w' ⟨rfl, ex⟩; subst ex)
  go_ret
  exact ⟨rfl, (Below.refl _ _).alloc (Nat.le_refl _) _⟩
theorem all44_nil (f : Value) : Calls Try.prog 44 #[.slice none 0 0, f] w fun e w' => e = .returned (.bool true) ∧ w = w' := by
  go_enter Try.func44, Try.ntmps44
  go_wp2
  go_loop [9] (fun i => i = .int .i64 0) (fun _ => 0)
  case atStart => rfl
  case round =>
    subst hrel
    go_wp2
    go_ret
    exact ⟨rfl, rfl⟩
theorem all46_nil (f : Value) : Calls Try.prog 46 #[.slice none 0 0, f] w fun e w' => e = .returned (.bool true) ∧ w = w' := by
  go_enter Try.func46, Try.ntmps46
  go_wp2
  go_loop [9] (fun i => i = .int .i64 0) (fun _ => 0)
  case atStart => rfl
  case round =>
    subst hrel
    go_wp2
    go_ret
    exact ⟨rfl, rfl⟩
theorem all48_nil (f : Value) : Calls Try.prog 48 #[.slice none 0 0, f] w fun e w' => e = .returned (.bool true) ∧ w = w' := by
  go_enter Try.func48, Try.ntmps48
  go_wp2
  go_loop [9] (fun i => i = .int .i64 0) (fun _ => 0)
  case atStart => rfl
  case round =>
    subst hrel
    go_wp2
    go_ret
    exact ⟨rfl, rfl⟩
set_option maxHeartbeats 4000000 in
set_option maxRecDepth 100000 in
theorem lists_tick (T : Int) : Calls Try.prog 22 #[.agg (tk T)] w fun e w' => e = .returned (.bool true) ∧ Below w.heap.size w w' := by
  go_enter Try.func22, Try.ntmps22
  go_wp2_with (first
    | (go_at_call 44; refine (all44_nil _).mono ?_; rintro e w' ⟨rfl, ex⟩; subst ex)
    | (go_at_call 46; refine (all46_nil _).mono ?_; rintro e w' ⟨rfl, ex⟩; subst ex)
    | (go_at_call 48; refine (all48_nil _).mono ?_; rintro e w' ⟨rfl, ex⟩; subst ex))
  go_ret
  exact ⟨rfl, (Below.refl _ _).alloc (Nat.le_refl _) _⟩
end
end Go.Proofs.Ytdcmagdglmmdkaa
