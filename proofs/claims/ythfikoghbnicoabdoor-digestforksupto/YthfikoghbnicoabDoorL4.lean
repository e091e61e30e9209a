/- The walk of DigestSums, from the two sums' contracts. -/
import Derived.Test.YthfikoghbnicoabDoorEq
namespace Go.Proofs.YthfikoghbnicoabDoor
open Go.RowKit

theorem guard24 (w : World) (op : BinOp) (x y : Operand) (xs ys : Array Value) : (eqGuard op 24 x y (.agg xs) (.agg ys)).run Tryd.prog w = .ok () w := run_eqGuard_agg w op 24 x y xs ys (by kernel_rfl)
theorem same24 (w : World) (f : Nat → Int) : (binOp .eql 24 (.agg (arr .u8 32 f)) (.agg (arr .u8 32 f))).run Tryd.prog w = .ok (.bool true) w := by
  rw [run_eql_struct, eq24 w f f 9998]
  have : ((List.range' 0 32).all fun i => f i == f i) = true := by simp
  rw [this]
  rfl

set_option maxHeartbeats 400000 in
theorem sums_core (v : Value) (f : Nat → Int) (w : World) (hL : Calls Tryd.prog 9 #[] w fun e w' => e = .returned (.bool true) ∧ Below w.heap.size w w')
    (h10 : ∀ w1, Below w.heap.size w w1 → Calls Tryd.prog 10 #[v] w1 fun e w' => e = .returned (.agg (arr .u8 32 f)) ∧ Below w1.heap.size w1 w')
    (h11 : ∀ w1, Below w.heap.size w w1 → Calls Tryd.prog 11 #[v] w1 fun e w' => e = .returned (.agg (arr .u8 32 f)) ∧ Below w1.heap.size w1 w') :
    Calls Tryd.prog 3 #[v] w fun e w' => e = .returned (.bool true) ∧ Below w.heap.size w w' := by
  have hg := fun (w : World) => guard24 w .eql (.tmp 6) (.tmp 8) (arr .u8 32 f) (arr .u8 32 f)
  have hs := fun (w : World) => same24 w f
  go_enter Tryd.func3, Tryd.ntmps3
  go_wp2_with (first
    | (go_at_call 9; refine hL.mono ?_; rintro e w1 ⟨rfl, hb1⟩)
    | (go_at_call 10; refine (h10 w1 hb1).mono ?_; rintro e w2 ⟨rfl, hb2⟩; have hb2' := hb1.trans (hb2.mono hb1.size))
    | (go_at_call 11; refine (h11 w2 hb2').mono ?_; rintro e w3 ⟨rfl, hb3⟩; have hb3' := hb2'.trans (hb3.mono hb2'.size)))
  go_ret
  exact ⟨rfl, hb3'⟩
end Go.Proofs.YthfikoghbnicoabDoor
