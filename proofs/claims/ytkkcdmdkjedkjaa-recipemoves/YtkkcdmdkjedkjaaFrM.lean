/- The walk of RecipeMoves, of refs and moves that came in. -/
import Derived.Test.YtkkcdmdkjedkjaaWM
import Derived.Test.YtkkcdmdkjedkjaaMovFrame
namespace Go.Proofs.Ytkkcdmdkjedkjaa
open Go.RowKit

theorem walk_recipeMoves (v : Value) (L : List Rf) (u : Value) (ms : List (Sp × Sp)) (W : World) (h : RefV W v L) (k : MovV W u ms) : Calls Try.prog 6 #[v, u] W fun e w' => e = .returned (.bool true) ∧ Below W.heap.size W w' :=
  recipeMoves_any v u L ms h.rd h.len k.rd k.len
end Go.Proofs.Ytkkcdmdkjedkjaa
