/- The walk of RecipeNew, of refs that came in. -/
import Derived.Test.YtkkcdmdkjedkjaaRefFrame
import Derived.Test.YtkkcdmdkjedkjaaWN
namespace Go.Proofs.Ytkkcdmdkjedkjaa
open Go.RowKit

theorem walk_recipeNew (v : Value) (L : List Rf) (W : World) (h : RefV W v L) : Calls Try.prog 3 #[v] W fun e w' => e = .returned (.bool true) ∧ Below W.heap.size W w' :=
  walkNew v L h.rd (by have := h.len; omega)
end Go.Proofs.Ytkkcdmdkjedkjaa
