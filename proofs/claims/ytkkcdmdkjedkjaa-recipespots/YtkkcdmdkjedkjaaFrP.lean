/- The walk of RecipeSpots, of refs that came in. -/
import Derived.Test.YtkkcdmdkjedkjaaWP
import Derived.Test.YtkkcdmdkjedkjaaRefFrame
namespace Go.Proofs.Ytkkcdmdkjedkjaa
open Go.RowKit

theorem walk_recipeSpots (v : Value) (L : List Rf) (W : World) (h : RefV W v L) : Calls Try.prog 8 #[v] W fun e w' => e = .returned (.bool true) ∧ Below W.heap.size W w' :=
  recipeSpots_any v L h.rd h.len
end Go.Proofs.Ytkkcdmdkjedkjaa
