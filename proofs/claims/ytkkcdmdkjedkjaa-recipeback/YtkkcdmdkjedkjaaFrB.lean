/- The walk of RecipeBack, of refs that came in. -/
import Derived.Test.YtkkcdmdkjedkjaaBK
namespace Go.Proofs.Ytkkcdmdkjedkjaa
open Go.RowKit

theorem walk_recipeBack (v : Value) (L : List Rf) (bin : Int) (W : World) (h : RefV W v L) (_ : (Lit.int .i64 bin).wf = true) : Calls Try.prog 7 #[v, .int .i64 bin] W fun e w' => e = .returned (.bool true) ∧ Below W.heap.size W w' :=
  recipeBack_any v L bin h.rd h.len
end Go.Proofs.Ytkkcdmdkjedkjaa
