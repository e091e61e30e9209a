/- The walk of CleanCopies, of spots that came in. -/
import Derived.Test.YtjcojpddjhjhbaaWCp
import Derived.Test.YtjcojpddjhjhbaaFr
namespace Go.Proofs.Ytjcojpddjhjhbaa
open Go.RowKit

theorem walk_cleanCopies (bin : Int) (v : Value) (L : List Sp) (W : World) (_ : (Lit.int .i64 bin).wf = true) (h : SpotV W v L) : Calls Try.prog 7 #[.int .i64 bin, v] W fun e w' => e = .returned (.bool true) ∧ Below W.heap.size W w' :=
  cleanCopies_any bin v L h.rd h.len
end Go.Proofs.Ytjcojpddjhjhbaa
