/- The walk of CleanChooses, of shares that came in. -/
import Derived.Test.YtjcojpddjhjhbaaWCh
import Derived.Test.YtjcojpddjhjhbaaFr
namespace Go.Proofs.Ytjcojpddjhjhbaa
open Go.RowKit

theorem walk_cleanChooses (v : Value) (L : List Sh) (p most : Int) (W : World) (h : ShareV W v L) (_ : (Lit.int .i64 p).wf = true) (_ : (Lit.int .i64 most).wf = true) : Calls Try.prog 4 #[v, .int .i64 p, .int .i64 most] W fun e w' => e = .returned (.bool true) ∧ Below W.heap.size W w' :=
  cleanChooses_any v L p most h.rd h.len
end Go.Proofs.Ytjcojpddjhjhbaa
