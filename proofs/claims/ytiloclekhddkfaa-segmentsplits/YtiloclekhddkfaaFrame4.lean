/- The walk of SegmentSplits, of refs that came in. -/
import Derived.Test.YtiloclekhddkfaaFrame2
import Derived.Test.YtiloclekhddkfaaWS
namespace Go.Proofs.Ytiloclekhddkfaa
open Go.RowKit

theorem walk_segmentSplits (v : Value) (L : List Rf) (most : Int) (W : World) (h : RefV W v L) (hm : (Lit.int .i64 most).wf = true) : Calls Try.prog 4 #[v, .int .i64 most] W fun e w' => e = .returned (.bool true) ∧ Below W.heap.size W w' :=
  walk_splits v L most h.rd (by have := h.len; omega) (i64_in' hm)
end Go.Proofs.Ytiloclekhddkfaa
