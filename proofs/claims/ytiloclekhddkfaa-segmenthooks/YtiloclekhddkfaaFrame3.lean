/- The walk of SegmentHooks, of refs that came in. -/
import Derived.Test.YtiloclekhddkfaaFrame2
namespace Go.Proofs.Ytiloclekhddkfaa
open Go.RowKit

theorem walk_segmentHooks (v : Value) (L : List Rf) (rate : Int) (W : World) (h : RefV W v L) (_ : (Lit.int .i64 rate).wf = true) : Calls Try.prog 3 #[v, .int .i64 rate] W fun e w' => e = .returned (.bool true) ∧ Below W.heap.size W w' :=
  walk_hooks v L rate h.rd h.len
end Go.Proofs.Ytiloclekhddkfaa
