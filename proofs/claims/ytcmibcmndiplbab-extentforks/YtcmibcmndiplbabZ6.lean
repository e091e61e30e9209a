/- The law ExtentApart, from what came in. -/
import Derived.Test.YtcmibcmndiplbabZ5
namespace Go.Proofs.Ytcmibcmndiplbab
open Go.RowKit

theorem u8_in {f : Int} (h : (Lit.int .u8 f).wf = true) : 0 ≤ f ∧ f < 256 := by
  have e1 : IntKind.u8.min = 0 := rfl
  have e2 : IntKind.u8.max = 255 := rfl
  simp only [Lit.wf, e1, e2, Bool.and_eq_true, decide_eq_true_eq] at h
  omega
theorem walk_extentApart (f s : Int) (v : Value) (zs : List Int) (w : World) (hf : (Lit.int .u8 f).wf = true) (hs : (Lit.int .u8 s).wf = true) (hv : Is w v zs) : Calls Try.prog 5 #[.int .u8 f, .int .u8 s, v] w fun e w' => e = .returned (.bool true) ∧ Below w.heap.size w w' :=
  apart_any f s v zs w (u8_in hf).1 (u8_in hf).2 (u8_in hs).1 (u8_in hs).2 hv
end Go.Proofs.Ytcmibcmndiplbab
