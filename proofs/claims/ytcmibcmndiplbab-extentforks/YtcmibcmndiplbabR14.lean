/- ExtentPlays' walk. -/
import Derived.Test.YtcmibcmndiplbabR13
import Derived.Test.YtcmibcmndiplbabX14
import Derived.Test.YtcmibcmndiplbabZ6
namespace Go.Proofs.Ytcmibcmndiplbab
open Go.RowKit Go.Lib Go.Shelf

set_option maxHeartbeats 2000000 in
theorem plays_any (f s : Int) (v : Value) (ds : List (Int × Int × Int)) (w : World) (hf0 : 0 ≤ f) (hf1 : f < 256) (hs0 : 0 ≤ s) (hs1 : s < 256) (hv : Deeds w v ds) :
    Calls Try.prog 4 #[.int .u8 f, .int .u8 s, v] w fun e w' => e = .returned (.bool true) ∧ Below w.heap.size w w' := by
  have t1 := play_any f s v ds w hf0 hf1 hs0 hs1 hv
  obtain ⟨ao, cap, rfl, _⟩ := hv
  generalize ds.length = n at t1
  go_enter Try.func4, Try.ntmps4
  go_wp2_with (first
    | (go_at_call 12; refine t1.mono ?_; rintro e w1 ⟨p, q, A, B, _, _, rfl, _, hb1⟩; clear t1)
    | (go_at_call 9; refine (live_any _).mono ?_; rintro e w2 ⟨rfl, hb2⟩; have hb12 := hb1.trans (hb2.mono hb1.size); clear hb1 hb2))
  go_ret
  exact ⟨rfl, hb12⟩
theorem walk_extentPlays (f s : Int) (v : Value) (ds : List (Int × Int × Int)) (w : World) (hf : (Lit.int .u8 f).wf = true) (hs : (Lit.int .u8 s).wf = true) (hv : Deeds w v ds) : Calls Try.prog 4 #[.int .u8 f, .int .u8 s, v] w fun e w' => e = .returned (.bool true) ∧ Below w.heap.size w w' :=
  plays_any f s v ds w (u8_in hf).1 (u8_in hf).2 (u8_in hs).1 (u8_in hs).2 hv
end Go.Proofs.Ytcmibcmndiplbab
