/- slices.Replace of the one span of a row by another. -/
import Derived.Test.YtcmibcmndiplbabX9
namespace Go.Proofs.Ytcmibcmndiplbab
open Go.RowKit Go.Lib Go.Shelf

set_option maxHeartbeats 2000000 in
set_option maxRecDepth 100000 in
theorem replace_1 (a c x y : Int) (b gv : Nat) (r0 r1 : Value) (w : World) (h : Row w b #[.int .i64 a, .int .i64 c]) (hv : Row w gv #[.int .i64 x, .int .i64 y, r0, r1]) (_hne : b ≠ gv) :
    Calls Try.prog 43 #[.slice (some ⟨b, 0, none⟩) 1 1, .int .i64 0, .int .i64 1, .slice (some ⟨gv, 0, none⟩) 1 2] w fun e w' => e = .returned (.slice (some ⟨b, 0, none⟩) 1 1) ∧
      Row w' b #[.int .i64 x, .int .i64 y] ∧ w.grownBy w' (some b) := by
  have c0 : w.cell? ⟨b, 0, none⟩ = some (.int .i64 a) := h.cell 0
  have c1 : w.cell? ⟨b, 1, none⟩ = some (.int .i64 c) := h.cell 1
  have f0 := h.frozen 0
  have f1 := h.frozen 1
  have v0 : w.cell? ⟨gv, 0, none⟩ = some (.int .i64 x) := hv.cell 0
  have v1 : w.cell? ⟨gv, 1, none⟩ = some (.int .i64 y) := hv.cell 1
  go_enter Try.func43, Try.ntmps43
  go_wp2
  go_ret
  exact ⟨rfl, (h.set 0 _).set 1 _, grown_trans (grown_set _ _ _ _) (grown_set _ _ _ _)⟩
end Go.Proofs.Ytcmibcmndiplbab
