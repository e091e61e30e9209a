/- The walk of RecordNames. -/
import Derived.Test.YtdcmagdglmmdkaaN10
namespace Go.Proofs.Ytdcmagdglmmdkaa
open Go.RowKit
set_option maxHeartbeats 2000000 in
theorem walk_recordNames (v : Value) (s : ByteArray) (w : World) (h : v = .string s) : Calls Try.prog 3 #[v] w fun e w' => e = .returned (.bool true) ∧ Below w.heap.size w w' := by
  subst h
  obtain ⟨B, HB⟩ : ∃ B, Hid (nmB s = B) := ⟨_, ⟨rfl⟩⟩
  have t9 := fun (w : World) => name_any (w := w) s
  have t10 := fun (w : World) => rname_any (w := w) s
  simp only [HB.out] at t9 t10
  cases B
  · go_enter Try.func3, Try.ntmps3
    go_wp2_with (first
      | (go_at_call 8; refine (live_any (w := w)).mono ?_; rintro e w1 ⟨rfl, hb1⟩)
      | (go_at_call 9; refine (t9 _).mono ?_; rintro e w' ⟨rfl, ex⟩; subst ex)
      | (go_at_call 10; refine (t10 _).mono ?_; rintro e w' ⟨rfl, ex⟩; subst ex))
    go_ret
    exact ⟨rfl, hb1⟩
  · go_enter Try.func3, Try.ntmps3
    go_wp2_with (first
      | (go_at_call 8; refine (live_any (w := w)).mono ?_; rintro e w1 ⟨rfl, hb1⟩)
      | (go_at_call 9; refine (t9 _).mono ?_; rintro e w' ⟨rfl, ex⟩; subst ex)
      | (go_at_call 10; refine (t10 _).mono ?_; rintro e w' ⟨rfl, ex⟩; subst ex))
    go_ret
    exact ⟨rfl, hb1⟩
end Go.Proofs.Ytdcmagdglmmdkaa
