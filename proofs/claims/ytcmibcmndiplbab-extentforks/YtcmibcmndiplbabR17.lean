/- Fork on both maps; what a nil map answers. -/
import Derived.Test.YtcmibcmndiplbabR14
namespace Go.Proofs.Ytcmibcmndiplbab
open Go.RowKit Go.Lib Go.Shelf

set_option maxHeartbeats 1000000 in
theorem free_nil (w : World) : Calls Try.prog 10 #[.pointer none] w fun e w' => e = .returned (.int .i64 0) ∧ Below w.heap.size w w' := by
  go_enter Try.func10, Try.ntmps10
  go_wp2
  go_ret
  exact ⟨rfl, Below.refl _ w⟩
set_option maxHeartbeats 1000000 in
theorem most_nil (w : World) : Calls Try.prog 11 #[.pointer none] w fun e w' => e = .returned (.int .i64 0) ∧ Below w.heap.size w w' := by
  go_enter Try.func11, Try.ntmps11
  go_wp2
  go_ret
  exact ⟨rfl, Below.refl _ w⟩
set_option maxHeartbeats 1000000 in
theorem fork_nil (w : World) : Calls Try.prog 19 #[.pointer none] w fun e w' => e = .returned (.pointer none) ∧ Below w.heap.size w w' := by
  go_enter Try.func19, Try.ntmps19
  go_wp2
  go_ret
  exact ⟨rfl, Below.refl _ w⟩
set_option maxHeartbeats 1000000 in
theorem runs_nil (w : World) : Calls Try.prog 16 #[.pointer none] w fun e w' => (∃ a c, e = .returned (.slice a 0 c)) ∧ Below w.heap.size w w' := by
  go_enter Try.func16, Try.ntmps16
  go_wp2
  go_ret
  exact ⟨⟨_, _, rfl⟩, Below.refl _ w⟩

set_option maxHeartbeats 1000000 in
theorem refFork_any {w : World} {q : Nat} {A : Int} {base : Nat} {v : Value} {T : List Bool} (h : RefAt w q A base v T) :
    Calls Try.prog 20 #[.pointer (some ⟨q, 0, none⟩)] w fun e w' => e = .returned (.pointer (some ⟨w.heap.size, 0, none⟩)) ∧ RefAt w' w.heap.size A base v T ∧ Below w.heap.size w w' := by
  obtain ⟨c0, c1⟩ := cells_row2 h.row
  have hb : Below w.heap.size w (w.alloc (.cells #[.int .i64 A, v] 79)) := (Below.refl _ w).alloc (Nat.le_refl _) _
  have HR : Hid (RefAt (w.alloc (.cells #[.int .i64 A, v] 79)) w.heap.size A base v T) := ⟨⟨heap_alloc_new w _, (h.below hb).own, by have := h.pb; have := h.lt; omega, fun e => by have := (h.ownLt _ e).2; omega, h.small⟩⟩
  obtain ⟨ao, cap, rfl, _⟩ := h.own.shape
  clear h
  go_enter Try.func20, Try.ntmps20
  go_wp2
  go_ret
  exact ⟨rfl, HR.out, hb⟩
end Go.Proofs.Ytcmibcmndiplbab
