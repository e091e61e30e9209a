/- The law's bounds; slices of ints that came in. -/
import Derived.Test.YtcmibcmndiplbabX15
namespace Go.Proofs.Ytcmibcmndiplbab
open Go.RowKit Go.Lib Go.Shelf

/-- The value v is a slice that reads the numbers zs. -/
def Is (w : World) (v : Value) (zs : List Int) : Prop :=
  ∃ a cap, v = .slice a zs.length cap ∧ zs.length ≤ cap ∧ cap ≤ maxLen ∧ (a = none → cap = 0) ∧ ∀ x, a = some x → ∀ i, i < zs.length → w.cell? (x.add i) = some (.int .i64 (zs.getD i 0))
theorem add_plain (b off i : Nat) : (⟨b, off, none⟩ : Addr).add i = ⟨b, off + i, none⟩ := by unfold Addr.add; split <;> simp_all
theorem Is.places {w : World} {v : Value} {zs : List Int} (h : Is w v zs) : ∃ ao cap, v = .slice ao zs.length cap ∧ ∀ j, j < zs.length → ∃ b off, ao = some ⟨b, off, none⟩ ∧ b < w.heap.size ∧ w.cell? ⟨b, off + j, none⟩ = some (.int .i64 (zs.getD j 0)) := by
  obtain ⟨a, cap, rfl, hl, hm, hn, hc⟩ := h
  refine ⟨a, cap, rfl, fun j hj => ?_⟩
  cases a with
  | none => have := hn rfl; omega
  | some x =>
    obtain ⟨b, off, spot⟩ := x
    have h00 := hc _ rfl 0 (by omega)
    have hs : spot = none := by simpa [Addr.add] using World.cell?_spot h00
    subst hs
    have h0 := hc _ rfl j hj
    rw [add_plain] at h0
    exact ⟨b, off, rfl, by simpa using World.block_lt_of_cell? w _ h0, h0⟩

set_option maxHeartbeats 1000000 in
theorem bounds_any (f s : Int) (w : World) (hf0 : 0 ≤ f) (hf1 : f < 256) (hs0 : 0 ≤ s) (hs1 : s < 256) : Calls Try.prog 13 #[.int .u8 f, .int .u8 s] w fun e w' => e = .returned (.tuple #[.int .i64 (f % 41), .int .i64 (f % 41 + s % 61)]) ∧ w = w' := by
  go_enter Try.func13, Try.ntmps13
  go_wp2
  go_ret2
  exact ⟨rfl, rfl⟩
end Go.Proofs.Ytcmibcmndiplbab
