/- BloomForks, of what came in. -/
import Derived.Test.YtiloclekhddkfabDoorFrame2
import Derived.Test.YtiloclekhddkfabDoorW6
namespace Go.Proofs.YtiloclekhddkfabDoor
open Go.RowKit
theorem walk_bloomForks (a b : Int) (v : Value) (L : List Dd) (z : Value) (M : List Dd) (u : Value) (s : List Int) (w : World) (hV : Vars w) (ha : (Lit.int .u16 a).wf = true) (hb : (Lit.int .u8 b).wf = true) (hL : Deeds w v L) (hM : Deeds w z M) (h : u = .agg (sc s).toArray ∧ Sum32 s) : Calls Tryd.prog 7 #[.int .u16 a, .int .u8 b, v, z, u] w fun e w' => e = .returned (.bool true) ∧ Below w.heap.size w w' := by
  obtain ⟨rfl, hs⟩ := h
  have h1 := u16_in' ha
  have h2 := u8_in' hb
  obtain ⟨m, rfl⟩ := Int.eq_ofNat_of_zero_le h1.1
  obtain ⟨n, rfl⟩ := Int.eq_ofNat_of_zero_le h2.1
  exact forks_walk m n (by omega) (by omega) v L hL z M hM s hs hV
end Go.Proofs.YtiloclekhddkfabDoor
