/- BloomPlays and BloomFinds, of what came in. -/
import Derived.Test.YtiloclekhddkfabDoorFrame2
import Derived.Test.YtiloclekhddkfabDoorW2
import Derived.Test.YtiloclekhddkfabDoorW3
namespace Go.Proofs.YtiloclekhddkfabDoor
open Go.RowKit
theorem walk_bloomPlays (a b : Int) (v : Value) (L : List Dd) (u : Value) (s : List Int) (w : World) (hV : Vars w) (ha : (Lit.int .u16 a).wf = true) (hb : (Lit.int .u8 b).wf = true) (hL : Deeds w v L) (h : u = .agg (sc s).toArray ∧ Sum32 s) : Calls Tryd.prog 4 #[.int .u16 a, .int .u8 b, v, u] w fun e w' => e = .returned (.bool true) ∧ Below w.heap.size w w' := by
  obtain ⟨rfl, hs⟩ := h
  have h1 := u16_in' ha
  have h2 := u8_in' hb
  obtain ⟨m, rfl⟩ := Int.eq_ofNat_of_zero_le h1.1
  obtain ⟨n, rfl⟩ := Int.eq_ofNat_of_zero_le h2.1
  exact plays_walk m n (by omega) (by omega) v L hL s hs hV
theorem walk_bloomFinds (a b : Int) (v : Value) (L : List Dd) (u : Value) (s : List Int) (z : Value) (M : List Dd) (w : World) (hV : Vars w) (ha : (Lit.int .u16 a).wf = true) (hb : (Lit.int .u8 b).wf = true) (hL : Deeds w v L) (h : u = .agg (sc s).toArray ∧ Sum32 s) (hM : Deeds w z M) : Calls Tryd.prog 5 #[.int .u16 a, .int .u8 b, v, u, z] w fun e w' => e = .returned (.bool true) ∧ Below w.heap.size w w' := by
  obtain ⟨rfl, hs⟩ := h
  have h1 := u16_in' ha
  have h2 := u8_in' hb
  obtain ⟨m, rfl⟩ := Int.eq_ofNat_of_zero_le h1.1
  obtain ⟨n, rfl⟩ := Int.eq_ofNat_of_zero_le h2.1
  exact finds_walk m n (by omega) (by omega) v L hL s hs z M hM hV
end Go.Proofs.YtiloclekhddkfabDoor
