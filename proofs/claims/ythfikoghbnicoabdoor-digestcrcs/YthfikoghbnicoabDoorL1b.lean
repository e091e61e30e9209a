/- The walk of DigestCrcs, at what came in. -/
import Derived.Test.YthfikoghbnicoabDoorL1
import Derived.OpenShut
namespace Go.Proofs.YthfikoghbnicoabDoor
open Go.RowKit Go.ChangeShapes
theorem walk_digestCrcs (a : Int) (v : Value) (bs : List Int) (w : World) (hV : Vars w) (ha : (Lit.int .u32 a).wf = true) (hv : Bs w v bs) (hby : ∀ x ∈ bs, 0 ≤ x ∧ x < 256) (_hl : bs.length ≤ 140737488351232) :
    Calls Tryd.prog 5 #[.int .u32 a, v] w fun e w' => e = .returned (.bool true) ∧ Below w.heap.size w w' := by
  obtain ⟨h0, h1⟩ := bounds_u32 ha
  obtain ⟨A, rfl⟩ := Int.eq_ofNat_of_zero_le h0
  obtain ⟨e, hb⟩ := il_toNat bs hby
  exact walk_crcs A v (bs.map Int.toNat) w hV (by omega) (by rw [e]; exact hv) hb
end Go.Proofs.YthfikoghbnicoabDoor
