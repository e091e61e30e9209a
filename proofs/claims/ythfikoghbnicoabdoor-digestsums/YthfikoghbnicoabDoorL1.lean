/- The walk of DigestCrcs. -/
import Derived.Test.YthfikoghbnicoabDoorD14
namespace Go.Proofs.YthfikoghbnicoabDoor
open Go.RowKit

theorem il_toNat (bs : List Int) (h : ∀ x ∈ bs, 0 ≤ x ∧ x < 256) : il (bs.map Int.toNat) = bs ∧ ∀ x ∈ bs.map Int.toNat, x < 256 := by
  refine ⟨?_, ?_⟩
  · unfold il
    rw [List.map_map]
    conv => rhs; rw [← List.map_id bs]
    refine List.map_congr_left fun x hx => ?_
    have := h x hx
    show Int.ofNat x.toNat = x
    simp only [Int.ofNat_eq_natCast]
    omega
  · intro x hx
    obtain ⟨y, hy, rfl⟩ := List.mem_map.1 hx
    have := h y hy
    omega

set_option maxHeartbeats 400000 in
theorem crcs_core (sum m1 m2 : Nat) (v : Value) (w : World) (hL : Calls Tryd.prog 9 #[] w fun e w' => e = .returned (.bool true) ∧ Below w.heap.size w w')
    (h16 : ∀ w1, Below w.heap.size w w1 → Calls Tryd.prog 16 #[.int .u32 sum, v] w1 fun e w' => e = .returned (.int .u32 m1) ∧ w1 = w')
    (h17 : ∀ w1, Below w.heap.size w w1 → Calls Tryd.prog 17 #[.int .u32 sum, v] w1 fun e w' => e = .returned (.int .u32 m1) ∧ w1 = w')
    (h18 : ∀ w1, Below w.heap.size w w1 → Calls Tryd.prog 18 #[v] w1 fun e w' => e = .returned (.int .u32 m2) ∧ w1 = w')
    (h17z : ∀ w1, Below w.heap.size w w1 → Calls Tryd.prog 17 #[.int .u32 0, v] w1 fun e w' => e = .returned (.int .u32 m2) ∧ w1 = w') :
    Calls Tryd.prog 5 #[.int .u32 sum, v] w fun e w' => e = .returned (.bool true) ∧ Below w.heap.size w w' := by
  go_enter Tryd.func5, Tryd.ntmps5
  go_wp2_with (first
    | (go_at_call 9; refine hL.mono ?_; rintro e w1 ⟨rfl, hb1⟩)
    | (go_at_call 16; refine (h16 w1 hb1).mono ?_; rintro e w2 ⟨rfl, rfl⟩))
  refine (h17 w1 hb1).mono ?_
  rintro e w2 ⟨rfl, rfl⟩
  go_wp2_with (go_at_call 18; refine (h18 w1 hb1).mono ?_; rintro e w2 ⟨rfl, rfl⟩)
  refine (h17z w1 hb1).mono ?_
  rintro e w2 ⟨rfl, rfl⟩
  go_wp2
  go_ret
  exact ⟨rfl, hb1⟩

theorem walk_crcs (sum : Nat) (v : Value) (p : List Nat) (w : World) (hV : Vars w) (hs : sum < 4294967296) (hv : Bs w v (il p)) (hby : ∀ x ∈ p, x < 256) :
    Calls Tryd.prog 5 #[.int .u32 sum, v] w fun e w' => e = .returned (.bool true) ∧ Below w.heap.size w w' :=
  crcs_core sum (refM sum p) (refM 0 p) v w (live_any w hV)
    (fun w1 hb => by rw [← crcM_ref]; exact more_any sum nibT p v w1 (hv.below hb) hs nibT_lt (hV.below hb).nibs hby)
    (fun w1 hb => refmore_any sum p v w1 (hv.below hb) hs hby)
    (fun w1 hb => by rw [← crcM_ref]; exact crc_any nibT p v w1 (hv.below hb) nibT_lt (hV.below hb).nibs hby)
    (fun w1 hb => refmore_any 0 p v w1 (hv.below hb) (by decide) hby)
end Go.Proofs.YthfikoghbnicoabDoor
