/- math/bits.TrailingZeros64; the program's on and what it tells. -/
import Derived.Shelf.Spec.TrailingZeros
import Derived.Test.YtiloclekhddkfabDoorP1
namespace Go.Proofs.YtiloclekhddkfabDoor
open Go.RowKit Go.Shelf Go.Sort
/-- The table behind the door. -/
abbrev Vars (w : World) : Prop := TabAt 0 Lib.deBruijn64tab w
theorem vars_far {w w' : World} {X : List Nat} (h : Vars w) (hc : Chg X w w') (hx : 0 ∉ X) : Vars w' := fun j hj =>
  (hc.cell (a := ⟨0, j, none⟩) (World.block_lt_of_cell? _ _ (h j hj)) hx).trans (h j hj)
theorem vars_pos {w : World} (h : Vars w) : 0 < w.heap.size := World.block_lt_of_cell? _ _ (h 0 (by decide))
section
variable {w : World}
set_option maxHeartbeats 2000000 in
set_option maxRecDepth 100000 in
theorem tz_core (m k idx : Nat) (hx0 : ((m : Int) == 0) = false)
    (key : IntKind.u64.wrap (bits BinOp.and IntKind.u64 (m : Int) (IntKind.u64.wrap (-(m : Int))) * 285870213051353865) / 288230376151711744 = (idx : Int))
    (hi : idx < 64) (hk : k < 64) (hcell : w.cell? ⟨0, idx, none⟩ = some (.int .u8 k)) : Calls Tryd.prog 41 #[.int .u64 (m : Int)] w fun e w' => e = .returned (.int .i64 (k : Int)) ∧ w = w' := by
  go_enter Tryd.func41, Tryd.ntmps41
  go_wp2_with (simp only [key])
  go_ret
  exact ⟨rfl, rfl⟩
theorem tz_any (m : Nat) (hm : m < 18446744073709551616) (h0 : m ≠ 0) (hT : Vars w) : Calls Tryd.prog 41 #[.int .u64 (m : Int)] w fun e w' => e = .returned (.int .i64 (Lib.ctz 64 m : Int)) ∧ w = w' := by
  obtain ⟨hlow, hk⟩ := Lib.lowest_bit 64 m h0 hm
  obtain ⟨hi, htab⟩ := Lib.deBruijn64_at _ hk
  have hcell := hT _ hi
  rw [htab] at hcell
  exact tz_core m _ _ (by simp; omega) (tz64_key m _ hm h0 hlow) hi hk hcell
theorem on_any (p : Nat) : Calls Tryd.prog 35 #[.pointer (some ⟨p, 0, none⟩)] w fun e w' => e = .returned (.func (.func 40) #[] #[.pointer (some ⟨w.heap.size, 0, none⟩)]) ∧ w' = w.alloc (.cells #[.pointer (some ⟨p, 0, none⟩)] 23) := by
  go_enter Tryd.func35, Tryd.ntmps35
  go_wp2_with fail
  go_ret
  exact ⟨rfl, rfl⟩
end
end Go.Proofs.YtiloclekhddkfabDoor
