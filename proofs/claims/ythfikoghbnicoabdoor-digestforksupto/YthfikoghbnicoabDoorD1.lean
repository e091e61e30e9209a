/- Words of 32 bits: turned, shifted; contracts of the small functions of digest and of the document's. -/
import Derived.Test.YthfikoghbnicoabDoorRows
import Derived.Test.YthfikoghbnicoabDoorBase
import Derived.Deep.RegionHeld3
import Derived.Deep.DrawnRows
import Derived.Deep.MidRow
import Derived.Outline
namespace Go.Proofs.YthfikoghbnicoabDoor
open Go.RowKit
attribute [local go_sem ↓] Go.wp_at_zero Go.wp_at_succ

theorem Tryd.bt : ByteT Tryd.prog 22 5 := ⟨Tryd.underlying22, Tryd.underlying5, by kernel_rfl⟩

/-- x turned right by n. -/
def rr (x : Int) (n : Nat) : Int := bits .or .u32 (x / 2 ^ n) (IntKind.u32.wrap (x * 2 ^ (32 - n)))
/-- x turned right by i, xor by j, xor by k. -/
def tur (x : Int) (i j k : Nat) : Int := bits .xor .u32 (bits .xor .u32 (rr x i) (rr x j)) (rr x k)
/-- x turned right by i, xor by j, xor x shifted by k. -/
def shi (x : Int) (i j k : Nat) : Int := bits .xor .u32 (bits .xor .u32 (rr x i) (rr x j)) (x / 2 ^ k)

theorem neg_and : ∀ i : Nat, 1 ≤ i → i ≤ 31 → bits .and .u64 (IntKind.u64.wrap (-(i : Int))) 31 = ((32 - i : Nat) : Int) := by
  intro i h1 h2
  have : ∀ i : Fin 32, 1 ≤ i.val → bits .and .u64 (IntKind.u64.wrap (-((i.val : Nat) : Int))) 31 = ((32 - i.val : Nat) : Int) := by decide
  exact this ⟨i, by omega⟩ h1

theorem or_comm' (a b : Int) : bits .or .u32 a b = bits .or .u32 b a := by simp only [bits, BitVec.or_comm]

theorem rot_k (x k : Int) (s : Nat) (w : World) (hs : bits .and .u64 (IntKind.u64.wrap k) 31 = (s : Int)) (hs1 : 1 ≤ s) (hs2 : s ≤ 31) :
    Calls Tryd.prog 29 #[.int .u32 x, .int .i64 k] w fun e w' => e = .returned (.int .u32 (bits .or .u32 (IntKind.u32.wrap (x * 2 ^ s)) (x / 2 ^ (32 - s)))) ∧ w = w' := by
  go_enter Tryd.func29, Tryd.ntmps29
  go_wp2
  go_ret
  exact ⟨rfl, rfl⟩

theorem rot_any (x : Int) (i : Nat) (w : World) (h1 : 1 ≤ i) (h2 : i ≤ 31) : Calls Tryd.prog 29 #[.int .u32 x, .int .i64 (-(i : Int))] w fun e w' => e = .returned (.int .u32 (rr x i)) ∧ w = w' := by
  refine (rot_k x _ (32 - i) w (neg_and i h1 h2) (by omega) (by omega)).mono ?_
  rintro e w' ⟨rfl, rfl⟩
  refine ⟨?_, rfl⟩
  have e1 : 32 - (32 - i) = i := by omega
  rw [or_comm', e1]
  rfl

theorem right_any (x : Int) (n : Nat) (w : World) (hs1 : 1 ≤ n) (hs2 : n ≤ 31) : Calls Tryd.prog 22 #[.int .u32 x, .int .u32 n] w fun e w' => e = .returned (.int .u32 (rr x n)) ∧ w = w' := by
  unfold rr
  go_enter Tryd.func22, Tryd.ntmps22
  go_wp2
  go_ret
  exact ⟨rfl, rfl⟩

set_option maxHeartbeats 1000000 in
theorem turned_any (x : Int) (i j k : Nat) (w : World) (i1 : 1 ≤ i) (i2 : i ≤ 31) (j1 : 1 ≤ j) (j2 : j ≤ 31) (k1 : 1 ≤ k) (k2 : k ≤ 31) :
    Calls Tryd.prog 26 #[.int .u32 x, .int .i64 i, .int .i64 j, .int .i64 k] w fun e w' => e = .returned (.int .u32 (tur x i j k)) ∧ w = w' := by
  unfold tur
  go_enter Tryd.func26, Tryd.ntmps26
  go_wp2_with fail
  refine (rot_any x i w i1 i2).mono ?_
  rintro e w' ⟨rfl, rfl⟩
  go_wp2_with fail
  refine (rot_any x j w j1 j2).mono ?_
  rintro e w' ⟨rfl, rfl⟩
  go_wp2_with fail
  refine (rot_any x k w k1 k2).mono ?_
  rintro e w' ⟨rfl, rfl⟩
  go_wp2
  go_ret
  exact ⟨rfl, rfl⟩

set_option maxHeartbeats 1000000 in
theorem shifted_any (x : Int) (i j k : Nat) (w : World) (i1 : 1 ≤ i) (i2 : i ≤ 31) (j1 : 1 ≤ j) (j2 : j ≤ 31) (k1 : 1 ≤ k) (k2 : k ≤ 31) :
    Calls Tryd.prog 28 #[.int .u32 x, .int .i64 i, .int .i64 j, .int .i64 k] w fun e w' => e = .returned (.int .u32 (shi x i j k)) ∧ w.drew = w' := by
  unfold shi
  go_enter Tryd.func28, Tryd.ntmps28
  go_wp2
  refine wp_region_any (by kernel_rfl) ?_
  change wpAny _ _ _ _ _ _ _ (World.drew _)
  refine wpAny_take (i := 0) (v := .int .u32 x) rfl (by kernel_rfl) (by kernel_rfl) (by kernel_rfl) (fun _ _ _ h => h) (Or.inl ⟨by kernel_rfl, fun _ => by kernel_rfl⟩) ?_
  refine wpAny_take (i := 1) (v := .int .i64 i) rfl (by kernel_rfl) (by kernel_rfl) (by kernel_rfl) (fun _ _ _ h => h) (Or.inl ⟨by kernel_rfl, fun _ => by kernel_rfl⟩) ?_
  refine wpAny_take (i := 2) (v := .int .i64 (-(i : Int))) rfl (by kernel_rfl) (by kernel_rfl) (by kernel_rfl) (fun _ _ _ h => h) (Or.inl ⟨by kernel_rfl, fun wx => by go_simp; rw [IntKind.wrap_i64]; omega⟩) ?_
  refine wpAny_take (i := 4) (v := .int .u32 x) rfl (by kernel_rfl) (by kernel_rfl) (by kernel_rfl) (fun _ _ _ h => h) (Or.inl ⟨by kernel_rfl, fun _ => by kernel_rfl⟩) ?_
  refine wpAny_take (i := 5) (v := .int .i64 j) rfl (by kernel_rfl) (by kernel_rfl) (by kernel_rfl) (fun _ _ _ h => h) (Or.inl ⟨by kernel_rfl, fun _ => by kernel_rfl⟩) ?_
  refine wpAny_take (i := 6) (v := .int .i64 (-(j : Int))) rfl (by kernel_rfl) (by kernel_rfl) (by kernel_rfl) (fun _ _ _ h => h) (Or.inl ⟨by kernel_rfl, fun wx => by go_simp; rw [IntKind.wrap_i64]; omega⟩) ?_
  refine wpAny_take (i := 9) (v := .int .u32 x) rfl (by kernel_rfl) (by kernel_rfl) (by kernel_rfl) (fun _ _ _ h => h) (Or.inl ⟨by kernel_rfl, fun _ => by kernel_rfl⟩) ?_
  refine wpAny_take (i := 10) (v := .int .i64 k) rfl (by kernel_rfl) (by kernel_rfl) (by kernel_rfl) (fun _ _ _ h => h) (Or.inl ⟨by kernel_rfl, fun _ => by kernel_rfl⟩) ?_
  refine wpAny_take (i := 11) (v := .int .u32 (x / 2 ^ k)) rfl (by kernel_rfl) (by kernel_rfl) (by kernel_rfl) (fun _ _ _ h => h) (Or.inl ⟨by kernel_rfl, fun wx => by go_simp⟩) ?_
  refine wpAny_ready (rs := [3]) (by kernel_rfl) (by simp) (AllReady.cons rfl (fun K hK => ?_) AllReady.nil)
  go_simp
  go_wp2_with (go_at_call 29; refine (rot_any x i _ i1 i2).mono ?_; rintro e w' ⟨rfl, rfl⟩)
  refine wpAny_ready (rs := [7]) (by kernel_rfl) (by simp) (AllReady.cons rfl (fun K hK => ?_) AllReady.nil)
  go_simp
  go_wp2_with (go_at_call 29; refine (rot_any x j _ j1 j2).mono ?_; rintro e w' ⟨rfl, rfl⟩)
  refine wpAny_take (i := 8) (v := .int .u32 (bits .xor .u32 (rr x i) (rr x j))) rfl (by kernel_rfl) (by kernel_rfl) (by kernel_rfl) (fun _ _ _ h => h) (Or.inl ⟨by kernel_rfl, fun wx => by go_simp⟩) ?_
  refine wpAny_take (i := 12) (v := .int .u32 (bits .xor .u32 (bits .xor .u32 (rr x i) (rr x j)) (x / 2 ^ k))) rfl (by kernel_rfl) (by kernel_rfl) (by kernel_rfl) (fun _ _ _ h => h) (Or.inl ⟨by kernel_rfl, fun wx => by go_simp⟩) ?_
  refine wpAny_take (i := 13) (v := .int .u32 (bits .xor .u32 (bits .xor .u32 (rr x i) (rr x j)) (x / 2 ^ k))) rfl (by kernel_rfl) (by kernel_rfl) (by kernel_rfl) (fun _ _ _ h => h) (Or.inl ⟨by kernel_rfl, fun _ => by kernel_rfl⟩) ?_
  refine wpAny_done (by kernel_rfl) ?_ _
  go_wp2
  go_ret
  exact ⟨by kernel_rfl, rfl⟩
end Go.Proofs.YthfikoghbnicoabDoor
