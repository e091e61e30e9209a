/- octet.Num, TakeNum, as wip/Ythfikoghbnicoaa has it. -/
import Derived.Test.YtkkcdmdkjedkjaaInts
import Derived.Test.YtkkcdmdkjedkjaaOctQ
import Derived.Test.YtkkcdmdkjedkjaaOctB
import Derived.BigQuiet
import Derived.Deep.QuietTactic
import Derived.Deep.RegionWith
import Derived.Outline
namespace Go.Proofs.Ytkkcdmdkjedkjaa.Oct
open Go.RowKit



def Hid (p : Prop) : Prop := p
theorem Hid.out {p : Prop} (h : Hid p) : p := h
theorem ret_bool {a b : Bool} (h : a = b) : Ending.returned (.bool a) = .returned (.bool b) := by rw [h]

theorem Try.bt : ByteT Try.prog 72 5 := ⟨Try.underlying72, Try.underlying5, by kernel_rfl⟩




theorem num_bad (n : Int) (w : World) (h : n < 0 ∨ 9007199254740991 < n) :
    Calls Try.prog 54 #[.int .i64 n] w fun e w' => e = .returned (.tuple #[.slice none 0 0, .int .i64 6]) ∧ w = w' := by
  rcases h with h | h
  · go_enter Try.func54, Try.ntmps54
    go_wp2
    go_ret2
    exact ⟨rfl, rfl⟩
  · have h' : ¬ n < 0 := by omega
    go_enter Try.func54, Try.ntmps54
    go_wp2
    go_ret2
    exact ⟨rfl, rfl⟩

theorem num_step {n m : Nat} {pre : List Int} (h : numB n = pre ++ numB m) (hlt : ¬ m < 128) : numB n = pre ++ [(m : Int) % 128 + 128] ++ numB (m / 128) := by
  rw [h, numB_big m hlt]; simp

set_option maxHeartbeats 1000000 in
set_option maxRecDepth 1000000 in
theorem num_good (n : Nat) (w : World) (h : n ≤ 9007199254740991) :
    Calls Try.prog 54 #[.int .i64 n] w fun e w' => ∃ v, e = .returned (.tuple #[v, .int .i64 0]) ∧ OwnB w' w.heap.size 5 v (numB n) ∧ Below w.heap.size w w' := by
  have h0 : ¬ (n : Int) < 0 := by omega
  have h1 : ¬ 9007199254740991 < (n : Int) := by omega
  go_enter Try.func54, Try.ntmps54
  go_wp2
  go_loopw [0, 4] (fun x v wr => ∃ (m : Nat) (pre : List Int), m ≤ n ∧ x = .int .i64 m ∧ numB n = pre ++ numB m ∧ OwnB wr w.heap.size 5 v pre ∧ Below w.heap.size w wr)
    (fun x _ _ => (intOf x).toNat)
  case atStart => exact ⟨n, [], Nat.le_refl _, rfl, rfl, OwnB.nil _ _ _, Below.refl _ _⟩
  case round =>
    obtain ⟨m, pre, hm, rfl, heq, hown, hnx⟩ := hrel
    have hpl : pre.length < 8 := by
      have h8 := numB_len8 n h
      have hp := numB_pos m
      rw [heq, List.length_append] at h8; omega
    have HE : Hid (numB n = pre ++ numB m) := heq
    clear heq
    have hsz := hnx.size
    by_cases hlt : m < 128
    · go_wp2_with (first
        | (at_builtin; refine wp_app1 Try.bt rfl _ _ rfl rfl hown rfl (by omega) (by omega) ?_)
        | go_in)
      intro v' w1 hown' hb
      go_wp2
      go_ret2
      refine ⟨_, rfl, ?_, hnx.trans hb⟩
      rw [HE.out, numB_small m hlt]; exact hown'
    · go_wp2_with (first
        | (at_builtin; refine wp_app1 Try.bt rfl _ _ rfl rfl hown rfl (by omega) (by omega) ?_)
        | go_in)
      intro v' w1 hown' hb
      go_wp2
      go_roundw
      case rel => exact ⟨m / 128, _, by omega, by go_num, num_step HE.out hlt, hown', hnx.trans hb⟩
      case measure => simp [intOf]; omega





theorem ret3 {k l p : IntKind} {a b c x y z : Int} (h1 : a = x) (h2 : b = y) (h3 : c = z) : Ending.returned (.tuple #[.int k a, .int l b, .int p c]) = .returned (.tuple #[.int k x, .int l y, .int p z]) := by rw [h1, h2, h3]









theorem join_mul (j m : Nat) (y : Int) (hj : j ≤ 7) (hm : m < 128 ^ j) (h0 : 0 ≤ y) (h1 : y < 128) : wrap64 ((m : Int) + wrap64 (((128 ^ j : Nat) : Int) * y)) = ((m + y.toNat * 128 ^ j : Nat) : Int) := by
  obtain ⟨Y, rfl⟩ := Int.eq_ofNat_of_zero_le h0
  have hp := pow_le7 j hj
  have hb : Y * 128 ^ j ≤ 127 * 562949953421312 := Nat.mul_le_mul (by omega) hp
  have e1 : ((128 ^ j : Nat) : Int) * (Y : Int) = ((Y * 128 ^ j : Nat) : Int) := by rw [Nat.mul_comm Y]; simp
  rw [e1, IntWalk.wrap64_in (n := ((Y * 128 ^ j : Nat) : Int)) ⟨by omega, by omega⟩, IntWalk.wrap64_in _ ⟨by omega, by omega⟩]
  simp




end Go.Proofs.Ytkkcdmdkjedkjaa.Oct
