/- Contracts of octet.within, octet.Num. -/
import Derived.Test.YthfikoghbnicoaaRows
import Derived.Test.YthfikoghbnicoaaPure
import Derived.Test.YthfikoghbnicoaaBase
import Derived.Outline
namespace Go.Proofs.Ythfikoghbnicoaa
open Go.RowKit

theorem Try.bt : ByteT Try.prog 22 5 := ⟨Try.underlying22, Try.underlying5, by kernel_rfl⟩

theorem ret_bool {a b : Bool} (h : a = b) : Ending.returned (.bool a) = .returned (.bool b) := by rw [h]

theorem within_yes (a : Option Addr) (len cap : Nat) (i : Int) (w : World) (h0 : 0 ≤ i) (h1 : i ≤ len) :
    Calls Try.prog 33 #[.slice a len cap, .int .i64 i] w fun e w' => e = .returned (.bool true) ∧ w = w' := by
  go_enter Try.func33, Try.ntmps33
  go_wp2
  go_ret
  exact ⟨by simp, rfl⟩

theorem within_no (a : Option Addr) (len cap : Nat) (i : Int) (w : World) (h : i < 0 ∨ (len : Int) < i) :
    Calls Try.prog 33 #[.slice a len cap, .int .i64 i] w fun e w' => e = .returned (.bool false) ∧ w = w' := by
  by_cases h0 : 0 ≤ i
  · go_enter Try.func33, Try.ntmps33
    go_wp2
    go_ret
    exact ⟨ret_bool (by simp; omega), rfl⟩
  · go_enter Try.func33, Try.ntmps33
    go_wp2
    go_ret
    exact ⟨rfl, rfl⟩

theorem num_bad (n : Int) (w : World) (h : n < 0 ∨ 9007199254740991 < n) :
    Calls Try.prog 9 #[.int .i64 n] w fun e w' => e = .returned (.tuple #[.slice none 0 0, .int .i64 6]) ∧ w = w' := by
  rcases h with h | h
  · go_enter Try.func9, Try.ntmps9
    go_wp2
    go_ret2
    exact ⟨rfl, rfl⟩
  · have h' : ¬ n < 0 := by omega
    go_enter Try.func9, Try.ntmps9
    go_wp2
    go_ret2
    exact ⟨rfl, rfl⟩

theorem num_step {n m : Nat} {pre : List Int} (h : numB n = pre ++ numB m) (hlt : ¬ m < 128) : numB n = pre ++ [(m : Int) % 128 + 128] ++ numB (m / 128) := by
  rw [h, numB_big m hlt]; simp

set_option maxHeartbeats 1000000 in
set_option maxRecDepth 1000000 in
theorem num_good (n : Nat) (w : World) (h : n ≤ 9007199254740991) :
    Calls Try.prog 9 #[.int .i64 n] w fun e w' => ∃ v, e = .returned (.tuple #[v, .int .i64 0]) ∧ OwnB w' w.heap.size 5 v (numB n) ∧ Below w.heap.size w w' := by
  have h0 : ¬ (n : Int) < 0 := by omega
  have h1 : ¬ 9007199254740991 < (n : Int) := by omega
  go_enter Try.func9, Try.ntmps9
  go_wp2
  go_loopw [0, 4] (fun x v wr => ∃ (m : Nat) (pre : List Int), m ≤ n ∧ x = .int .i64 m ∧ numB n = pre ++ numB m ∧ OwnB wr w.heap.size 5 v pre ∧ Below w.heap.size w wr)
    (fun x _ _ => (intOf x).toNat)
  case atStart => exact ⟨n, [], Nat.le_refl _, rfl, rfl, OwnB.nil _ _ _, Below.refl _ _⟩
  case round =>
    obtain ⟨m, pre, hm, rfl, heq, hown, hnx⟩ := hrel
    have hpl : pre.length < 8 := by
      have h8 := numB_len8 n h
      have hp := numB_pos m
      rw [heq, List.length_append] at h8; omega
    have HE : Hid (numB n = pre ++ numB m) := heq
    clear heq
    have hsz := hnx.size
    by_cases hlt : m < 128
    · go_wp2_with (first
        | (at_builtin; refine wp_app1 Try.bt rfl _ _ rfl rfl hown rfl (by omega) (by omega) ?_)
        | go_in)
      intro v' w1 hown' hb
      go_wp2
      go_ret2
      refine ⟨_, rfl, ?_, hnx.trans hb⟩
      rw [HE.out, numB_small m hlt]; exact hown'
    · go_wp2_with (first
        | (at_builtin; refine wp_app1 Try.bt rfl _ _ rfl rfl hown rfl (by omega) (by omega) ?_)
        | go_in)
      intro v' w1 hown' hb
      go_wp2
      go_roundw
      case rel => exact ⟨m / 128, _, by omega, by go_num, num_step HE.out hlt, hown', hnx.trans hb⟩
      case measure => simp [intOf]; omega

theorem rnum_bad (n : Int) (w : World) (h : n < 0 ∨ 9007199254740991 < n) :
    Calls Try.prog 10 #[.int .i64 n] w fun e w' => e = .returned (.tuple #[.slice none 0 0, .int .i64 6]) ∧ w = w' := by
  rcases h with h | h
  · go_enter Try.func10, Try.ntmps10
    go_wp2
    go_ret2
    exact ⟨rfl, rfl⟩
  · have h' : ¬ n < 0 := by omega
    go_enter Try.func10, Try.ntmps10
    go_wp2
    go_ret2
    exact ⟨rfl, rfl⟩

set_option maxHeartbeats 1000000 in
set_option maxRecDepth 1000000 in
theorem rnum_good (n : Nat) (w : World) (h : n ≤ 9007199254740991) :
    Calls Try.prog 10 #[.int .i64 n] w fun e w' => ∃ v, e = .returned (.tuple #[v, .int .i64 0]) ∧ OwnB w' w.heap.size 5 v (numB n) ∧ Below w.heap.size w w' := by
  have h0 : ¬ (n : Int) < 0 := by omega
  have h1 : ¬ 9007199254740991 < (n : Int) := by omega
  go_enter Try.func10, Try.ntmps10
  go_wp2
  go_loopw [0, 4] (fun x v wr => ∃ (m : Nat) (pre : List Int), m ≤ n ∧ x = .int .i64 m ∧ numB n = pre ++ numB m ∧ OwnB wr w.heap.size 5 v pre ∧ Below w.heap.size w wr)
    (fun x _ _ => (intOf x).toNat)
  case atStart => exact ⟨n, [], Nat.le_refl _, rfl, rfl, own_lit w 5 w.heap.size [] #[] rfl (Nat.le_refl _) (Nat.zero_le _), (Below.refl _ _).alloc (Nat.le_refl _) _⟩
  case round =>
    obtain ⟨m, pre, hm, rfl, heq, hown, hnx⟩ := hrel
    have hpl : pre.length < 8 := by
      have h8 := numB_len8 n h
      have hp := numB_pos m
      rw [heq, List.length_append] at h8; omega
    have HE : Hid (numB n = pre ++ numB m) := heq
    clear heq
    have hsz := hnx.size
    by_cases hlt : m < 128
    · have hz : ((m : Int) / 128 == 0) = true := by simp; omega
      go_wp2_with (first
        | (at_builtin; refine wp_app1 Try.bt rfl _ _ rfl rfl hown rfl (by omega) (by omega) ?_)
        | go_in)
      intro v' w1 hown' hb
      go_wp2
      go_ret2
      refine ⟨_, rfl, ?_, hnx.trans hb⟩
      rw [HE.out, numB_small m hlt]
      have e : (m : Int) % 128 = m := by omega
      rw [e] at hown'
      exact hown'
    · have hz : ((m : Int) / 128 == 0) = false := by simp; omega
      go_wp2_with (first
        | (at_builtin; refine wp_app1 Try.bt rfl _ _ rfl rfl hown rfl (by omega) (by omega) ?_)
        | go_in)
      intro v' w1 hown' hb
      go_wp2
      go_roundw
      case rel => exact ⟨m / 128, _, by omega, by go_num, num_step HE.out hlt, hown', hnx.trans hb⟩
      case measure => simp [intOf]; omega
end Go.Proofs.Ythfikoghbnicoaa
