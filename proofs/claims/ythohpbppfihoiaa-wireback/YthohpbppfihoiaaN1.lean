/- Names that are right: the program's and the document's Name; small questions. -/
import Derived.Test.YthohpbppfihoiaaInts
namespace Go.Proofs.Ythohpbppfihoiaa
open Go.RowKit
def okC (c : UInt8) : Bool := decide (33 ≤ (c.toNat : Int) ∧ (c.toNat : Int) ≤ 126)
/-- Is a name right? -/
def nmB (s : ByteArray) : Bool := decide (1 ≤ s.size ∧ s.size ≤ 32) && s.data.toList.all okC
theorem take_snoc (s : ByteArray) (k : Nat) (h : k < s.size) : s.data.toList.take (k + 1) = s.data.toList.take k ++ [s[k]] := by
  rw [List.take_succ_eq_append_getElem (by simpa using h)]; rfl
theorem all_snoc (s : ByteArray) (k : Nat) (h : k < s.size) (ha : (s.data.toList.take k).all okC = true) : (s.data.toList.take (k + 1)).all okC = okC s[k] := by
  rw [take_snoc s k h, List.all_append, ha]; simp
theorem all_bad (s : ByteArray) (k : Nat) (h : k < s.size) (hb : okC s[k] = false) : s.data.toList.all okC = false := by
  rw [List.all_eq_false]
  refine ⟨s[k], ?_, by simp [hb]⟩
  exact List.getElem_mem (l := s.data.toList) (n := k) (by simpa using h)
theorem nm_len {s : ByteArray} (h : s.size < 1 ∨ 32 < s.size) : nmB s = false := by
  unfold nmB
  rw [decide_eq_false (by omega)]; rfl
theorem nm_bad {s : ByteArray} {k : Nat} (h : k < s.size) (hb : okC s[k] = false) : nmB s = false := by
  unfold nmB
  rw [all_bad s k h hb, Bool.and_false]
theorem nm_ok {s : ByteArray} {k : Nat} (h1 : 1 ≤ s.size) (h2 : s.size ≤ 32) (hk : s.size ≤ k) (ha : (s.data.toList.take k).all okC = true) : nmB s = true := by
  unfold nmB
  rw [decide_eq_true ⟨h1, h2⟩, Bool.true_and]
  rw [List.take_of_length_le (by simpa using hk)] at ha
  exact ha
theorem ret_bool {a b : Bool} (h : a = b) : Ending.returned (.bool a) = .returned (.bool b) := by rw [h]
theorem okC_yes {c : UInt8} (h1 : ¬ (c.toNat : Int) < 33) (h2 : ¬ 126 < (c.toNat : Int)) : okC c = true := by unfold okC; exact decide_eq_true ⟨by omega, by omega⟩
theorem okC_no {c : UInt8} (h : (c.toNat : Int) < 33 ∨ 126 < (c.toNat : Int)) : okC c = false := by unfold okC; exact decide_eq_false (by omega)
section
variable {w : World}
set_option maxHeartbeats 1000000 in
theorem name_any (s : ByteArray) : Calls Try.prog 53 #[.string s] w fun e w' => e = .returned (.bool (nmB s)) ∧ w = w' := by
  by_cases h1 : (s.size : Int) < 1
  · go_enter Try.func53, Try.ntmps53
    go_wp2
    go_ret
    exact ⟨ret_bool (nm_len (by omega)).symm, rfl⟩
  by_cases h2 : (32 : Int) < (s.size : Int)
  · go_enter Try.func53, Try.ntmps53
    go_wp2
    go_ret
    exact ⟨ret_bool (nm_len (by omega)).symm, rfl⟩
  go_enter Try.func53, Try.ntmps53
  go_wp2
  go_loop [14] (fun i => ∃ k : Nat, k ≤ s.size ∧ i = .int .i64 (k : Int) ∧ (s.data.toList.take k).all okC = true) (fun i => s.size - (intOf i).toNat)
  case atStart => exact ⟨0, Nat.zero_le _, rfl, rfl⟩
  case round =>
    obtain ⟨k, hk, rfl, ha⟩ := hrel
    have HA : Hid ((s.data.toList.take k).all okC = true) := ⟨ha⟩
    clear ha
    by_cases hlt : k < s.size
    · by_cases q1 : (s[k].toNat : Int) < 33
      · go_wp2
        go_ret
        exact ⟨ret_bool (nm_bad hlt (okC_no (.inl q1))).symm, rfl⟩
      · by_cases q2 : 126 < (s[k].toNat : Int)
        · go_wp2
          go_ret
          exact ⟨ret_bool (nm_bad hlt (okC_no (.inr q2))).symm, rfl⟩
        · go_wp2
          go_round
          case rel => exact ⟨k + 1, by omega, by go_num, by rw [all_snoc s k hlt HA.out]; exact okC_yes q1 q2⟩
          case measure => simp [intOf]; omega
    · go_wp2
      go_ret
      exact ⟨ret_bool (nm_ok (by omega) (by omega) (by omega) HA.out).symm, rfl⟩
set_option maxHeartbeats 1000000 in
theorem rname_any (s : ByteArray) : Calls Try.prog 40 #[.string s] w fun e w' => e = .returned (.bool (nmB s)) ∧ w = w' := by
  by_cases h1 : (s.size : Int) < 1
  · go_enter Try.func40, Try.ntmps40
    go_wp2
    go_ret
    exact ⟨ret_bool (nm_len (by omega)).symm, rfl⟩
  by_cases h2 : (32 : Int) < (s.size : Int)
  · go_enter Try.func40, Try.ntmps40
    go_wp2
    go_ret
    exact ⟨ret_bool (nm_len (by omega)).symm, rfl⟩
  go_enter Try.func40, Try.ntmps40
  go_wp2
  go_loop [3] (fun i => ∃ k : Nat, k ≤ s.size ∧ i = .int .i64 (k : Int) ∧ (s.data.toList.take k).all okC = true) (fun i => s.size - (intOf i).toNat)
  case atStart => exact ⟨0, Nat.zero_le _, rfl, rfl⟩
  case round =>
    obtain ⟨k, hk, rfl, ha⟩ := hrel
    have HA : Hid ((s.data.toList.take k).all okC = true) := ⟨ha⟩
    clear ha
    by_cases hlt : k < s.size
    · by_cases q1 : (s[k].toNat : Int) < 33
      · go_wp2
        go_ret
        exact ⟨ret_bool (nm_bad hlt (okC_no (.inl q1))).symm, rfl⟩
      · by_cases q2 : 126 < (s[k].toNat : Int)
        · go_wp2
          go_ret
          exact ⟨ret_bool (nm_bad hlt (okC_no (.inr q2))).symm, rfl⟩
        · go_wp2
          go_round
          case rel => exact ⟨k + 1, by omega, by go_num, by rw [all_snoc s k hlt HA.out]; exact okC_yes q1 q2⟩
          case measure => simp [intOf]; omega
    · go_wp2
      go_ret
      exact ⟨ret_bool (nm_ok (by omega) (by omega) (by omega) HA.out).symm, rfl⟩
end
end Go.Proofs.Ythohpbppfihoiaa
