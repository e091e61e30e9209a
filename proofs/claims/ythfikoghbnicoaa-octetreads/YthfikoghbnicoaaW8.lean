/- Contracts of the document's Fixed, and of both TakeFixed. -/
import Derived.Test.YthfikoghbnicoaaW7
import Derived.Test.YthfikoghbnicoaaPure3
namespace Go.Proofs.Ythfikoghbnicoaa
open Go.RowKit

theorem rfixed_arg (n W : Int) (w : World) (h : W < 1 ∨ 8 < W) :
    Calls Try.prog 15 #[.int .i64 n, .int .i64 W] w fun e w' => e = .returned (.tuple #[.slice none 0 0, .int .i64 2]) ∧ w = w' := by
  rcases h with h | h
  · go_enter Try.func15, Try.ntmps15
    go_wp2
    go_ret2
    exact ⟨rfl, rfl⟩
  · have h' : ¬ W < 1 := by omega
    go_enter Try.func15, Try.ntmps15
    go_wp2
    go_ret2
    exact ⟨rfl, rfl⟩

theorem rfixed_lim (n W : Int) (w : World) (h : n < 0 ∨ 9007199254740991 < n) (hW : 1 ≤ W) (hW8 : W ≤ 8) :
    Calls Try.prog 15 #[.int .i64 n, .int .i64 W] w fun e w' => e = .returned (.tuple #[.slice none 0 0, .int .i64 6]) ∧ w = w' := by
  have a1 : ¬ W < 1 := by omega
  have a2 : ¬ 8 < W := by omega
  rcases h with h | h
  · go_enter Try.func15, Try.ntmps15
    go_wp2
    go_ret2
    exact ⟨rfl, rfl⟩
  · have h' : ¬ n < 0 := by omega
    go_enter Try.func15, Try.ntmps15
    go_wp2
    go_ret2
    exact ⟨rfl, rfl⟩

set_option maxHeartbeats 1000000 in
set_option maxRecDepth 1000000 in
theorem rfixed_run (n W : Nat) (w : World) (h : n ≤ 9007199254740991) (hW : 1 ≤ W) (hW8 : W ≤ 8) :
    Calls Try.prog 15 #[.int .i64 n, .int .i64 W] w fun e w' => Below w.heap.size w w' ∧ ((n / 256 ^ W = 0 ∧ ∃ v, e = .returned (.tuple #[v, .int .i64 0]) ∧ OwnB w' w.heap.size 5 v (fixB n W)) ∨ (n / 256 ^ W ≠ 0 ∧ e = .returned (.tuple #[.slice none 0 0, .int .i64 6]))) := by
  have h0 : ¬ (n : Int) < 0 := by omega
  have h1 : ¬ 9007199254740991 < (n : Int) := by omega
  have a1 : ¬ (W : Int) < 1 := by omega
  have a2 : ¬ 8 < (W : Int) := by omega
  go_enter Try.func15, Try.ntmps15
  go_wp2
  go_loopw [0, 6, 7] (fun x v i wr => ∃ k m : Nat, k ≤ W ∧ i = .int .i64 k ∧ m ≤ n ∧ Hid (m = n / 256 ^ k) ∧ x = .int .i64 m ∧ OwnB wr w.heap.size 5 v (fixB n k) ∧ Below w.heap.size w wr) (fun _ _ i _ => W - (intOf i).toNat)
  case atStart => exact ⟨0, n, Nat.zero_le _, rfl, Nat.le_refl _, (by simp : n = n / 256 ^ 0), rfl, own_lit w 5 w.heap.size [] #[] rfl (Nat.le_refl _) (Nat.zero_le _), (Below.refl _ _).alloc (Nat.le_refl _) _⟩
  case round =>
    obtain ⟨k, m, hk, rfl, hmn, HM, rfl, hown, hnx⟩ := hrel
    have hsz := hnx.size
    by_cases hlt : k < W
    · have ho := own_lit wr 5 w.heap.size [(m : Int) % 256] #[.int .u8 ((m : Int) % 256)] rfl hsz (by simp [maxLen])
      have HF : Hid ((fixB n k).length = k) := fixB_length n k
      go_wp2_with (at_builtin; refine wp_appS Try.bt rfl (.tmp 29) (.tmp 30) rfl rfl ho rfl (hown.alloc _).bs (by rw [HF.out]; simp; omega) (by simp; omega) ?_)
      intro v' w1 hown' hb
      go_wp2
      go_roundw
      case rel =>
        refine ⟨k + 1, m / 256, by omega, by go_num, by omega, ?_, by go_num, ?_, hnx.trans (((Below.refl _ wr).alloc hsz _).trans hb)⟩
        · show m / 256 = n / 256 ^ (k + 1); rw [HM.out, Nat.pow_succ, Nat.div_div_eq_div_mul]
        · have e : fixB n (k + 1) = [(m : Int) % 256] ++ fixB n k := by rw [HM.out]; simp [fixB]
          rw [e]; exact hown'
      case measure => simp [intOf]; omega
    · have : k = W := by omega
      subst this
      by_cases hz : m = 0
      · subst hz
        go_wp2
        go_ret2
        exact ⟨hnx, .inl ⟨HM.out.symm, _, rfl, hown⟩⟩
      · have hp : (0 : Int) < m := by omega
        go_wp2
        go_ret2
        exact ⟨hnx, .inr ⟨by rw [← HM.out]; exact hz, rfl⟩⟩

/-- Both Fixed, at every number and width. -/
theorem fixed_any (n W : Int) : ∃ (bs : List Int) (r : Int), (∀ w, Calls Try.prog 14 #[.int .i64 n, .int .i64 W] w fun e w' => ∃ v, e = .returned (.tuple #[v, .int .i64 r]) ∧ OwnB w' w.heap.size 5 v bs ∧ Below w.heap.size w w') ∧
    (∀ w, Calls Try.prog 15 #[.int .i64 n, .int .i64 W] w fun e w' => ∃ v, e = .returned (.tuple #[v, .int .i64 r]) ∧ OwnB w' w.heap.size 5 v bs ∧ Below w.heap.size w w') ∧
    ((r ≠ 0 ∧ bs = []) ∨ (r = 0 ∧ ∃ m k : Nat, n = m ∧ W = k ∧ m ≤ 9007199254740991 ∧ 1 ≤ k ∧ k ≤ 8 ∧ m / 256 ^ k = 0 ∧ bs = fixB m k)) := by
  by_cases hW : W < 1 ∨ 8 < W
  · refine ⟨[], 2, fun w => (fixed_arg n W w hW).mono ?_, fun w => (rfixed_arg n W w hW).mono ?_, .inl ⟨by decide, rfl⟩⟩
    all_goals
      rintro e w' ⟨rfl, rfl⟩
      exact ⟨_, rfl, OwnB.nil _ _ _, Below.refl _ _⟩
  · by_cases h : n < 0 ∨ 9007199254740991 < n
    · refine ⟨[], 6, fun w => (fixed_lim n W w h (by omega) (by omega)).mono ?_, fun w => (rfixed_lim n W w h (by omega) (by omega)).mono ?_, .inl ⟨by decide, rfl⟩⟩
      all_goals
        rintro e w' ⟨rfl, rfl⟩
        exact ⟨_, rfl, OwnB.nil _ _ _, Below.refl _ _⟩
    · obtain ⟨m, rfl⟩ := Int.eq_ofNat_of_zero_le (show 0 ≤ n by omega)
      obtain ⟨k, rfl⟩ := Int.eq_ofNat_of_zero_le (show 0 ≤ W by omega)
      by_cases hz : m / 256 ^ k = 0
      · refine ⟨fixB m k, 0, fun w => fixed_good m k w (by omega) (by omega) (by omega) hz, fun w => (rfixed_run m k w (by omega) (by omega) (by omega)).mono ?_, .inr ⟨rfl, m, k, rfl, rfl, by omega, by omega, by omega, hz, rfl⟩⟩
        rintro e w' ⟨hb, ⟨_, v, rfl, hown⟩ | ⟨hn, _⟩⟩
        · exact ⟨v, rfl, hown, hb⟩
        · exact absurd hz hn
      · refine ⟨[], 6, fun w => (fixed_wide m k w (by omega) (by omega) (by omega) hz).mono ?_, fun w => (rfixed_run m k w (by omega) (by omega) (by omega)).mono ?_, .inl ⟨by decide, rfl⟩⟩
        · rintro e w' ⟨rfl, rfl⟩
          exact ⟨_, rfl, OwnB.nil _ _ _, Below.refl _ _⟩
        · rintro e w' ⟨hb, ⟨hn, _⟩ | ⟨_, rfl⟩⟩
          · exact absurd hn hz
          · exact ⟨_, rfl, OwnB.nil _ _ _, hb⟩
end Go.Proofs.Ythfikoghbnicoaa
