/- Contracts of octet.Fixed and of the document's. -/
import Derived.Test.YthfikoghbnicoaaW3
namespace Go.Proofs.Ythfikoghbnicoaa
open Go.RowKit

theorem width_yes (n : Int) (w : World) (h0 : 1 ≤ n) (h1 : n ≤ 8) : Calls Try.prog 34 #[.int .i64 n] w fun e w' => e = .returned (.bool true) ∧ w = w' := by
  go_enter Try.func34, Try.ntmps34
  go_wp2
  go_ret
  exact ⟨by simp, rfl⟩

theorem width_no (n : Int) (w : World) (h : n < 1 ∨ 8 < n) : Calls Try.prog 34 #[.int .i64 n] w fun e w' => e = .returned (.bool false) ∧ w = w' := by
  by_cases h0 : 1 ≤ n
  · go_enter Try.func34, Try.ntmps34
    go_wp2
    go_ret
    exact ⟨ret_bool (by simp; omega), rfl⟩
  · go_enter Try.func34, Try.ntmps34
    go_wp2
    go_ret
    exact ⟨rfl, rfl⟩

theorem pow8 (i : Nat) : (2 : Nat) ^ (8 * i) = 256 ^ i := by rw [Nat.pow_mul]

theorem shr8 (n i : Nat) : (n : Int) / 2 ^ (8 * i) = ((n / 256 ^ i : Nat) : Int) := by rw [← pow8]; simp

theorem fixed_arg (n W : Int) (w : World) (h : W < 1 ∨ 8 < W) :
    Calls Try.prog 14 #[.int .i64 n, .int .i64 W] w fun e w' => e = .returned (.tuple #[.slice none 0 0, .int .i64 2]) ∧ w = w' := by
  go_enter Try.func14, Try.ntmps14
  go_wp2_with (go_at_call 34; refine (width_no _ _ h).mono ?_; rintro e w' ⟨rfl, rfl⟩)
  go_ret2
  exact ⟨rfl, rfl⟩

theorem fixed_lim (n W : Int) (w : World) (h : n < 0 ∨ 9007199254740991 < n) (hW : 1 ≤ W) (hW8 : W ≤ 8) :
    Calls Try.prog 14 #[.int .i64 n, .int .i64 W] w fun e w' => e = .returned (.tuple #[.slice none 0 0, .int .i64 6]) ∧ w = w' := by
  rcases h with h | h
  · go_enter Try.func14, Try.ntmps14
    go_wp2_with (go_at_call 34; refine (width_yes _ _ (by omega) (by omega)).mono ?_; rintro e w' ⟨rfl, rfl⟩)
    go_ret2
    exact ⟨rfl, rfl⟩
  · have h' : ¬ n < 0 := by omega
    go_enter Try.func14, Try.ntmps14
    go_wp2_with (go_at_call 34; refine (width_yes _ _ (by omega) (by omega)).mono ?_; rintro e w' ⟨rfl, rfl⟩)
    go_ret2
    exact ⟨rfl, rfl⟩

theorem fixed_wide (n W : Nat) (w : World) (h : n ≤ 9007199254740991) (hW : 1 ≤ W) (hW8 : W ≤ 8) (hn : n / 256 ^ W ≠ 0) :
    Calls Try.prog 14 #[.int .i64 n, .int .i64 W] w fun e w' => e = .returned (.tuple #[.slice none 0 0, .int .i64 6]) ∧ w = w' := by
  have h0 : ¬ (n : Int) < 0 := by omega
  have h1 : ¬ 9007199254740991 < (n : Int) := by omega
  have hs : ((n : Int) / 2 ^ (8 * W) != 0) = true := by rw [shr8, bne_iff_ne]; exact fun q => hn (by exact_mod_cast q)
  go_enter Try.func14, Try.ntmps14
  go_wp2_with (go_at_call 34; refine (width_yes _ _ (by omega) (by omega)).mono ?_; rintro e w' ⟨rfl, rfl⟩)
  go_ret2
  exact ⟨rfl, rfl⟩

set_option maxHeartbeats 1000000 in
set_option maxRecDepth 1000000 in
theorem fixed_good (n W : Nat) (w : World) (h : n ≤ 9007199254740991) (hW : 1 ≤ W) (hW8 : W ≤ 8) (hn : n / 256 ^ W = 0) :
    Calls Try.prog 14 #[.int .i64 n, .int .i64 W] w fun e w' => ∃ v, e = .returned (.tuple #[v, .int .i64 0]) ∧ OwnB w' w.heap.size 5 v (fixB n W) ∧ Below w.heap.size w w' := by
  have h0 : ¬ (n : Int) < 0 := by omega
  have h1 : ¬ 9007199254740991 < (n : Int) := by omega
  have hs : ((n : Int) / 2 ^ (8 * W) != 0) = false := by rw [shr8, hn]; simp
  clear hn
  go_enter Try.func14, Try.ntmps14
  go_wp2_with (first
    | (go_at_call 34; refine (width_yes _ _ (by omega) (by omega)).mono ?_; rintro e w' ⟨rfl, rfl⟩)
    | (at_make; refine wp_makeB Try.bt rfl _ _ rfl W rfl rfl rfl rfl (by omega) (Nat.le_refl _) ?_; intro w1 hown hnx))
  go_loopw [27] (fun i wr => ∃ k : Nat, k ≤ W ∧ i = .int .i64 k ∧ OwnB wr w.heap.size 5 (.slice (some ⟨w.heap.size, 0, none⟩) W W) (List.replicate (W - k) 0 ++ fixB n k) ∧ Below w.heap.size w wr) (fun i _ => W - (intOf i).toNat)
  case atStart => exact ⟨0, Nat.zero_le _, rfl, by simpa [fixB] using hown, hnx⟩
  case round =>
    clear hown hnx
    obtain ⟨k, hk, rfl, hown, hnx⟩ := hrel
    by_cases hlt : k < W
    · have hcell := hown.cellAt (W - 1 - k) (by simp [fixB_length]; omega)
      have hfz := hown.frozenAt (W - 1 - k)
      go_wp2
      go_roundw
      case rel =>
        obtain ⟨g1, g2⟩ := hown.stored (Nat.le_refl _) (W - 1 - k) ((n : Int) / 2 ^ (8 * k) % 256)
        refine ⟨k + 1, by omega, by go_num, ?_, hnx.trans g2⟩
        rw [← fix_step n W k hlt]
        have e : ((n / 256 ^ k % 256 : Nat) : Int) = (n : Int) / 2 ^ (8 * k) % 256 := by rw [shr8]; simp
        rw [e]; exact g1
      case measure => simp [intOf]; omega
    · have : k = W := by omega
      subst this
      go_wp2
      go_ret2
      exact ⟨_, rfl, by simpa using hown, hnx⟩
end Go.Proofs.Ythfikoghbnicoaa
