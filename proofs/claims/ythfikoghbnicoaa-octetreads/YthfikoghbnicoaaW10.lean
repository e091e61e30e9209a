/- Contract of the document's TakeFixed. -/
import Derived.Test.YthfikoghbnicoaaW9
namespace Go.Proofs.Ythfikoghbnicoaa
open Go.RowKit

set_option maxHeartbeats 1000000 in
set_option maxRecDepth 1000000 in
theorem rtf_arg (a : Option Addr) (L cap : Nat) (i W : Int) (w : World) (h : W < 1 ∨ 8 < W ∨ i < 0 ∨ (L : Int) < i) :
    Calls Try.prog 17 #[.slice a L cap, .int .i64 i, .int .i64 W] w fun e w' => e = .returned (.tuple #[.int .i64 0, .int .i64 0, .int .i64 2]) ∧ w = w' := by
  by_cases h1 : W < 1
  · go_enter Try.func17, Try.ntmps17
    go_wp2
    go_ret3
    exact ⟨rfl, rfl⟩
  · by_cases h2 : 8 < W
    · go_enter Try.func17, Try.ntmps17
      go_wp2
      go_ret3
      exact ⟨rfl, rfl⟩
    · by_cases h3 : i < 0
      · clear h
        go_enter Try.func17, Try.ntmps17
        go_wp2
        go_ret3
        exact ⟨rfl, rfl⟩
      · have h4 : (L : Int) < i := by omega
        clear h
        go_enter Try.func17, Try.ntmps17
        go_wp2
        go_ret3
        exact ⟨rfl, rfl⟩

set_option maxHeartbeats 1000000 in
set_option maxRecDepth 1000000 in
theorem rtf_short (a : Option Addr) (L cap : Nat) (i W : Int) (w : World) (_hL : L ≤ maxLen) (_w1 : 1 ≤ W) (_w8 : W ≤ 8) (_h0 : 0 ≤ i) (_hi : i ≤ L) (h : (L : Int) - i < W) :
    Calls Try.prog 17 #[.slice a L cap, .int .i64 i, .int .i64 W] w fun e w' => e = .returned (.tuple #[.int .i64 0, .int .i64 0, .int .i64 3]) ∧ w = w' := by
  unfold maxLen at _hL
  have a1 : ¬ W < 1 := by omega
  have a2 : ¬ 8 < W := by omega
  have a3 : ¬ i < 0 := by omega
  have a4 : ¬ (L : Int) < i := by omega
  have a5 : (L : Int) - W < i := by omega
  go_enter Try.func17, Try.ntmps17
  go_wp2
  go_ret3
  exact ⟨rfl, rfl⟩

set_option maxHeartbeats 1000000 in
set_option maxRecDepth 1000000 in
theorem rtf_run (b off L cap i W : Nat) (bs : List Int) (w : World) (hL : bs.length = L) (_hm : L ≤ maxLen) (w1 : 1 ≤ W) (w8 : W ≤ 8) (hi : i + W ≤ L) (hby : ∀ x ∈ bs, 0 ≤ x ∧ x < 256)
    (hc : ∀ i, i < L → w.cell? ⟨b, off + i, none⟩ = some (.int .u8 (bs.getD i 0))) (V : Nat) (HV : Hid (V = valB 0 ((bs.drop i).take W))) :
    Calls Try.prog 17 #[.slice (some ⟨b, off, none⟩) L cap, .int .i64 i, .int .i64 W] w fun e w' => (e = if 9007199254740991 < V then .returned (.tuple #[.int .i64 0, .int .i64 0, .int .i64 6]) else .returned (.tuple #[.int .i64 V, .int .i64 (i + W), .int .i64 0])) ∧ w = w' := by
  unfold maxLen at _hm
  have a1 : ¬ (W : Int) < 1 := by omega
  have a2 : ¬ 8 < (W : Int) := by omega
  have a3 : ¬ (i : Int) < 0 := by omega
  have a4 : ¬ (L : Int) < i := by omega
  have a5 : ¬ (L : Int) - W < i := by omega
  obtain ⟨E, HE⟩ : ∃ E : Ending, Hid (E = if 9007199254740991 < V then .returned (.tuple #[.int .i64 0, .int .i64 0, .int .i64 6]) else .returned (.tuple #[.int .i64 V, .int .i64 (i + W), .int .i64 0])) := ⟨_, rfl⟩
  rw [← HE.out]
  go_enter Try.func17, Try.ntmps17
  go_wp2
  go_loop [9, 10] (fun n j => ∃ k m : Nat, k ≤ W ∧ m ≤ 9007199254740991 ∧ j = .int .i64 k ∧ n = .int .i64 m ∧ Hid (m = valB 0 ((bs.drop i).take k))) (fun _ j => W - (intOf j).toNat)
  case atStart => exact ⟨0, 0, Nat.zero_le _, by omega, rfl, rfl, (by simp [valB] : 0 = valB 0 ((bs.drop i).take 0))⟩
  case round =>
    obtain ⟨k, m, hk, hm53, rfl, rfl, HM⟩ := hrel
    by_cases hlt : k < W
    · obtain ⟨x, HX⟩ : ∃ x, Hid (x = bs.getD (i + k) 0) := ⟨_, rfl⟩
      have hc' : w.cell? ⟨b, off + (i + k), none⟩ = some (.int .u8 x) := by have := hc (i + k) (by omega); rw [HX.out]; exact this
      have hx := getD_byte bs (i + k) (by omega) hby
      rw [← HX.out] at hx
      obtain ⟨hx0, hx1⟩ := hx
      by_cases hbig : 35184372088831 < m
      · have hb' : (35184372088831 : Int) < m := by omega
        have hV : 9007199254740991 < V := by
          have e1 : (bs.drop i).take W = (bs.drop i).take k ++ ((bs.drop i).drop k).take (W - k) := by
            rw [← List.take_add]; congr 1; omega
          have e2 : ∀ (l r : List Int) (n : Nat), valB n (l ++ r) = valB (valB n l) r := by
            intro l; induction l with
            | nil => intro r n; rfl
            | cons y l ih => intro r n; simp only [List.cons_append, valB]; exact ih _ _
          rw [HV.out, e1, e2, ← HM.out]
          have h1 := valB_mono (((bs.drop i).drop k).take (W - k)) m
          have hln : (((bs.drop i).drop k).take (W - k)).length = W - k := by simp; omega
          rw [hln] at h1
          have h2 : 256 ^ 1 ≤ 256 ^ (W - k) := Nat.pow_le_pow_right (by decide) (by omega)
          have h3 : m * 256 ^ 1 ≤ m * 256 ^ (W - k) := Nat.mul_le_mul_left _ h2
          omega
        have HEE : Hid (E = .returned (.tuple #[.int .i64 0, .int .i64 0, .int .i64 6])) := by have := HE.out; rw [if_pos hV] at this; exact this
        clear HE hc hV
        go_wp2
        go_ret3
        exact ⟨HEE.out.symm, rfl⟩
      · have hb' : ¬ (35184372088831 : Int) < m := by omega
        clear hc
        go_wp2
        go_round
        case rel =>
          refine ⟨k + 1, m * 256 + x.toNat, by omega, by omega, by go_num, by go_num, ?_⟩
          show m * 256 + x.toNat = _
          rw [valB_step bs i k (by omega), ← HM.out, ← HX.out]
        case measure => simp [intOf]; omega
    · have : k = W := by omega
      subst this
      have hmV : m = V := by rw [HM.out, HV.out]
      subst hmV
      clear HM HV
      have HEE : Hid (E = .returned (.tuple #[.int .i64 m, .int .i64 (i + k), .int .i64 0])) := by have := HE.out; rw [if_neg (by omega)] at this; exact this
      clear HE
      go_wp2
      go_ret3
      exact ⟨HEE.out.symm, rfl⟩

/-- The document's TakeFixed, at every slice, place and width. -/
theorem rtakeFixed_any (v : Value) (bs : List Int) (i W : Int) (w : World) (hv : Bs w v bs) (hby : ∀ x ∈ bs, 0 ≤ x ∧ x < 256) :
    Calls Try.prog 17 #[v, .int .i64 i, .int .i64 W] w fun e w' => e = .returned (.tuple #[.int .i64 (tkFix bs i W).1, .int .i64 (tkFix bs i W).2.1, .int .i64 (tkFix bs i W).2.2]) ∧ w = w' := by
  unfold tkFix
  have hlen := hv.len
  by_cases h : W < 1 ∨ 8 < W ∨ i < 0 ∨ (bs.length : Int) < i
  · rw [if_pos h]
    obtain ⟨a, cap, rfl, _⟩ := hv
    exact rtf_arg a bs.length cap i W w h
  · rw [if_neg h]
    by_cases h2 : (bs.length : Int) - i < W
    · rw [if_pos h2]
      obtain ⟨a, cap, rfl, _⟩ := hv
      exact rtf_short a bs.length cap i W w hlen (by omega) (by omega) (by omega) (by omega) h2
    · rw [if_neg h2]
      obtain ⟨I, rfl⟩ := Int.eq_ofNat_of_zero_le (show 0 ≤ i by omega)
      obtain ⟨K, rfl⟩ := Int.eq_ofNat_of_zero_le (show 0 ≤ W by omega)
      rcases hv.cases with ⟨rfl, _⟩ | ⟨hb, b, off, cap, rfl, hl, hm, _, hc⟩
      · simp at h h2; omega
      · refine (rtf_run b off bs.length cap I K bs w rfl hlen (by omega) (by omega) (by omega) hby hc _ rfl).mono ?_
        rintro e w' ⟨rfl, rfl⟩
        simp only [Int.toNat_natCast]
        refine ⟨?_, trivial⟩
        by_cases hbig : 9007199254740991 < valB 0 ((bs.drop I).take K)
        · rw [if_pos hbig, if_pos hbig]
        · rw [if_neg hbig, if_neg hbig]
end Go.Proofs.Ythfikoghbnicoaa
