/- octet.TakeFixed, as wip/Ythfikoghbnicoaa has it. -/
import Derived.Test.YtiloclekhddkfabDoorInts
import Derived.Test.YtiloclekhddkfabDoorOctQ
import Derived.Test.YtiloclekhddkfabDoorOctB
import Derived.BigQuiet
import Derived.Deep.QuietTactic
import Derived.Deep.RegionWith
import Derived.Outline
namespace Go.Proofs.YtiloclekhddkfabDoor.Oct
open Go.RowKit

def Hid (p : Prop) : Prop := p
theorem Hid.out {p : Prop} (h : Hid p) : p := h
theorem ret_bool {a b : Bool} (h : a = b) : Ending.returned (.bool a) = .returned (.bool b) := by rw [h]
theorem within_yes (a : Option Addr) (len cap : Nat) (i : Int) (w : World) (h0 : 0 ≤ i) (h1 : i ≤ len) :
    Calls Tryd.prog 44 #[.slice a len cap, .int .i64 i] w fun e w' => e = .returned (.bool true) ∧ w = w' := by
  go_enter Tryd.func44, Tryd.ntmps44
  go_wp2
  go_ret
  exact ⟨by simp, rfl⟩

theorem within_no (a : Option Addr) (len cap : Nat) (i : Int) (w : World) (h : i < 0 ∨ (len : Int) < i) :
    Calls Tryd.prog 44 #[.slice a len cap, .int .i64 i] w fun e w' => e = .returned (.bool false) ∧ w = w' := by
  by_cases h0 : 0 ≤ i
  · go_enter Tryd.func44, Tryd.ntmps44
    go_wp2
    go_ret
    exact ⟨ret_bool (by simp; omega), rfl⟩
  · go_enter Tryd.func44, Tryd.ntmps44
    go_wp2
    go_ret
    exact ⟨rfl, rfl⟩

theorem width_yes (n : Int) (w : World) (h0 : 1 ≤ n) (h1 : n ≤ 8) : Calls Tryd.prog 43 #[.int .i64 n] w fun e w' => e = .returned (.bool true) ∧ w = w' := by
  go_enter Tryd.func43, Tryd.ntmps43
  go_wp2
  go_ret
  exact ⟨by simp, rfl⟩

theorem width_no (n : Int) (w : World) (h : n < 1 ∨ 8 < n) : Calls Tryd.prog 43 #[.int .i64 n] w fun e w' => e = .returned (.bool false) ∧ w = w' := by
  by_cases h0 : 1 ≤ n
  · go_enter Tryd.func43, Tryd.ntmps43
    go_wp2
    go_ret
    exact ⟨ret_bool (by simp; omega), rfl⟩
  · go_enter Tryd.func43, Tryd.ntmps43
    go_wp2
    go_ret
    exact ⟨rfl, rfl⟩



set_option maxHeartbeats 1000000 in
set_option maxRecDepth 1000000 in
theorem tf_arg (a : Option Addr) (L cap : Nat) (i W : Int) (w : World) (h : W < 1 ∨ 8 < W ∨ i < 0 ∨ (L : Int) < i) :
    Calls Tryd.prog 42 #[.slice a L cap, .int .i64 i, .int .i64 W] w fun e w' => e = .returned (.tuple #[.int .i64 0, .int .i64 0, .int .i64 2]) ∧ w = w' := by
  by_cases hW : W < 1 ∨ 8 < W
  · go_enter Tryd.func42, Tryd.ntmps42
    go_wp2_with (go_at_call 43; refine (width_no _ _ hW).mono ?_; rintro e w' ⟨rfl, rfl⟩)
    go_ret3
    exact ⟨rfl, rfl⟩
  · have hi : i < 0 ∨ (L : Int) < i := by omega
    have w1 : 1 ≤ W := by omega
    have w8 : W ≤ 8 := by omega
    clear h hW
    go_enter Tryd.func42, Tryd.ntmps42
    go_wp2_with (first | (go_at_call 43; refine (width_yes _ _ w1 w8).mono ?_; rintro e w' ⟨rfl, rfl⟩) | (go_at_call 44; refine (within_no _ _ _ _ _ hi).mono ?_; rintro e w' ⟨rfl, rfl⟩))
    go_ret3
    exact ⟨rfl, rfl⟩

set_option maxHeartbeats 1000000 in
set_option maxRecDepth 1000000 in
theorem tf_short (a : Option Addr) (L cap : Nat) (i W : Int) (w : World) (_hL : L ≤ maxLen) (w1 : 1 ≤ W) (w8 : W ≤ 8) (h0 : 0 ≤ i) (hi : i ≤ L) (h : (L : Int) - i < W) :
    Calls Tryd.prog 42 #[.slice a L cap, .int .i64 i, .int .i64 W] w fun e w' => e = .returned (.tuple #[.int .i64 0, .int .i64 0, .int .i64 3]) ∧ w = w' := by
  unfold maxLen at _hL
  go_enter Tryd.func42, Tryd.ntmps42
  go_wp2_with (first | (go_at_call 43; refine (width_yes _ _ w1 w8).mono ?_; rintro e w' ⟨rfl, rfl⟩) | (go_at_call 44; refine (within_yes _ _ _ _ _ h0 hi).mono ?_; rintro e w' ⟨rfl, rfl⟩))
  go_ret3
  exact ⟨rfl, rfl⟩

theorem u64_join8 (m : Nat) (x : Int) (hm : m < 72057594037927936) (h0 : 0 ≤ x) (h1 : x < 256) : bits .or .u64 ((m : Int) * 256) x = ((m * 256 + x.toNat : Nat) : Int) := by
  obtain ⟨X, rfl⟩ := Int.eq_ofNat_of_zero_le h0
  have e1 : (m : Int) * 256 = ((m * 256 : Nat) : Int) := by simp
  rw [e1, u64_or_nat _ _ (by omega) (by omega), nat_join 8 _ _ (by omega) (by omega)]
  simp

theorem valB_lt (bs : List Int) (k i : Nat) (hb : ∀ x ∈ bs, 0 ≤ x ∧ x < 256) : valB 0 ((bs.drop i).take k) < 256 ^ k := by
  have h := valB_bound ((bs.drop i).take k) (fun x hx => hb x (List.mem_of_mem_drop (List.mem_of_mem_take hx))) 0
  refine Nat.lt_of_lt_of_le h ?_
  rw [Nat.one_mul]
  exact Nat.pow_le_pow_right (by decide) (by simp; omega)

theorem valB_step (bs : List Int) (i k : Nat) (h : i + k < bs.length) : valB 0 ((bs.drop i).take (k + 1)) = valB 0 ((bs.drop i).take k) * 256 + (bs.getD (i + k) 0).toNat := by
  rw [take_snoc (bs.drop i) k (by simp; omega), valB_snoc]
  simp [List.getD_eq_getElem?_getD, List.getElem?_drop]

theorem getD_byte (bs : List Int) (k : Nat) (h : k < bs.length) (hb : ∀ x ∈ bs, 0 ≤ x ∧ x < 256) : 0 ≤ bs.getD k 0 ∧ bs.getD k 0 < 256 := by
  apply hb
  rw [List.getD_eq_getElem?_getD, List.getElem?_eq_getElem h]
  exact List.getElem_mem _

set_option maxHeartbeats 1000000 in
set_option maxRecDepth 1000000 in
theorem tf_run (b off L cap i W : Nat) (bs : List Int) (w : World) (hL : bs.length = L) (hl : L ≤ cap) (hm : cap ≤ maxLen) (w1 : 1 ≤ W) (w8 : W ≤ 8) (hi : i + W ≤ L) (hby : ∀ x ∈ bs, 0 ≤ x ∧ x < 256)
    (hc : ∀ i, i < L → w.cell? ⟨b, off + i, none⟩ = some (.int .u8 (bs.getD i 0))) (V : Nat) (HV : Hid (V = valB 0 ((bs.drop i).take W))) :
    Calls Tryd.prog 42 #[.slice (some ⟨b, off, none⟩) L cap, .int .i64 i, .int .i64 W] w fun e w' => (e = if 9007199254740991 < V then .returned (.tuple #[.int .i64 0, .int .i64 0, .int .i64 6]) else .returned (.tuple #[.int .i64 V, .int .i64 (i + W), .int .i64 0])) ∧ w = w' := by
  unfold maxLen at hm
  have g1 : (1 : Int) ≤ W := by omega
  have g2 : (W : Int) ≤ 8 := by omega
  have g3 : (0 : Int) ≤ i := by omega
  have g4 : (i : Int) ≤ L := by omega
  have g5 : ¬ (L : Int) - i < W := by omega
  obtain ⟨E, HE⟩ : ∃ E : Ending, Hid (E = if 9007199254740991 < V then .returned (.tuple #[.int .i64 0, .int .i64 0, .int .i64 6]) else .returned (.tuple #[.int .i64 V, .int .i64 (i + W), .int .i64 0])) := ⟨_, rfl⟩
  rw [← HE.out]
  go_enter Tryd.func42, Tryd.ntmps42
  go_wp2_with (first | (go_at_call 43; refine (width_yes _ _ g1 g2).mono ?_; rintro e w' ⟨rfl, rfl⟩) | (go_at_call 44; refine (within_yes _ _ _ _ _ g3 g4).mono ?_; rintro e w' ⟨rfl, rfl⟩))
  go_loop [10, 37] (fun n j => ∃ k m : Nat, k ≤ W ∧ m < 18446744073709551616 ∧ j = .int .i64 k ∧ n = .int .u64 m ∧ Hid (m = valB 0 ((bs.drop i).take k))) (fun _ j => W - (intOf j).toNat)
  case atStart => exact ⟨0, 0, Nat.zero_le _, by omega, rfl, rfl, (by simp [valB] : 0 = valB 0 ((bs.drop i).take 0))⟩
  case round =>
    obtain ⟨k, m, hk, hm64, rfl, rfl, HM⟩ := hrel
    by_cases hlt : k < W
    · obtain ⟨x, HX⟩ : ∃ x, Hid (x = bs.getD (i + k) 0) := ⟨_, rfl⟩
      have hc' : w.cell? ⟨b, off + i + k, none⟩ = some (.int .u8 x) := by have := hc (i + k) (by omega); rw [HX.out, Nat.add_assoc]; exact this
      have hx := getD_byte bs (i + k) (by omega) hby
      rw [← HX.out] at hx
      obtain ⟨hx0, hx1⟩ := hx
      have hmb : m < 72057594037927936 := by
        have := valB_lt bs k i hby
        have hp : 256 ^ k ≤ 256 ^ 7 := Nat.pow_le_pow_right (by decide) (by omega)
        rw [← HM.out] at this
        omega
      have HJ : Hid (bits .or .u64 ((m : Int) * 256) x = ((m * 256 + x.toNat : Nat) : Int)) := u64_join8 m x hmb hx0 hx1
      clear hc
      go_wp2
      go_round
      case rel =>
        refine ⟨k + 1, m * 256 + x.toNat, by omega, by omega, by go_num, by rw [HJ.out], ?_⟩
        show m * 256 + x.toNat = _
        rw [valB_step bs i k (by omega), ← HM.out, ← HX.out]
      case measure => simp [intOf]; omega
    · have : k = W := by omega
      subst this
      have hmV : m = V := by rw [HM.out, HV.out]
      subst hmV
      clear HM HV
      by_cases hbig : 9007199254740991 < m
      · have hb' : (9007199254740991 : Int) < m := by omega
        have HEE : Hid (E = .returned (.tuple #[.int .i64 0, .int .i64 0, .int .i64 6])) := by have := HE.out; rw [if_pos hbig] at this; exact this
        clear HE
        go_wp2
        go_ret3
        exact ⟨HEE.out.symm, rfl⟩
      · have hb' : ¬ (9007199254740991 : Int) < m := by omega
        have HEE : Hid (E = .returned (.tuple #[.int .i64 m, .int .i64 (i + k), .int .i64 0])) := by have := HE.out; rw [if_neg hbig] at this; exact this
        clear HE
        go_wp2
        go_ret3
        exact ⟨HEE.out.symm, rfl⟩

/-- TakeFixed, at every slice, place and width. -/
theorem takeFixed_any (v : Value) (bs : List Int) (i W : Int) (w : World) (hv : Bs w v bs) (hby : ∀ x ∈ bs, 0 ≤ x ∧ x < 256) :
    Calls Tryd.prog 42 #[v, .int .i64 i, .int .i64 W] w fun e w' => e = .returned (.tuple #[.int .i64 (tkFix bs i W).1, .int .i64 (tkFix bs i W).2.1, .int .i64 (tkFix bs i W).2.2]) ∧ w = w' := by
  unfold tkFix
  by_cases h : W < 1 ∨ 8 < W ∨ i < 0 ∨ (bs.length : Int) < i
  · rw [if_pos h]
    obtain ⟨a, cap, rfl, _⟩ := hv
    exact tf_arg a bs.length cap i W w h
  · rw [if_neg h]
    by_cases h2 : (bs.length : Int) - i < W
    · rw [if_pos h2]
      have hlen := hv.len
      obtain ⟨a, cap, rfl, _⟩ := hv
      exact tf_short a bs.length cap i W w hlen (by omega) (by omega) (by omega) (by omega) h2
    · rw [if_neg h2]
      obtain ⟨I, rfl⟩ := Int.eq_ofNat_of_zero_le (show 0 ≤ i by omega)
      obtain ⟨K, rfl⟩ := Int.eq_ofNat_of_zero_le (show 0 ≤ W by omega)
      rcases hv.cases with ⟨rfl, _⟩ | ⟨hb, b, off, cap, rfl, hl, hm, _, hc⟩
      · simp at h h2; omega
      · refine (tf_run b off bs.length cap I K bs w rfl hl hm (by omega) (by omega) (by omega) hby hc _ rfl).mono ?_
        rintro e w' ⟨rfl, rfl⟩
        simp only [Int.toNat_natCast]
        refine ⟨?_, trivial⟩
        by_cases hbig : 9007199254740991 < valB 0 ((bs.drop I).take K)
        · rw [if_pos hbig, if_pos hbig]
        · rw [if_neg hbig, if_neg hbig]
end Go.Proofs.YtiloclekhddkfabDoor.Oct
