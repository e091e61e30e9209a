/- octet.Num, TakeNum, as wip/Ythfikoghbnicoaa has it. -/
import Derived.Test.YthohpbppfihoiaaInts
import Derived.Test.YthohpbppfihoiaaOctQ
import Derived.Test.YthohpbppfihoiaaOctB
import Derived.BigQuiet
import Derived.Deep.QuietTactic
import Derived.Deep.RegionWith
import Derived.Outline
namespace Go.Proofs.Ythohpbppfihoiaa.Oct
open Go.RowKit



def Hid (p : Prop) : Prop := p
theorem Hid.out {p : Prop} (h : Hid p) : p := h
theorem ret_bool {a b : Bool} (h : a = b) : Ending.returned (.bool a) = .returned (.bool b) := by rw [h]
theorem within_yes (a : Option Addr) (len cap : Nat) (i : Int) (w : World) (h0 : 0 ≤ i) (h1 : i ≤ len) :
    Calls Try.prog 57 #[.slice a len cap, .int .i64 i] w fun e w' => e = .returned (.bool true) ∧ w = w' := by
  go_enter Try.func57, Try.ntmps57
  go_wp2
  go_ret
  exact ⟨by simp, rfl⟩

theorem within_no (a : Option Addr) (len cap : Nat) (i : Int) (w : World) (h : i < 0 ∨ (len : Int) < i) :
    Calls Try.prog 57 #[.slice a len cap, .int .i64 i] w fun e w' => e = .returned (.bool false) ∧ w = w' := by
  by_cases h0 : 0 ≤ i
  · go_enter Try.func57, Try.ntmps57
    go_wp2
    go_ret
    exact ⟨ret_bool (by simp; omega), rfl⟩
  · go_enter Try.func57, Try.ntmps57
    go_wp2
    go_ret
    exact ⟨rfl, rfl⟩
theorem Try.bt : ByteT Try.prog 25 5 := ⟨Try.underlying25, Try.underlying5, by kernel_rfl⟩




theorem num_bad (n : Int) (w : World) (h : n < 0 ∨ 9007199254740991 < n) :
    Calls Try.prog 41 #[.int .i64 n] w fun e w' => e = .returned (.tuple #[.slice none 0 0, .int .i64 6]) ∧ w = w' := by
  rcases h with h | h
  · go_enter Try.func41, Try.ntmps41
    go_wp2
    go_ret2
    exact ⟨rfl, rfl⟩
  · have h' : ¬ n < 0 := by omega
    go_enter Try.func41, Try.ntmps41
    go_wp2
    go_ret2
    exact ⟨rfl, rfl⟩

theorem num_step {n m : Nat} {pre : List Int} (h : numB n = pre ++ numB m) (hlt : ¬ m < 128) : numB n = pre ++ [(m : Int) % 128 + 128] ++ numB (m / 128) := by
  rw [h, numB_big m hlt]; simp

set_option maxHeartbeats 1000000 in
set_option maxRecDepth 1000000 in
theorem num_good (n : Nat) (w : World) (h : n ≤ 9007199254740991) :
    Calls Try.prog 41 #[.int .i64 n] w fun e w' => ∃ v, e = .returned (.tuple #[v, .int .i64 0]) ∧ OwnB w' w.heap.size 5 v (numB n) ∧ Below w.heap.size w w' := by
  have h0 : ¬ (n : Int) < 0 := by omega
  have h1 : ¬ 9007199254740991 < (n : Int) := by omega
  go_enter Try.func41, Try.ntmps41
  go_wp2
  go_loopw [0, 4] (fun x v wr => ∃ (m : Nat) (pre : List Int), m ≤ n ∧ x = .int .i64 m ∧ numB n = pre ++ numB m ∧ OwnB wr w.heap.size 5 v pre ∧ Below w.heap.size w wr)
    (fun x _ _ => (intOf x).toNat)
  case atStart => exact ⟨n, [], Nat.le_refl _, rfl, rfl, OwnB.nil _ _ _, Below.refl _ _⟩
  case round =>
    obtain ⟨m, pre, hm, rfl, heq, hown, hnx⟩ := hrel
    have hpl : pre.length < 8 := by
      have h8 := numB_len8 n h
      have hp := numB_pos m
      rw [heq, List.length_append] at h8; omega
    have HE : Hid (numB n = pre ++ numB m) := heq
    clear heq
    have hsz := hnx.size
    by_cases hlt : m < 128
    · go_wp2_with (first
        | (at_builtin; refine wp_app1 Try.bt rfl _ _ rfl rfl hown rfl (by omega) (by omega) ?_)
        | go_in)
      intro v' w1 hown' hb
      go_wp2
      go_ret2
      refine ⟨_, rfl, ?_, hnx.trans hb⟩
      rw [HE.out, numB_small m hlt]; exact hown'
    · go_wp2_with (first
        | (at_builtin; refine wp_app1 Try.bt rfl _ _ rfl rfl hown rfl (by omega) (by omega) ?_)
        | go_in)
      intro v' w1 hown' hb
      go_wp2
      go_roundw
      case rel => exact ⟨m / 128, _, by omega, by go_num, num_step HE.out hlt, hown', hnx.trans hb⟩
      case measure => simp [intOf]; omega

theorem rnum_bad (n : Int) (w : World) (h : n < 0 ∨ 9007199254740991 < n) :
    Calls Try.prog 44 #[.int .i64 n] w fun e w' => e = .returned (.tuple #[.slice none 0 0, .int .i64 6]) ∧ w = w' := by
  rcases h with h | h
  · go_enter Try.func44, Try.ntmps44
    go_wp2
    go_ret2
    exact ⟨rfl, rfl⟩
  · have h' : ¬ n < 0 := by omega
    go_enter Try.func44, Try.ntmps44
    go_wp2
    go_ret2
    exact ⟨rfl, rfl⟩

set_option maxHeartbeats 1000000 in
set_option maxRecDepth 1000000 in
theorem rnum_good (n : Nat) (w : World) (h : n ≤ 9007199254740991) :
    Calls Try.prog 44 #[.int .i64 n] w fun e w' => ∃ v, e = .returned (.tuple #[v, .int .i64 0]) ∧ OwnB w' w.heap.size 5 v (numB n) ∧ Below w.heap.size w w' := by
  have h0 : ¬ (n : Int) < 0 := by omega
  have h1 : ¬ 9007199254740991 < (n : Int) := by omega
  go_enter Try.func44, Try.ntmps44
  go_wp2
  go_loopw [0, 4] (fun x v wr => ∃ (m : Nat) (pre : List Int), m ≤ n ∧ x = .int .i64 m ∧ numB n = pre ++ numB m ∧ OwnB wr w.heap.size 5 v pre ∧ Below w.heap.size w wr)
    (fun x _ _ => (intOf x).toNat)
  case atStart => exact ⟨n, [], Nat.le_refl _, rfl, rfl, own_lit w 5 w.heap.size [] #[] rfl (Nat.le_refl _) (Nat.zero_le _), (Below.refl _ _).alloc (Nat.le_refl _) _⟩
  case round =>
    obtain ⟨m, pre, hm, rfl, heq, hown, hnx⟩ := hrel
    have hpl : pre.length < 8 := by
      have h8 := numB_len8 n h
      have hp := numB_pos m
      rw [heq, List.length_append] at h8; omega
    have HE : Hid (numB n = pre ++ numB m) := heq
    clear heq
    have hsz := hnx.size
    by_cases hlt : m < 128
    · have hz : ((m : Int) / 128 == 0) = true := by simp; omega
      go_wp2_with (first
        | (at_builtin; refine wp_app1 Try.bt rfl _ _ rfl rfl hown rfl (by omega) (by omega) ?_)
        | go_in)
      intro v' w1 hown' hb
      go_wp2
      go_ret2
      refine ⟨_, rfl, ?_, hnx.trans hb⟩
      rw [HE.out, numB_small m hlt]
      have e : (m : Int) % 128 = m := by omega
      rw [e] at hown'
      exact hown'
    · have hz : ((m : Int) / 128 == 0) = false := by simp; omega
      go_wp2_with (first
        | (at_builtin; refine wp_app1 Try.bt rfl _ _ rfl rfl hown rfl (by omega) (by omega) ?_)
        | go_in)
      intro v' w1 hown' hb
      go_wp2
      go_roundw
      case rel => exact ⟨m / 128, _, by omega, by go_num, num_step HE.out hlt, hown', hnx.trans hb⟩
      case measure => simp [intOf]; omega



theorem ret3 {k l p : IntKind} {a b c x y z : Int} (h1 : a = x) (h2 : b = y) (h3 : c = z) : Ending.returned (.tuple #[.int k a, .int l b, .int p c]) = .returned (.tuple #[.int k x, .int l y, .int p z]) := by rw [h1, h2, h3]

set_option maxHeartbeats 1000000 in
set_option maxRecDepth 1000000 in
theorem tn_out (a : Option Addr) (L cap : Nat) (i : Int) (w : World) (h : i < 0 ∨ (L : Int) < i) :
    Calls Try.prog 54 #[.slice a L cap, .int .i64 i] w fun e w' => e = .returned (.tuple #[.int .i64 0, .int .i64 0, .int .i64 2]) ∧ w = w' := by
  go_enter Try.func54, Try.ntmps54
  go_wp2_with (go_at_call 57; refine (within_no _ _ _ _ _ h).mono ?_; rintro e w' ⟨rfl, rfl⟩)
  go_ret3
  exact ⟨rfl, rfl⟩

set_option maxHeartbeats 1000000 in
set_option maxRecDepth 1000000 in
theorem tn_none (a : Option Addr) (cap : Nat) (w : World) :
    Calls Try.prog 54 #[.slice a 0 cap, .int .i64 0] w fun e w' => e = .returned (.tuple #[.int .i64 0, .int .i64 0, .int .i64 3]) ∧ w = w' := by
  go_enter Try.func54, Try.ntmps54
  go_wp2_with (go_at_call 57; refine (within_yes _ _ _ _ _ (by omega) (by omega)).mono ?_; rintro e w' ⟨rfl, rfl⟩)
  go_loop [22] (fun i => i = .int .i64 0) (fun _ => 0)
  case atStart => rfl
  case round =>
    subst hrel
    go_wp2
    go_ret3
    exact ⟨rfl, rfl⟩

set_option maxHeartbeats 1000000 in
set_option maxRecDepth 1000000 in
theorem tn_end (b off L cap : Nat) (w : World) (hl : L ≤ cap) (hp : 0 < L) :
    Calls Try.prog 54 #[.slice (some ⟨b, off, none⟩) L cap, .int .i64 L] w fun e w' => e = .returned (.tuple #[.int .i64 0, .int .i64 0, .int .i64 3]) ∧ w = w' := by
  have h0 : (0 : Int) ≤ L := by omega
  go_enter Try.func54, Try.ntmps54
  go_wp2_with (go_at_call 57; refine (within_yes _ _ _ _ _ (by omega) (by omega)).mono ?_; rintro e w' ⟨rfl, rfl⟩)
  go_loop [22] (fun i => i = .int .i64 0) (fun _ => 0)
  case atStart => rfl
  case round =>
    subst hrel
    go_wp2
    go_ret3
    exact ⟨rfl, rfl⟩

set_option maxHeartbeats 2000000 in
set_option maxRecDepth 1000000 in
theorem tn_in (b off L cap k : Nat) (bs : List Int) (w : World) (hL : bs.length = L) (hl : L ≤ cap) (hm : cap ≤ maxLen) (hk : k < L) (hby : ∀ x ∈ bs, 0 ≤ x ∧ x < 256)
    (hc : ∀ i, i < L → w.cell? ⟨b, off + i, none⟩ = some (.int .u8 (bs.getD i 0))) (R : Int × Int × Int) (HR : Hid (R = fin k (tkGo 0 0 (bs.drop k)))) :
    Calls Try.prog 54 #[.slice (some ⟨b, off, none⟩) L cap, .int .i64 k] w fun e w' => e = .returned (.tuple #[.int .i64 R.1, .int .i64 R.2.1, .int .i64 R.2.2]) ∧ w = w' := by
  unfold maxLen at hm
  have h0 : (0 : Int) ≤ k := by omega
  have h1 : (k : Int) ≤ L := by omega
  go_enter Try.func54, Try.ntmps54
  go_wp2_with (go_at_call 57; refine (within_yes _ _ _ _ _ (by omega) (by omega)).mono ?_; rintro e w' ⟨rfl, rfl⟩)
  go_loop [7, 22] (fun n i => ∃ (j m : Nat), j ≤ L - k ∧ j ≤ 7 ∧ Hid (m < 128 ^ j) ∧ Hid (R = fin k (tkGo j m (bs.drop (k + j)))) ∧ i = .int .i64 j ∧ n = .int .i64 m) (fun _ i => L - (intOf i).toNat)
  case atStart => exact ⟨0, 0, by omega, by omega, (by decide : 0 < 128 ^ 0), HR, rfl, rfl⟩
  case round =>
    clear HR
    obtain ⟨j, m, hj, hj7, HM, HT, rfl, rfl⟩ := hrel
    by_cases hlt : j < L - k
    · obtain ⟨x, HX⟩ : ∃ x, Hid (x = bs.getD (k + j) 0) := ⟨_, rfl⟩
      have hc' : w.cell? ⟨b, off + k + j, none⟩ = some (.int .u8 x) := by have := hc (k + j) (by omega); rw [HX.out, Nat.add_assoc]; exact this
      clear hc
      have hx0 : 0 ≤ x ∧ x < 256 := by
        apply hby
        rw [HX.out, List.getD_eq_getElem?_getD, List.getElem?_eq_getElem (by omega)]
        exact List.getElem_mem _
      have HT2 : Hid (R = fin k (tkGo j m (x :: bs.drop (k + j + 1)))) := by
        have := HT.out; rw [drop_cons bs (k + j) (by omega), ← HX.out] at this; exact this
      clear HT hby
      obtain ⟨hx0, hx1⟩ := hx0
      have hjn := i64_join j m (x % 128) hj7 HM.out (by omega) (by omega)
      have HJ : Hid (bits .or .i64 (m : Int) (wrap64 (x % 128 * 2 ^ (7 * j))) = ((m + (x % 128).toNat * 128 ^ j : Nat) : Int)) := hjn
      clear hjn
      by_cases hlim : j = 7 ∧ 15 < x
      · have h7 : ((j : Int) == 7) = true := by simp; omega
        have h15 : 15 < x := hlim.2
        have HL : Hid (j = 7 ∧ 15 < x) := hlim
        clear hlim
        go_wp2
        go_ret3
        have e := HT2.out; rw [tkGo_lim _ _ _ _ HL.out] at e; subst e
        exact ⟨rfl, rfl⟩
      · by_cases h128 : 128 ≤ x
        · have hj6 : j < 7 := by omega
          have h7 : ((j : Int) == 7) = false := by simp; omega
          clear hlim
          go_wp2
          go_round
          case rel =>
            refine ⟨j + 1, m + (x % 128).toNat * 128 ^ j, by omega, by omega, pow_step HM.out hx0, ?_, by go_num, ?_⟩
            · have e := HT2.out; rw [tkGo_more _ _ _ _ hj6 h128] at e; exact e
            · rw [HJ.out]
          case measure => simp [intOf]; omega
        · have e := HT2.out
          have hxm : x % 128 = x := by omega
          by_cases hz : x = 0 ∧ 0 < j
          · obtain ⟨hz, hj0⟩ := hz
            rw [hz, tkGo_form _ _ _ hj0] at e
            have HE : Hid (R = fin k (0, 0, 4)) := e
            have hz' : (x == 0) = true := by simpa using hz
            clear e hxm
            have h7 : ((j : Int) == 7) = true ∨ ((j : Int) == 7) = false := by cases ((j : Int) == 7) <;> simp
            have hx15 : ¬ 15 < x := by omega
            clear hlim h128 hz
            rcases h7 with h7 | h7
            all_goals
              go_wp2
              go_ret3
              have e := HE.out; subst e
              exact ⟨rfl, rfl⟩
          · rw [tkGo_last _ _ _ _ hlim (by omega) hz] at e
            have hj' := HJ.out
            rw [hxm] at hj'
            have HE : Hid (R = fin k (((m + x.toNat * 128 ^ j : Nat) : Int), (j : Int) + 1, 0)) := e
            have HJ2 : Hid (bits .or .i64 (m : Int) (wrap64 (x % 128 * 2 ^ (7 * j))) = ((m + x.toNat * 128 ^ j : Nat) : Int)) := by rw [hxm]; exact hj'
            clear e hj' hxm HJ
            have h7 : ((j : Int) == 7) = true ∧ ¬ 15 < x ∨ ((j : Int) == 7) = false := by
              by_cases q : j = 7
              · exact .inl ⟨by simp; omega, by omega⟩
              · exact .inr (by simp; omega)
            have hz' : (x == 0) = false ∨ (x == 0) = true ∧ ¬ (0 : Int) < j := by
              by_cases q : x = 0
              · exact .inr ⟨by simpa using q, by omega⟩
              · exact .inl (by simpa using q)
            clear hlim hz
            rcases h7 with ⟨h7, hx15⟩ | h7 <;> rcases hz' with hz' | ⟨hz', hj0⟩
            all_goals
              go_wp2
              go_ret3
              have e := HE.out; subst e
              refine ⟨ret3 ?_ ?_ rfl, rfl⟩
              · exact HJ2.out
              · simp [fin]; omega
    · go_wp2
      go_ret3
      have e := HT.out; rw [List.drop_eq_nil_of_le (by omega)] at e; subst e
      exact ⟨rfl, rfl⟩



set_option maxHeartbeats 1000000 in
set_option maxRecDepth 1000000 in
theorem rtn_out (a : Option Addr) (L cap : Nat) (i : Int) (w : World) (h : i < 0 ∨ (L : Int) < i) :
    Calls Try.prog 33 #[.slice a L cap, .int .i64 i] w fun e w' => e = .returned (.tuple #[.int .i64 0, .int .i64 0, .int .i64 2]) ∧ w = w' := by
  rcases h with h | h
  · go_enter Try.func33, Try.ntmps33
    go_wp2
    go_ret3
    exact ⟨rfl, rfl⟩
  · have h0 : (0 : Int) ≤ i := by omega
    go_enter Try.func33, Try.ntmps33
    go_wp2
    go_ret3
    exact ⟨rfl, rfl⟩

set_option maxHeartbeats 1000000 in
set_option maxRecDepth 1000000 in
theorem rtn_end (a : Option Addr) (L cap : Nat) (w : World) (hl : L ≤ maxLen) :
    Calls Try.prog 33 #[.slice a L cap, .int .i64 L] w fun e w' => e = .returned (.tuple #[.int .i64 0, .int .i64 0, .int .i64 3]) ∧ w = w' := by
  unfold maxLen at hl
  go_enter Try.func33, Try.ntmps33
  go_wp2
  go_loop [7, 8, 9] (fun n s i => n = .int .i64 0 ∧ s = .int .i64 1 ∧ i = .int .i64 0) (fun _ _ _ => 0)
  case atStart => exact ⟨rfl, rfl, rfl⟩
  case round =>
    obtain ⟨rfl, rfl, rfl⟩ := hrel
    go_wp2
    go_ret3
    exact ⟨rfl, rfl⟩

theorem join_mul (j m : Nat) (y : Int) (hj : j ≤ 7) (hm : m < 128 ^ j) (h0 : 0 ≤ y) (h1 : y < 128) : wrap64 ((m : Int) + wrap64 (((128 ^ j : Nat) : Int) * y)) = ((m + y.toNat * 128 ^ j : Nat) : Int) := by
  obtain ⟨Y, rfl⟩ := Int.eq_ofNat_of_zero_le h0
  have hp := pow_le7 j hj
  have hb : Y * 128 ^ j ≤ 127 * 562949953421312 := Nat.mul_le_mul (by omega) hp
  have e1 : ((128 ^ j : Nat) : Int) * (Y : Int) = ((Y * 128 ^ j : Nat) : Int) := by rw [Nat.mul_comm Y]; simp
  rw [e1, IntWalk.wrap64_in (n := ((Y * 128 ^ j : Nat) : Int)) ⟨by omega, by omega⟩, IntWalk.wrap64_in _ ⟨by omega, by omega⟩]
  simp

set_option maxHeartbeats 2000000 in
set_option maxRecDepth 1000000 in
theorem rtn_in (b off L cap k : Nat) (bs : List Int) (w : World) (hL : bs.length = L) (hl : L ≤ maxLen) (hk : k < L) (hby : ∀ x ∈ bs, 0 ≤ x ∧ x < 256)
    (hc : ∀ i, i < L → w.cell? ⟨b, off + i, none⟩ = some (.int .u8 (bs.getD i 0))) (R : Int × Int × Int) (HR : Hid (R = fin k (tkGo 0 0 (bs.drop k)))) :
    Calls Try.prog 33 #[.slice (some ⟨b, off, none⟩) L cap, .int .i64 k] w fun e w' => e = .returned (.tuple #[.int .i64 R.1, .int .i64 R.2.1, .int .i64 R.2.2]) ∧ w = w' := by
  unfold maxLen at hl
  have h0 : (0 : Int) ≤ k := by omega
  have h1 : (k : Int) ≤ L := by omega
  go_enter Try.func33, Try.ntmps33
  go_wp2
  go_loop [7, 8, 9] (fun n s i => ∃ (j m S : Nat), j ≤ L - k ∧ j ≤ 7 ∧ S ≤ 562949953421312 ∧ Hid (S = 128 ^ j) ∧ Hid (m < 128 ^ j) ∧ Hid (R = fin k (tkGo j m (bs.drop (k + j)))) ∧ i = .int .i64 j ∧ n = .int .i64 m ∧ s = .int .i64 S) (fun _ _ i => L - (intOf i).toNat)
  case atStart => exact ⟨0, 0, 1, by omega, by omega, by omega, (by decide : 1 = 128 ^ 0), (by decide : 0 < 128 ^ 0), HR, rfl, rfl, rfl⟩
  case round =>
    clear HR
    obtain ⟨j, m, S, hj, hj7, hS, HS, HM, HT, rfl, rfl, rfl⟩ := hrel
    by_cases hlt : j < L - k
    · obtain ⟨x, HX⟩ : ∃ x, Hid (x = bs.getD (k + j) 0) := ⟨_, rfl⟩
      have hc' : w.cell? ⟨b, off + (k + j), none⟩ = some (.int .u8 x) := by have := hc (k + j) (by omega); rw [HX.out]; exact this
      clear hc
      have hx0 : 0 ≤ x ∧ x < 256 := by
        apply hby
        rw [HX.out, List.getD_eq_getElem?_getD, List.getElem?_eq_getElem (by omega)]
        exact List.getElem_mem _
      have HT2 : Hid (R = fin k (tkGo j m (x :: bs.drop (k + j + 1)))) := by
        have := HT.out; rw [drop_cons bs (k + j) (by omega), ← HX.out] at this; exact this
      clear HT hby
      obtain ⟨hx0, hx1⟩ := hx0
      have HJ : Hid (wrap64 ((m : Int) + wrap64 ((S : Int) * (x % 128))) = ((m + (x % 128).toNat * 128 ^ j : Nat) : Int)) := by
        have := join_mul j m (x % 128) hj7 HM.out (by omega) (by omega)
        rw [← HS.out] at this ⊢; exact this
      have hne : ((k : Int) + j == L) = false := by simp; omega
      by_cases hlim : j = 7 ∧ 15 < x
      · have h7 : ((j : Int) == 7) = true := by simp; omega
        have h15 : 15 < x := hlim.2
        have HL : Hid (j = 7 ∧ 15 < x) := hlim
        clear hlim
        go_wp2
        go_ret3
        have e := HT2.out; rw [tkGo_lim _ _ _ _ HL.out] at e; subst e
        exact ⟨rfl, rfl⟩
      · by_cases h128 : 128 ≤ x
        · have hj6 : j < 7 := by omega
          have h7 : ((j : Int) == 7) = false := by simp; omega
          clear hlim
          go_wp2
          go_round
          case rel =>
            refine ⟨j + 1, m + (x % 128).toNat * 128 ^ j, S * 128, by omega, by omega, ?_, ?_, pow_step HM.out hx0, ?_, by go_num, ?_, by go_num⟩
            · have := pow_le7 (j + 1) (by omega); rw [Nat.pow_succ, ← HS.out] at this; exact this
            · show S * 128 = 128 ^ (j + 1); rw [Nat.pow_succ, HS.out]
            · have e := HT2.out; rw [tkGo_more _ _ _ _ hj6 h128] at e; exact e
            · rw [HJ.out]
          case measure => simp [intOf]; omega
        · have e := HT2.out
          have hxm : x % 128 = x := by omega
          by_cases hz : x = 0 ∧ 0 < j
          · obtain ⟨hz, hj0⟩ := hz
            rw [hz, tkGo_form _ _ _ hj0] at e
            have HE : Hid (R = fin k (0, 0, 4)) := e
            have hz' : (x == 0) = true := by simpa using hz
            clear e hxm
            have h7 : ((j : Int) == 7) = true ∨ ((j : Int) == 7) = false := by cases ((j : Int) == 7) <;> simp
            have hx15 : ¬ 15 < x := by omega
            clear hlim h128 hz
            rcases h7 with h7 | h7
            all_goals
              go_wp2
              go_ret3
              have e := HE.out; subst e
              exact ⟨rfl, rfl⟩
          · rw [tkGo_last _ _ _ _ hlim (by omega) hz] at e
            have hj' := HJ.out
            rw [hxm] at hj'
            have HE : Hid (R = fin k (((m + x.toNat * 128 ^ j : Nat) : Int), (j : Int) + 1, 0)) := e
            have HJ2 : Hid (wrap64 ((m : Int) + wrap64 ((S : Int) * (x % 128))) = ((m + x.toNat * 128 ^ j : Nat) : Int)) := by rw [hxm]; exact hj'
            clear e hj' hxm HJ
            have h7 : ((j : Int) == 7) = true ∧ ¬ 15 < x ∨ ((j : Int) == 7) = false := by
              by_cases q : j = 7
              · exact .inl ⟨by simp; omega, by omega⟩
              · exact .inr (by simp; omega)
            have hz' : (x == 0) = false ∨ (x == 0) = true ∧ ¬ (0 : Int) < j := by
              by_cases q : x = 0
              · exact .inr ⟨by simpa using q, by omega⟩
              · exact .inl (by simpa using q)
            clear hlim hz
            rcases h7 with ⟨h7, hx15⟩ | h7 <;> rcases hz' with hz' | ⟨hz', hj0⟩
            all_goals
              go_wp2
              go_ret3
              have e := HE.out; subst e
              refine ⟨ret3 ?_ ?_ rfl, rfl⟩
              · exact HJ2.out
              · simp [fin]; omega
    · have hje : ((k : Int) + j == L) = true := by simp; omega
      go_wp2
      go_ret3
      have e := HT.out; rw [List.drop_eq_nil_of_le (by omega)] at e; subst e
      exact ⟨rfl, rfl⟩

/-- TakeNum, at every slice and place. -/
theorem takeNum_any (v : Value) (bs : List Int) (i : Int) (w : World) (hv : Bs w v bs) (hby : ∀ x ∈ bs, 0 ≤ x ∧ x < 256) :
    Calls Try.prog 54 #[v, .int .i64 i] w fun e w' => e = .returned (.tuple #[.int .i64 (tkNum bs i).1, .int .i64 (tkNum bs i).2.1, .int .i64 (tkNum bs i).2.2]) ∧ w = w' := by
  by_cases hi : i < 0 ∨ (bs.length : Int) < i
  · rw [tkNum_out bs i hi]
    obtain ⟨a, cap, rfl, _⟩ := hv
    exact tn_out a bs.length cap i w hi
  · obtain ⟨k, rfl⟩ := Int.eq_ofNat_of_zero_le (show 0 ≤ i by omega)
    rcases hv.cases with ⟨rfl, a, cap, rfl, hm, hn⟩ | ⟨hb, b, off, cap, rfl, hl, hm, _, hc⟩
    · have hk : k = 0 := by simp at hi; omega
      subst hk
      exact tn_none a cap w
    · by_cases hk : k < bs.length
      · refine tn_in b off bs.length cap k bs w rfl hl hm hk hby hc _ ?_
        exact tkNum_in bs k (by omega)
      · have hk' : k = bs.length := by omega
        rw [tkNum_end bs k hk']
        subst hk'
        exact tn_end b off bs.length cap w hl (List.length_pos_iff.2 hb)

/-- The document's TakeNum, at every slice and place. -/
theorem rtakeNum_any (v : Value) (bs : List Int) (i : Int) (w : World) (hv : Bs w v bs) (hby : ∀ x ∈ bs, 0 ≤ x ∧ x < 256) :
    Calls Try.prog 33 #[v, .int .i64 i] w fun e w' => e = .returned (.tuple #[.int .i64 (tkNum bs i).1, .int .i64 (tkNum bs i).2.1, .int .i64 (tkNum bs i).2.2]) ∧ w = w' := by
  by_cases hi : i < 0 ∨ (bs.length : Int) < i
  · rw [tkNum_out bs i hi]
    obtain ⟨a, cap, rfl, _⟩ := hv
    exact rtn_out a bs.length cap i w hi
  · obtain ⟨k, rfl⟩ := Int.eq_ofNat_of_zero_le (show 0 ≤ i by omega)
    by_cases hk : k < bs.length
    · rcases hv.cases with ⟨rfl, _⟩ | ⟨hb, b, off, cap, rfl, hl, hm, _, hc⟩
      · simp at hk
      · refine rtn_in b off bs.length cap k bs w rfl hv.len hk hby hc _ ?_
        exact tkNum_in bs k (by omega)
    · have hk' : k = bs.length := by omega
      rw [tkNum_end bs k hk']
      subst hk'
      have hlen := hv.len
      obtain ⟨a, cap, rfl, _⟩ := hv
      exact rtn_end a bs.length cap w hlen

end Go.Proofs.Ythohpbppfihoiaa.Oct
