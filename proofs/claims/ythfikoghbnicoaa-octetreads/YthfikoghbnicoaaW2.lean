/- Contracts of octet.TakeNum and of the document's. -/
import Derived.Test.YthfikoghbnicoaaW1
namespace Go.Proofs.Ythfikoghbnicoaa
open Go.RowKit

theorem ret3 {k l p : IntKind} {a b c x y z : Int} (h1 : a = x) (h2 : b = y) (h3 : c = z) : Ending.returned (.tuple #[.int k a, .int l b, .int p c]) = .returned (.tuple #[.int k x, .int l y, .int p z]) := by rw [h1, h2, h3]

set_option maxHeartbeats 1000000 in
set_option maxRecDepth 1000000 in
theorem tn_out (a : Option Addr) (L cap : Nat) (i : Int) (w : World) (h : i < 0 ∨ (L : Int) < i) :
    Calls Try.prog 11 #[.slice a L cap, .int .i64 i] w fun e w' => e = .returned (.tuple #[.int .i64 0, .int .i64 0, .int .i64 2]) ∧ w = w' := by
  go_enter Try.func11, Try.ntmps11
  go_wp2_with (go_at_call 33; refine (within_no _ _ _ _ _ h).mono ?_; rintro e w' ⟨rfl, rfl⟩)
  go_ret3
  exact ⟨rfl, rfl⟩

set_option maxHeartbeats 1000000 in
set_option maxRecDepth 1000000 in
theorem tn_none (a : Option Addr) (cap : Nat) (w : World) :
    Calls Try.prog 11 #[.slice a 0 cap, .int .i64 0] w fun e w' => e = .returned (.tuple #[.int .i64 0, .int .i64 0, .int .i64 3]) ∧ w = w' := by
  go_enter Try.func11, Try.ntmps11
  go_wp2_with (go_at_call 33; refine (within_yes _ _ _ _ _ (by omega) (by omega)).mono ?_; rintro e w' ⟨rfl, rfl⟩)
  go_loop [22] (fun i => i = .int .i64 0) (fun _ => 0)
  case atStart => rfl
  case round =>
    subst hrel
    go_wp2
    go_ret3
    exact ⟨rfl, rfl⟩

set_option maxHeartbeats 1000000 in
set_option maxRecDepth 1000000 in
theorem tn_end (b off L cap : Nat) (w : World) (hl : L ≤ cap) (hp : 0 < L) :
    Calls Try.prog 11 #[.slice (some ⟨b, off, none⟩) L cap, .int .i64 L] w fun e w' => e = .returned (.tuple #[.int .i64 0, .int .i64 0, .int .i64 3]) ∧ w = w' := by
  have h0 : (0 : Int) ≤ L := by omega
  go_enter Try.func11, Try.ntmps11
  go_wp2_with (go_at_call 33; refine (within_yes _ _ _ _ _ (by omega) (by omega)).mono ?_; rintro e w' ⟨rfl, rfl⟩)
  go_loop [22] (fun i => i = .int .i64 0) (fun _ => 0)
  case atStart => rfl
  case round =>
    subst hrel
    go_wp2
    go_ret3
    exact ⟨rfl, rfl⟩

set_option maxHeartbeats 2000000 in
set_option maxRecDepth 1000000 in
theorem tn_in (b off L cap k : Nat) (bs : List Int) (w : World) (hL : bs.length = L) (hl : L ≤ cap) (hm : cap ≤ maxLen) (hk : k < L) (hby : ∀ x ∈ bs, 0 ≤ x ∧ x < 256)
    (hc : ∀ i, i < L → w.cell? ⟨b, off + i, none⟩ = some (.int .u8 (bs.getD i 0))) (R : Int × Int × Int) (HR : Hid (R = fin k (tkGo 0 0 (bs.drop k)))) :
    Calls Try.prog 11 #[.slice (some ⟨b, off, none⟩) L cap, .int .i64 k] w fun e w' => e = .returned (.tuple #[.int .i64 R.1, .int .i64 R.2.1, .int .i64 R.2.2]) ∧ w = w' := by
  unfold maxLen at hm
  have h0 : (0 : Int) ≤ k := by omega
  have h1 : (k : Int) ≤ L := by omega
  go_enter Try.func11, Try.ntmps11
  go_wp2_with (go_at_call 33; refine (within_yes _ _ _ _ _ (by omega) (by omega)).mono ?_; rintro e w' ⟨rfl, rfl⟩)
  go_loop [7, 22] (fun n i => ∃ (j m : Nat), j ≤ L - k ∧ j ≤ 7 ∧ Hid (m < 128 ^ j) ∧ Hid (R = fin k (tkGo j m (bs.drop (k + j)))) ∧ i = .int .i64 j ∧ n = .int .i64 m) (fun _ i => L - (intOf i).toNat)
  case atStart => exact ⟨0, 0, by omega, by omega, (by decide : 0 < 128 ^ 0), HR, rfl, rfl⟩
  case round =>
    clear HR
    obtain ⟨j, m, hj, hj7, HM, HT, rfl, rfl⟩ := hrel
    by_cases hlt : j < L - k
    · obtain ⟨x, HX⟩ : ∃ x, Hid (x = bs.getD (k + j) 0) := ⟨_, rfl⟩
      have hc' : w.cell? ⟨b, off + k + j, none⟩ = some (.int .u8 x) := by have := hc (k + j) (by omega); rw [HX.out, Nat.add_assoc]; exact this
      clear hc
      have hx0 : 0 ≤ x ∧ x < 256 := by
        apply hby
        rw [HX.out, List.getD_eq_getElem?_getD, List.getElem?_eq_getElem (by omega)]
        exact List.getElem_mem _
      have HT2 : Hid (R = fin k (tkGo j m (x :: bs.drop (k + j + 1)))) := by
        have := HT.out; rw [drop_cons bs (k + j) (by omega), ← HX.out] at this; exact this
      clear HT hby
      obtain ⟨hx0, hx1⟩ := hx0
      have hjn := i64_join j m (x % 128) hj7 HM.out (by omega) (by omega)
      have HJ : Hid (bits .or .i64 (m : Int) (wrap64 (x % 128 * 2 ^ (7 * j))) = ((m + (x % 128).toNat * 128 ^ j : Nat) : Int)) := hjn
      clear hjn
      by_cases hlim : j = 7 ∧ 15 < x
      · have h7 : ((j : Int) == 7) = true := by simp; omega
        have h15 : 15 < x := hlim.2
        have HL : Hid (j = 7 ∧ 15 < x) := hlim
        clear hlim
        go_wp2
        go_ret3
        have e := HT2.out; rw [tkGo_lim _ _ _ _ HL.out] at e; subst e
        exact ⟨rfl, rfl⟩
      · by_cases h128 : 128 ≤ x
        · have hj6 : j < 7 := by omega
          have h7 : ((j : Int) == 7) = false := by simp; omega
          clear hlim
          go_wp2
          go_round
          case rel =>
            refine ⟨j + 1, m + (x % 128).toNat * 128 ^ j, by omega, by omega, pow_step HM.out hx0, ?_, by go_num, ?_⟩
            · have e := HT2.out; rw [tkGo_more _ _ _ _ hj6 h128] at e; exact e
            · rw [HJ.out]
          case measure => simp [intOf]; omega
        · have e := HT2.out
          have hxm : x % 128 = x := by omega
          by_cases hz : x = 0 ∧ 0 < j
          · obtain ⟨hz, hj0⟩ := hz
            rw [hz, tkGo_form _ _ _ hj0] at e
            have HE : Hid (R = fin k (0, 0, 4)) := e
            have hz' : (x == 0) = true := by simpa using hz
            clear e hxm
            have h7 : ((j : Int) == 7) = true ∨ ((j : Int) == 7) = false := by cases ((j : Int) == 7) <;> simp
            have hx15 : ¬ 15 < x := by omega
            clear hlim h128 hz
            rcases h7 with h7 | h7
            all_goals
              go_wp2
              go_ret3
              have e := HE.out; subst e
              exact ⟨rfl, rfl⟩
          · rw [tkGo_last _ _ _ _ hlim (by omega) hz] at e
            have hj' := HJ.out
            rw [hxm] at hj'
            have HE : Hid (R = fin k (((m + x.toNat * 128 ^ j : Nat) : Int), (j : Int) + 1, 0)) := e
            have HJ2 : Hid (bits .or .i64 (m : Int) (wrap64 (x % 128 * 2 ^ (7 * j))) = ((m + x.toNat * 128 ^ j : Nat) : Int)) := by rw [hxm]; exact hj'
            clear e hj' hxm HJ
            have h7 : ((j : Int) == 7) = true ∧ ¬ 15 < x ∨ ((j : Int) == 7) = false := by
              by_cases q : j = 7
              · exact .inl ⟨by simp; omega, by omega⟩
              · exact .inr (by simp; omega)
            have hz' : (x == 0) = false ∨ (x == 0) = true ∧ ¬ (0 : Int) < j := by
              by_cases q : x = 0
              · exact .inr ⟨by simpa using q, by omega⟩
              · exact .inl (by simpa using q)
            clear hlim hz
            rcases h7 with ⟨h7, hx15⟩ | h7 <;> rcases hz' with hz' | ⟨hz', hj0⟩
            all_goals
              go_wp2
              go_ret3
              have e := HE.out; subst e
              refine ⟨ret3 ?_ ?_ rfl, rfl⟩
              · exact HJ2.out
              · simp [fin]; omega
    · go_wp2
      go_ret3
      have e := HT.out; rw [List.drop_eq_nil_of_le (by omega)] at e; subst e
      exact ⟨rfl, rfl⟩
end Go.Proofs.Ythfikoghbnicoaa
