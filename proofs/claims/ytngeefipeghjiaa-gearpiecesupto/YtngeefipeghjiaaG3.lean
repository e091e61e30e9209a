/- The document's Check; small; mixed. -/
import Derived.Test.YtngeefipeghjiaaG2
namespace Go.Proofs.Ytngeefipeghjiaa
open Go.RowKit

theorem pow_list (av : Int) : (∃ j, j < 9 ∧ av = ((2 ^ j : Nat) : Int)) ↔ (av = 1 ∨ av = 2 ∨ av = 4 ∨ av = 8 ∨ av = 16 ∨ av = 32 ∨ av = 64 ∨ av = 128 ∨ av = 256) := by
  constructor
  · rintro ⟨j, hj, rfl⟩
    match j, hj with
    | 0, _ => simp
    | 1, _ => simp
    | 2, _ => simp
    | 3, _ => simp
    | 4, _ => simp
    | 5, _ => simp
    | 6, _ => simp
    | 7, _ => simp
    | 8, _ => simp
  · rintro (h | h | h | h | h | h | h | h | h)
    · exact ⟨0, by decide, by rw [h]; rfl⟩
    · exact ⟨1, by decide, by rw [h]; rfl⟩
    · exact ⟨2, by decide, by rw [h]; rfl⟩
    · exact ⟨3, by decide, by rw [h]; rfl⟩
    · exact ⟨4, by decide, by rw [h]; rfl⟩
    · exact ⟨5, by decide, by rw [h]; rfl⟩
    · exact ⟨6, by decide, by rw [h]; rfl⟩
    · exact ⟨7, by decide, by rw [h]; rfl⟩
    · exact ⟨8, by decide, by rw [h]; rfl⟩
theorem pow_small {k : Nat} (h : k < 9) : 2 ^ k ≤ 256 := by
  match k, h with
  | 0, _ => decide
  | 1, _ => decide
  | 2, _ => decide
  | 3, _ => decide
  | 4, _ => decide
  | 5, _ => decide
  | 6, _ => decide
  | 7, _ => decide
  | 8, _ => decide
def Pw (av : Int) (k : Nat) (b : Bool) : Prop := b = true ↔ ∃ j, j < k ∧ av = ((2 ^ j : Nat) : Int)
theorem Pw.yes {av : Int} {k : Nat} (h : Pw av k true) : Pw av (k + 1) true := by
  obtain ⟨j, hj, e⟩ := h.1 rfl
  exact ⟨fun _ => ⟨j, by omega, e⟩, fun _ => rfl⟩
theorem Pw.hit {av : Int} {k : Nat} (e : av = ((2 ^ k : Nat) : Int)) : Pw av (k + 1) true := ⟨fun _ => ⟨k, by omega, e⟩, fun _ => rfl⟩
theorem Pw.no {av : Int} {k : Nat} (h : Pw av k false) (e : ¬ ((2 ^ k : Nat) : Int) = av) : Pw av (k + 1) false := by
  refine ⟨fun h => (nomatch h), fun ⟨j, hj, ej⟩ => ?_⟩
  by_cases hk : j = k
  · subst hk; exact absurd ej.symm e
  · exact h.2 ⟨j, by omega, ej⟩
theorem pw_zero (av : Int) : Pw av 0 false := ⟨fun h => (nomatch h), fun ⟨j, hj, _⟩ => by omega⟩

set_option maxHeartbeats 2000000 in
theorem rcheck_any (mn av mx : Int) (w : World) : Calls Try.prog 13 #[.agg #[.int .i64 mn, .int .i64 av, .int .i64 mx]] w fun e w' => e = .returned (.int .i64 (chkE mn av mx)) ∧ Below w.heap.size w w' := by
  have hb : Below w.heap.size w (w.alloc (.cells #[.int .i64 mn, .int .i64 av, .int .i64 mx] 24)) := (Below.refl _ w).alloc (Nat.le_refl _) _
  have c0 : (w.alloc (.cells #[.int .i64 mn, .int .i64 av, .int .i64 mx] 24)).cell? ⟨w.heap.size, 0, none⟩ = some (.int .i64 mn) := by simp
  have c1 : (w.alloc (.cells #[.int .i64 mn, .int .i64 av, .int .i64 mx] 24)).cell? ⟨w.heap.size, 1, none⟩ = some (.int .i64 av) := by simp
  have c2 : (w.alloc (.cells #[.int .i64 mn, .int .i64 av, .int .i64 mx] 24)).cell? ⟨w.heap.size, 2, none⟩ = some (.int .i64 mx) := by simp
  have HE : ∀ z : Int, (z = if okC mn av mx then 0 else 2) → Hid (z = chkE mn av mx) := fun z h => ⟨h⟩
  go_enter Try.func13, Try.ntmps13
  go_wp2
  generalize w.alloc (.cells #[.int .i64 mn, .int .i64 av, .int .i64 mx] 24) = W at hb c0 c1 c2 ⊢
  have HB : Hid (Below w.heap.size w W) := ⟨hb⟩
  clear hb
  go_loopg [3, 4] 9 (fun gg s3 s4 wr => ∃ kk : Nat, ∃ b : Bool, kk ≤ 9 ∧ 9 - kk ≤ gg ∧ s4 = .int .i64 ((2 ^ kk : Nat) : Int) ∧ s3 = .bool b ∧ Hid (Pw av kk b) ∧ W = wr)
  case atStart => exact ⟨0, false, by omega, by omega, rfl, rfl, ⟨pw_zero av⟩, rfl⟩
  case round =>
    obtain ⟨kk, b, hkk, hgg, rfl, rfl, HP, rfl⟩ := hrel
    by_cases hlt : kk < 9
    · have hp := pow_small hlt
      obtain ⟨m, Hm⟩ : ∃ m : Nat, Hid (2 ^ kk = m) := ⟨_, ⟨rfl⟩⟩
      rw [Hm.out] at hp ⊢
      have hle : (m : Int) ≤ 256 := by omega
      have Hn : Hid (((2 ^ (kk + 1) : Nat) : Int) = (m : Int) * 2) := ⟨by rw [Nat.pow_succ, Hm.out]; omega⟩
      cases b with
      | true =>
        go_wp2
        go_roundg (9 - (kk + 1))
        case measure => omega
        case rel => exact ⟨kk + 1, true, by omega, by omega, by rw [Hn.out], rfl, ⟨HP.out.yes⟩, rfl⟩
      | false =>
        by_cases he : (m : Int) = av
        · have HP2 : Hid (Pw av (kk + 1) true) := ⟨Pw.hit (by rw [Hm.out]; exact he.symm)⟩
          go_wp2
          go_roundg (9 - (kk + 1))
          case measure => omega
          case rel => exact ⟨kk + 1, true, by omega, by omega, by rw [Hn.out] <;> first | rfl | (congr 1; omega) | go_num, rfl, HP2, rfl⟩
        · have HP2 : Hid (Pw av (kk + 1) false) := ⟨HP.out.no (by rw [Hm.out]; exact he)⟩
          go_wp2
          go_roundg (9 - (kk + 1))
          case measure => omega
          case rel => exact ⟨kk + 1, false, by omega, by omega, by rw [Hn.out], by rw [show ((m : Int) == av) = false from by simpa using he], HP2, rfl⟩
    · obtain rfl : kk = 9 := by omega
      have hpl := pow_list av
      have h9 := HP.out
      unfold Pw at h9
      rw [hpl] at h9
      clear hpl
      cases b with
      | false =>
        have HZ := HE 2 (by rw [if_neg]; unfold okC; intro h; have := h9.2 h.2.2.2; cases this)
        clear h9
        go_wp2
        go_ret
        exact ⟨by rw [← HZ.out]; rfl, HB.out⟩
      | true =>
        have HQ : Hid (av = 1 ∨ av = 2 ∨ av = 4 ∨ av = 8 ∨ av = 16 ∨ av = 32 ∨ av = 64 ∨ av = 128 ∨ av = 256) := ⟨h9.1 rfl⟩
        clear h9
        by_cases h1 : mn < 1
        · have HZ := HE 2 (by rw [if_neg]; unfold okC; omega)
          go_wp2
          go_ret
          exact ⟨by rw [← HZ.out]; rfl, HB.out⟩
        by_cases h2 : mx < mn
        · have HZ := HE 2 (by rw [if_neg]; unfold okC; omega)
          go_wp2
          go_ret
          exact ⟨by rw [← HZ.out]; rfl, HB.out⟩
        by_cases h3 : 512 < mx
        · have HZ := HE 2 (by rw [if_neg]; unfold okC; omega)
          go_wp2
          go_ret
          exact ⟨by rw [← HZ.out]; rfl, HB.out⟩
        have HZ := HE 0 (by rw [if_pos]; exact ⟨by omega, by omega, by omega, HQ.out⟩)
        go_wp2
        go_ret
        exact ⟨by rw [← HZ.out]; rfl, HB.out⟩
end Go.Proofs.Ytngeefipeghjiaa
