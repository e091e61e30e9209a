/- The document's products. -/
import Derived.Test.YtbdmbhpmbklaiaaFd1
namespace Go.Proofs.Ytbdmbhpmbklaiaa
open Go.RowKit Gf

theorem bit_rem (m r : Nat) : (((m : Int) / 2 ^ r).tmod 2 == 1) = m.testBit r := by
  have e : (m : Int) / 2 ^ r = ((m / 2 ^ r : Nat) : Int) := by simp
  rw [e, Int.tmod_eq_emod_of_nonneg (Int.natCast_nonneg _), Nat.testBit_eq_decide_div_mod_eq]
  by_cases hz : m / 2 ^ r % 2 = 1
  · rw [decide_eq_true hz, beq_iff_eq]; omega
  · rw [decide_eq_false hz, beq_eq_false_iff_ne]; omega
theorem wrap_sh (a i : Nat) (ha : a < 512) (hi : i ≤ 8) : wrap64 ((a : Int) * 2 ^ i) = ((a <<< i : Nat) : Int) ∧ a <<< i < 4294967296 := by
  have h4 : 2 ^ i ≤ 2 ^ 8 := Nat.pow_le_pow_right (by decide) hi
  have h3 : a * 2 ^ i ≤ a * 2 ^ 8 := Nat.mul_le_mul_left _ h4
  have e : (a : Int) * 2 ^ i = ((a * 2 ^ i : Nat) : Int) := by simp
  rw [Nat.shiftLeft_eq, e]
  refine ⟨?_, by omega⟩
  unfold wrap64
  omega
set_option maxHeartbeats 800000 in
set_option maxRecDepth 100000 in
theorem rmul10n (a b : Nat) (w : World) (ha : a < 256) (hb : b < 256) : Calls Try.prog 41 #[.int .u8 a, .int .u8 b] w fun e w' => e = .returned (.int .u8 (gm a b : Nat)) ∧ w = w' := by
  obtain ⟨r, Hr⟩ : ∃ r, Hid (gm a b = r) := ⟨_, ⟨rfl⟩⟩
  have hr : r < 256 := by rw [← Hr.out]; exact gm_lt ha hb
  rw [Hr.out]
  go_enter Try.func41, Try.ntmps41
  go_wp2
  go_loop [5, 6] (fun s5 s6 => ∃ i : Nat, i ≤ 8 ∧ s6 = .int .i64 i ∧ s5 = .int .i64 (cl a b i : Nat)) (fun _ s6 => 8 - (intOf s6).toNat)
  case atStart => exact ⟨0, Nat.zero_le _, rfl, rfl⟩
  case round =>
    obtain ⟨i, hi, rfl, rfl⟩ := hrel
    have h2 := cl_lt ha b i hi
    by_cases hlt : i < 8
    · have t1 := bit_rem b i
      obtain ⟨c, Hc⟩ : ∃ s, Hid (cl a b i = s) := ⟨_, ⟨rfl⟩⟩
      rw [Hc.out] at h2 ⊢
      cases hbit : b.testBit i with
      | true =>
        have t2 : (((b : Int) / 2 ^ i).tmod 2 == 1) = true := by rw [t1, hbit]
        have HA : Hid (bits .xor .i64 (c : Int) (wrap64 ((a : Int) * 2 ^ i)) = (cl a b (i + 1) : Nat)) := ⟨by
          have hw := wrap_sh a i (by omega) (by omega)
          rw [cl, hbit, Hc.out, hw.1, xor_i64 _ _ (by omega) hw.2, if_pos rfl]⟩
        clear t1 hbit
        go_wp2
        go_round
        case rel => exact ⟨i + 1, by omega, by go_num, by rw [HA.out]⟩
        case measure => simp [intOf]; omega
      | false =>
        have t2 : (((b : Int) / 2 ^ i).tmod 2 == 1) = false := by rw [t1, hbit]
        have HA : Hid (c = cl a b (i + 1)) := ⟨by rw [cl, hbit, Hc.out]; simp⟩
        clear t1 hbit
        go_wp2
        go_round
        case rel => exact ⟨i + 1, by omega, by go_num, by rw [← HA.out]⟩
        case measure => simp [intOf]; omega
    · obtain rfl : i = 8 := by omega
      go_wp2
      go_loop [5, 7] (fun s5 s7 => ∃ t : Nat, t ≤ 7 ∧ s7 = .int .i64 (14 - (t : Int)) ∧ s5 = .int .i64 (rd (cl a b 8) t : Nat)) (fun _ s7 => (intOf s7).toNat)
      case atStart => exact ⟨0, Nat.zero_le _, rfl, rfl⟩
      case round =>
        obtain ⟨t, ht, rfl, rfl⟩ := hrel
        have h3 := rd_lt h2 t ht
        by_cases hlt : t < 7
        · obtain ⟨n, Hn⟩ : ∃ s, Hid (14 - t = s) := ⟨_, ⟨rfl⟩⟩
          have hn := Hn.out
          have e1 : 14 - (t : Int) = (n : Int) := by omega
          have hn8 : 8 ≤ n := by omega
          have hn14 : n ≤ 14 := by omega
          clear hn
          obtain ⟨c, Hc⟩ : ∃ s, Hid (rd (cl a b 8) t = s) := ⟨_, ⟨rfl⟩⟩
          rw [Hc.out] at h3 ⊢
          rw [e1]
          have HE := Hid.mk e1
          clear e1
          have t1 := bit_rem c n
          cases hbit : c.testBit n with
          | true =>
            have t2 : (((c : Int) / 2 ^ n).tmod 2 == 1) = true := by rw [t1, hbit]
            have HA : Hid (bits .xor .i64 (c : Int) (wrap64 (285 * 2 ^ (n - 8))) = (rd (cl a b 8) (t + 1) : Nat)) := ⟨by
              have hw := wrap_sh 285 (n - 8) (by decide) (by omega)
              have hw1 : wrap64 (285 * 2 ^ (n - 8)) = ((285 <<< (n - 8) : Nat) : Int) := hw.1
              have e6 : 6 - t = n - 8 := by have := Hn.out; omega
              rw [rd, Hc.out, Hn.out, hbit, hw1, xor_i64 _ _ (by omega) hw.2, if_pos rfl, e6]⟩
            clear t1
            go_wp2
            go_round
            case rel => exact ⟨t + 1, by omega, by have := HE.out; congr 1; omega, by rw [HA.out]⟩
            case measure => simp [intOf]; omega
          | false =>
            have t2 : (((c : Int) / 2 ^ n).tmod 2 == 1) = false := by rw [t1, hbit]
            have HA : Hid (c = rd (cl a b 8) (t + 1)) := ⟨by rw [rd, Hc.out, Hn.out, hbit]; simp⟩
            clear t1
            go_wp2
            go_round
            case rel => exact ⟨t + 1, by omega, by have := HE.out; congr 1; omega, by rw [← HA.out]⟩
            case measure => simp [intOf]; omega
        · obtain rfl : t = 7 := by omega
          have HA : Hid (rd (cl a b 8) 7 = r) := Hr
          rw [HA.out]
          go_wp2
          go_ret
          exact ⟨rfl, rfl⟩
theorem rmul10 (a b : G) (w : World) : Calls Try.prog 41 #[.int .u8 (gi a), .int .u8 (gi b)] w fun e w' => e = .returned (.int .u8 (gi (a * b))) ∧ w = w' :=
  rmul10n a.1 b.1 w a.2 b.2
set_option maxHeartbeats 800000 in
set_option maxRecDepth 100000 in
theorem rinv11 (a : G) (w : World) : Calls Try.prog 49 #[.int .u8 (gi a)] w fun e w' => e = .returned (.int .u8 (gi (inv a))) ∧ w = w' := by
  obtain ⟨r, Hr⟩ : ∃ r, Hid (gi (inv a) = r) := ⟨_, ⟨rfl⟩⟩
  rw [Hr.out]
  obtain ⟨x, Hx⟩ : ∃ r, Hid (gi a = r) := ⟨_, ⟨rfl⟩⟩
  rw [Hx.out]
  go_enter Try.func49, Try.ntmps49
  go_wp2
  go_loop [3] (fun s3 => ∃ i : Nat, i ≤ 256 ∧ s3 = .int .i64 i ∧ Hid (∀ b : G, a * b = 1 → i ≤ b.1)) (fun s3 => 256 - (intOf s3).toNat)
  case atStart => exact ⟨0, Nat.zero_le _, rfl, ⟨fun _ _ => Nat.zero_le _⟩⟩
  case round =>
    obtain ⟨i, hi, rfl, HI⟩ := hrel
    by_cases hlt : i < 256
    · have hc : Calls Try.prog 41 #[.int .u8 x, .int .u8 i] w fun e w' => e = .returned (.int .u8 (gi (a * ge i hlt))) ∧ w = w' := by
        have := rmul10 a (ge i hlt) w
        rwa [Hx.out] at this
      by_cases h1 : a * ge i hlt = 1
      · have HR : Hid ((i : Int) = r) := ⟨by rw [← Hr.out, ← inv_only h1]; rfl⟩
        rw [h1] at hc
        have hc' : Calls Try.prog 41 #[.int .u8 x, .int .u8 i] w fun e w' => e = .returned (.int .u8 1) ∧ w = w' := hc
        clear hc h1
        go_wp2_with (go_at_call 41; refine hc'.mono ?_; rintro e w' ⟨rfl, rfl⟩)
        go_ret
        exact ⟨ret_int HR.out, rfl⟩
      · obtain ⟨p, Hp⟩ : ∃ r, Hid (gi (a * ge i hlt) = r) := ⟨_, ⟨rfl⟩⟩
        rw [Hp.out] at hc
        have hne : (p == 1) = false := by
          rw [beq_eq_false_iff_ne, ← Hp.out]
          exact fun e => h1 (gi_inj e)
        have HI' : Hid (∀ b : G, a * b = 1 → i + 1 ≤ b.1) := ⟨fun b hb => by
          have h0 := HI.out b hb
          rcases Nat.lt_or_ge i b.1 with h | h
          · exact h
          · exact absurd (by rw [← hb]; congr 1; exact G.ext (by show i = b.1; omega)) h1⟩
        clear h1
        go_wp2_with (go_at_call 41; refine hc.mono ?_; rintro e w' ⟨rfl, rfl⟩)
        go_round
        case rel => exact ⟨i + 1, by omega, by go_num, HI'⟩
        case measure => simp [intOf]; omega
    · have HR : Hid (0 = r) := ⟨by
        rw [← Hr.out]
        by_cases h0 : a = 0
        · rw [h0, inv_zero]; rfl
        · exfalso
          have := HI.out (inv a) (mul_inv h0)
          have h2 := (inv a).2
          omega⟩
      go_wp2
      go_ret
      exact ⟨ret_int HR.out, rfl⟩
end Go.Proofs.Ytbdmbhpmbklaiaa
