/- Products by doubling: field.double, field.Mul. -/
import Derived.Test.YtbdmbhpmbklaiaaBytes
import Derived.Test.YtbdmbhpmbklaiaaMgf
namespace Go.Proofs.Ytbdmbhpmbklaiaa
open Go.RowKit Gf

theorem xor_i64 (a b : Nat) (ha : a < 4294967296) (hb : b < 4294967296) : bits .xor .i64 (a : Int) (b : Int) = ((a ^^^ b : Nat) : Int) := by
  have hx : a ^^^ b < 2 ^ 32 := Nat.xor_lt_two_pow (by omega) (by omega)
  show IntKind.i64.wrap ((BitVec.ofInt 64 (a : Int) ^^^ BitVec.ofInt 64 (b : Int)).toNat : Int) = _
  have e1 : BitVec.ofInt 64 (a : Int) = BitVec.ofNat 64 a := by simp
  have e2 : BitVec.ofInt 64 (b : Int) = BitVec.ofNat 64 b := by simp
  rw [e1, e2, BitVec.toNat_xor, BitVec.toNat_ofNat, BitVec.toNat_ofNat, Nat.mod_eq_of_lt (by omega), Nat.mod_eq_of_lt (by omega)]
  exact IntWalk.i64_in _ ⟨by omega, by omega⟩
theorem xor_u8 (a b : Nat) (ha : a < 256) (hb : b < 256) : bits .xor .u8 (a : Int) (b : Int) = ((a ^^^ b : Nat) : Int) := by
  have hx : a ^^^ b < 2 ^ 8 := Nat.xor_lt_two_pow (by omega) (by omega)
  show IntKind.u8.wrap ((BitVec.ofInt 8 (a : Int) ^^^ BitVec.ofInt 8 (b : Int)).toNat : Int) = _
  have e1 : BitVec.ofInt 8 (a : Int) = BitVec.ofNat 8 a := by simp
  have e2 : BitVec.ofInt 8 (b : Int) = BitVec.ofNat 8 b := by simp
  rw [e1, e2, BitVec.toNat_xor, BitVec.toNat_ofNat, BitVec.toNat_ofNat, Nat.mod_eq_of_lt (by omega), Nat.mod_eq_of_lt (by omega)]
  exact IntWalk.u8_in _ ⟨by omega, by omega⟩
theorem and1_u8 (a : Nat) (ha : a < 256) : bits .and .u8 (a : Int) 1 = ((a % 2 : Nat) : Int) := by
  show IntKind.u8.wrap ((BitVec.ofInt 8 (a : Int) &&& BitVec.ofInt 8 1).toNat : Int) = _
  have e1 : BitVec.ofInt 8 (a : Int) = BitVec.ofNat 8 a := by simp
  have e2 : BitVec.ofInt 8 1 = BitVec.ofNat 8 1 := by rfl
  rw [e1, e2, BitVec.toNat_and, BitVec.toNat_ofNat, BitVec.toNat_ofNat, Nat.mod_eq_of_lt (by omega)]
  have : a &&& 1 % 2 ^ 8 = a % 2 := by rw [show 1 % 2 ^ 8 = 1 from rfl, Nat.and_one_is_mod]
  rw [this]
  exact IntWalk.u8_in _ ⟨by omega, by omega⟩
theorem bit_u8 (m r : Nat) (hm : m < 256) : (bits .and .u8 ((m : Int) / 2 ^ r) 1 == 1) = m.testBit r := by
  have e : (m : Int) / 2 ^ r = ((m / 2 ^ r : Nat) : Int) := by simp
  rw [e, and1_u8 _ (Nat.lt_of_le_of_lt (Nat.div_le_self _ _) hm), Nat.testBit_eq_decide_div_mod_eq]
  by_cases hz : m / 2 ^ r % 2 = 1
  · rw [hz]; rfl
  · rw [decide_eq_false hz, beq_eq_false_iff_ne]; omega
theorem ret_int {k : IntKind} {a b : Int} (h : a = b) : Ending.returned (.int k a) = .returned (.int k b) := by rw [h]
set_option maxHeartbeats 400000 in
set_option maxRecDepth 100000 in
theorem double23 (s : Nat) (w : World) (hs : s < 256) : Calls Try.prog 54 #[.int .i64 s] w fun e w' => e = .returned (.int .i64 (dbl s : Nat)) ∧ w = w' := by
  obtain ⟨r, Hr⟩ : ∃ r, Hid (dbl s = r) := ⟨_, ⟨rfl⟩⟩
  rw [Hr.out]
  by_cases h : 256 ≤ s * 2
  · have HX : Hid (bits .xor .i64 ((s : Int) * 2) 285 = r) := ⟨by
      have := xor_i64 (s * 2) 285 (by omega) (by decide)
      rw [← Hr.out, dbl, if_pos h]
      simpa using this⟩
    go_enter Try.func54, Try.ntmps54
    go_wp2
    go_ret
    exact ⟨ret_int HX.out, rfl⟩
  · have HX : Hid ((s : Int) * 2 = r) := ⟨by rw [← Hr.out, dbl, if_neg h]; simp⟩
    go_enter Try.func54, Try.ntmps54
    go_wp2
    go_ret
    exact ⟨ret_int HX.out, rfl⟩
set_option maxHeartbeats 800000 in
set_option maxRecDepth 100000 in
theorem mul13n (a b : Nat) (w : World) (ha : a < 256) (hb : b < 256) : Calls Try.prog 48 #[.int .u8 a, .int .u8 b] w fun e w' => e = .returned (.int .u8 (gm a b : Nat)) ∧ w = w' := by
  obtain ⟨r, Hr⟩ : ∃ r, Hid (gm a b = r) := ⟨_, ⟨rfl⟩⟩
  rw [Hr.out]
  go_enter Try.func48, Try.ntmps48
  go_wp2
  go_loop [5, 6, 10] (fun s5 s6 s10 => ∃ i : Nat, i ≤ 8 ∧ s10 = .int .i64 i ∧ s5 = .int .i64 (shf a i : Nat) ∧ s6 = .int .i64 (alf a b i : Nat)) (fun _ _ s10 => 8 - (intOf s10).toNat)
  case atStart => exact ⟨0, Nat.zero_le _, rfl, rfl, rfl⟩
  case round =>
    obtain ⟨i, hi, rfl, rfl, rfl⟩ := hrel
    have h1 := shf_lt ha i
    have h2 := alf_lt ha b i
    by_cases hlt : i < 8
    · have t1 := bit_u8 b i hb
      have HA : Hid (alf a b (i + 1) = if b.testBit i then alf a b i ^^^ shf a i else alf a b i) := ⟨rfl⟩
      have HS : Hid (shf a (i + 1) = dbl (shf a i)) := ⟨rfl⟩
      obtain ⟨s, Hs⟩ : ∃ s, Hid (shf a i = s) := ⟨_, ⟨rfl⟩⟩
      obtain ⟨al, Hal⟩ : ∃ s, Hid (alf a b i = s) := ⟨_, ⟨rfl⟩⟩
      rw [Hs.out] at h1 HA HS ⊢
      rw [Hal.out] at h2 HA ⊢
      cases hbit : b.testBit i with
      | true =>
        have t2 : (bits .and .u8 ((b : Int) / 2 ^ i) 1 == 1) = true := by rw [t1, hbit]
        have HX := Hid.mk (xor_i64 al s (by omega) (by omega))
        rw [hbit] at HA
        clear t1 hbit
        go_wp2_with (go_at_call 54; refine (double23 _ _ h1).mono ?_; rintro e w' ⟨rfl, rfl⟩)
        go_round
        case rel => exact ⟨i + 1, by omega, by go_num, by rw [HS.out], by rw [HA.out, HX.out]; rfl⟩
        case measure => simp [intOf]; omega
      | false =>
        have t2 : (bits .and .u8 ((b : Int) / 2 ^ i) 1 == 1) = false := by rw [t1, hbit]
        rw [hbit] at HA
        clear t1 hbit
        go_wp2_with (go_at_call 54; refine (double23 _ _ h1).mono ?_; rintro e w' ⟨rfl, rfl⟩)
        go_round
        case rel => exact ⟨i + 1, by omega, by go_num, by rw [HS.out], by rw [HA.out]; rfl⟩
        case measure => simp [intOf]; omega
    · obtain rfl : i = 8 := by omega
      have HA := Hid.mk (alf_gm ha hb)
      rw [HA.out, Hr.out] at h2 ⊢
      go_wp2
      go_ret
      exact ⟨rfl, rfl⟩
/-- An element, as a byte's number. -/
def gi (x : G) : Int := (x.1 : Int)
theorem gi_lo (x : G) : 0 ≤ gi x := by unfold gi; omega
theorem gi_hi (x : G) : gi x < 256 := by unfold gi; have := x.2; omega
theorem gi_inj {x y : G} (h : gi x = gi y) : x = y := G.ext (by unfold gi at h; omega)
theorem gi_eq (x y : G) : (gi x == gi y) = decide (x = y) := by
  by_cases h : x = y
  · subst h; simp
  · rw [decide_eq_false h, beq_eq_false_iff_ne]; exact fun e => h (gi_inj e)
theorem gi_xor (a b : G) : bits .xor .u8 (gi a) (gi b) = gi (a + b) := xor_u8 _ _ a.2 b.2
theorem mul13 (a b : G) (w : World) : Calls Try.prog 48 #[.int .u8 (gi a), .int .u8 (gi b)] w fun e w' => e = .returned (.int .u8 (gi (a * b))) ∧ w = w' :=
  mul13n a.1 b.1 w a.2 b.2
end Go.Proofs.Ytbdmbhpmbklaiaa
