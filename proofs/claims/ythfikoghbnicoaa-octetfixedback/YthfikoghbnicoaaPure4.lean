/- Numbers of one width stand in the order of their bytes; TakeFixed of Fixed. -/
import Derived.Test.YthfikoghbnicoaaPure3
import Derived.Laws.BytesArg
import Derived.Lib.Strings
import GoSem.Op.String
namespace Go.Proofs.Ythfikoghbnicoaa

theorem digit_lt (P a b r s : Nat) (hr : r < P) (hs : s < P) : (a < b ∨ (a = b ∧ r < s)) ↔ r + P * a < s + P * b := by
  constructor
  · rintro (h | ⟨rfl, h⟩)
    · have : P * (a + 1) ≤ P * b := Nat.mul_le_mul_left _ h
      rw [Nat.mul_add] at this
      omega
    · omega
  · intro h
    rcases Nat.lt_trichotomy a b with q | q | q
    · exact .inl q
    · subst q; exact .inr ⟨rfl, by omega⟩
    · exfalso
      have : P * (b + 1) ≤ P * a := Nat.mul_le_mul_left _ q
      rw [Nat.mul_add] at this
      omega

theorem less_fix (m n : Nat) : ∀ W, Op.bytesLess ((fixB m W).map fun x => UInt8.ofNat x.toNat) ((fixB n W).map fun x => UInt8.ofNat x.toNat) = decide (m % 256 ^ W < n % 256 ^ W) := by
  intro W
  induction W with
  | zero => simp [fixB, Op.bytesLess, Nat.mod_one]
  | succ W ih =>
    simp only [fixB, List.map_cons, Op.bytesLess, ih]
    rw [Bool.eq_iff_iff]
    have hP : 0 < 256 ^ W := Nat.pow_pos (by decide)
    have hm : m % 256 ^ (W + 1) = m % 256 ^ W + 256 ^ W * (m / 256 ^ W % 256) := by rw [Nat.pow_succ, Nat.mod_mul]
    have hn : n % 256 ^ (W + 1) = n % 256 ^ W + 256 ^ W * (n / 256 ^ W % 256) := by rw [Nat.pow_succ, Nat.mod_mul]
    have key := digit_lt (256 ^ W) (m / 256 ^ W % 256) (n / 256 ^ W % 256) (m % 256 ^ W) (n % 256 ^ W) (Nat.mod_lt _ hP) (Nat.mod_lt _ hP)
    rw [hm, hn, decide_eq_true_eq, ← key]
    have ea : ((m / 256 ^ W % 256 : Nat) : Int).toNat = m / 256 ^ W % 256 := by omega
    have eb : ((n / 256 ^ W % 256 : Nat) : Int).toNat = n / 256 ^ W % 256 := by omega
    have ha : m / 256 ^ W % 256 < 256 := Nat.mod_lt _ (by decide)
    have hb : n / 256 ^ W % 256 < 256 := Nat.mod_lt _ (by decide)
    simp only [ea, eb, Bool.or_eq_true, Bool.and_eq_true, decide_eq_true_eq, beq_iff_eq]
    generalize m / 256 ^ W % 256 = A at *
    generalize n / 256 ^ W % 256 = B at *
    have e1 : UInt8.ofNat A < UInt8.ofNat B ↔ A < B := by
      rw [UInt8.lt_iff_toNat_lt, UInt8.toNat_ofNat', UInt8.toNat_ofNat']; omega
    have e2 : UInt8.ofNat A = UInt8.ofNat B ↔ A = B := by
      rw [← UInt8.toNat_inj, UInt8.toNat_ofNat', UInt8.toNat_ofNat']; omega
    rw [e1, e2]

/-- As strings: in the numbers' order. -/
theorem str_less (m n W : Nat) (hm : m / 256 ^ W = 0) (hn : n / 256 ^ W = 0) : Op.bytesLess (strOfNums (fixB m W)).toList (strOfNums (fixB n W)).toList = decide ((m : Int) < n) := by
  have hP : 0 < 256 ^ W := Nat.pow_pos (by decide)
  have e1 : m % 256 ^ W = m := Nat.mod_eq_of_lt (by rcases Nat.div_eq_zero_iff.1 hm with h | h <;> omega)
  have e2 : n % 256 ^ W = n := Nat.mod_eq_of_lt (by rcases Nat.div_eq_zero_iff.1 hn with h | h <;> omega)
  have e3 : ∀ bs, (strOfNums bs).toList = bs.map fun x => UInt8.ofNat x.toNat := by
    intro bs
    have : (strOfNums bs).toList = (strOfNums bs).data.toList := Lib.toList_data _
    rw [this, strOfNums_data]
  rw [e3, e3, less_fix, e1, e2]
  simp

/-- TakeFixed of Fixed, whatever stands around. -/
theorem tkFix_fixB (ar r : List Int) (m W : Nat) (h1 : 1 ≤ W) (h8 : W ≤ 8) (hm : m ≤ 9007199254740991) (hz : m / 256 ^ W = 0) : tkFix (ar ++ (fixB m W ++ r)) ar.length W = ((m : Int), (ar.length : Int) + W, 0) := by
  have hlen := fixB_length m W
  have hP : 0 < 256 ^ W := Nat.pow_pos (by decide)
  have e1 : m % 256 ^ W = m := Nat.mod_eq_of_lt (by rcases Nat.div_eq_zero_iff.1 hz with h | h <;> omega)
  have e2 : (ar ++ (fixB m W ++ r)).drop ar.length = fixB m W ++ r := List.drop_left
  have e3 : (fixB m W ++ r).take W = fixB m W := by
    have := List.take_left (l₁ := fixB m W) (l₂ := r)
    rwa [hlen] at this
  have e4 : valB 0 (fixB m W) = m := by rw [valB_fixB, e1]; simp
  unfold tkFix
  rw [if_neg (by simp; omega), if_neg (by simp [hlen]; omega)]
  simp only [Int.toNat_natCast]
  rw [e2, e3, e4, if_neg (by omega)]
end Go.Proofs.Ythfikoghbnicoaa
