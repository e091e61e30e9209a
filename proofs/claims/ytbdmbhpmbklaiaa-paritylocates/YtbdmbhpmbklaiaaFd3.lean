/- Powers: the factor at a bit, products that a function tells. -/
import Derived.Test.YtbdmbhpmbklaiaaFd2
import Derived.BigQuiet
import Derived.Deep.QuietTactic
namespace Go.Proofs.Ytbdmbhpmbklaiaa
open Go.RowKit Gf

theorem and1_i64 (a : Nat) (ha : a < 9223372036854775808) : bits .and .i64 (a : Int) 1 = ((a % 2 : Nat) : Int) := by
  show IntKind.i64.wrap ((BitVec.ofInt 64 (a : Int) &&& BitVec.ofInt 64 1).toNat : Int) = _
  have e1 : BitVec.ofInt 64 (a : Int) = BitVec.ofNat 64 a := by simp
  have e2 : BitVec.ofInt 64 1 = BitVec.ofNat 64 1 := by rfl
  rw [e1, e2, BitVec.toNat_and, BitVec.toNat_ofNat, BitVec.toNat_ofNat, Nat.mod_eq_of_lt (by omega)]
  have : a &&& 1 % 2 ^ 64 = a % 2 := by rw [show 1 % 2 ^ 64 = 1 from rfl, Nat.and_one_is_mod]
  rw [this]
  exact IntWalk.i64_in _ ⟨by omega, by omega⟩
theorem bit_i64 (m r : Nat) (hm : m < 9223372036854775808) : (bits .and .i64 ((m : Int) / 2 ^ r) 1 == 1) = m.testBit r := by
  have e : (m : Int) / 2 ^ r = ((m / 2 ^ r : Nat) : Int) := by simp
  rw [e, and1_i64 _ (Nat.lt_of_le_of_lt (Nat.div_le_self _ _) hm), Nat.testBit_eq_decide_div_mod_eq]
  by_cases hz : m / 2 ^ r % 2 = 1
  · rw [hz]; rfl
  · rw [decide_eq_false hz, beq_eq_false_iff_ne]; omega
section
variable {w : World}
/-- A block of one cell. -/
def One (w : World) (b : Nat) (v : Value) (t : TypeId) : Prop := w.heap[b]? = some (.cells #[v] t (0, 0))
theorem One.lt {b : Nat} {v : Value} {t : TypeId} (h : One w b v t) : b < w.heap.size := (Array.getElem?_eq_some_iff.1 h).1
theorem One.far {w' : World} {X : List Nat} {b : Nat} {v : Value} {t : TypeId} (h : One w b v t) (hc : Chg X w w') (hx : b ∉ X) : One w' b v t := (hc.block b h.lt hx).trans h
set_option maxHeartbeats 800000 in
set_option maxRecDepth 100000 in
theorem pow26 {bn bs : Nat} (n i : Nat) (s : G) (hn : One w bn (.int .i64 n) 3) (hs : One w bs (.int .u8 (gi s)) 5) (hb : n < 9223372036854775808) (hi : i < 64) :
    Calls Try.prog 59 #[.int .i64 i, .pointer (some ⟨bn, 0, none⟩), .pointer (some ⟨bs, 0, none⟩)] w fun e w' => e = .returned (.int .u8 (gi (if n.testBit i then s else 1))) ∧ One w' bs (.int .u8 (gi (s * s))) 5 ∧ Chg [bs] w w' := by
  have c1 := cell_of_one hn
  have c2 := cell_of_one hs
  have f2 := free_of_one hs
  have t1 := bit_i64 n i hb
  have HN := Hid.mk hn
  have HS := Hid.mk hs
  clear hn hs
  obtain ⟨x, Hx⟩ : ∃ x, Hid (gi s = x) := ⟨_, ⟨rfl⟩⟩
  obtain ⟨y, Hy⟩ : ∃ x, Hid (gi (s * s) = x) := ⟨_, ⟨rfl⟩⟩
  have hm : ∀ w, Calls Try.prog 48 #[.int .u8 x, .int .u8 x] w fun e w' => e = .returned (.int .u8 y) ∧ w = w' := fun w => by
    have := mul13 s s w
    rwa [Hx.out, Hy.out] at this
  rw [Hx.out] at c2
  rw [Hy.out]
  cases hbit : n.testBit i with
  | true =>
    rw [if_pos rfl, Hx.out]
    have t2 : (bits .and .i64 ((n : Int) / 2 ^ i) 1 == 1) = true := by rw [t1, hbit]
    clear t1 hbit
    go_enter Try.func59, Try.ntmps59
    go_wp2_with (go_at_call 48; refine (hm _).mono ?_; rintro e w' ⟨rfl, rfl⟩)
    go_ret
    exact ⟨rfl, one_setCell HS.out, (Chg.refl _ _).setCell (.inl (by simp)) _⟩
  | false =>
    rw [if_neg (by decide)]
    have t2 : (bits .and .i64 ((n : Int) / 2 ^ i) 1 == 1) = false := by rw [t1, hbit]
    clear t1 hbit
    go_enter Try.func59, Try.ntmps59
    go_wp2_with (go_at_call 48; refine (hm _).mono ?_; rintro e w' ⟨rfl, rfl⟩)
    go_ret
    exact ⟨rfl, one_setCell HS.out, (Chg.refl _ _).setCell (.inl (by simp)) _⟩
theorem pf_bit (a : G) (n i : Nat) : pf a n i = if n.testBit i then gpw a (2 ^ i) else 1 := rfl
set_option maxHeartbeats 1600000 in
set_option maxRecDepth 100000 in
theorem prod_pow {bn bs : Nat} (n k : Nat) (a : G) (hn : One w bn (.int .i64 n) 3) (hs : One w bs (.int .u8 (gi a)) 5) (hb : n < 9223372036854775808) (hk : k ≤ 64) (hne : bn ≠ bs) :
    Calls Try.prog 51 #[.int .i64 k, .func (.func 59) #[] #[.pointer (some ⟨bn, 0, none⟩), .pointer (some ⟨bs, 0, none⟩)]] w fun e w' => e = .returned (.int .u8 (gi (prd (pf a n) k))) ∧ Chg [bs] w w' := by
  obtain ⟨r, Hr⟩ : ∃ r, Hid (gi (prd (pf a n) k) = r) := ⟨_, ⟨rfl⟩⟩
  rw [Hr.out]
  have HN := Hid.mk hn
  have HS : Hid (One w bs (.int .u8 (gi (gpw a (2 ^ 0)))) 5) := ⟨by rw [Nat.pow_zero, gpw_one]; exact hs⟩
  have HNE := Hid.mk hne
  clear hn hs hne
  go_enter Try.func51, Try.ntmps51
  go_wp2_with fail
  go_loopg [5, 8] k (fun gg s5 s8 wr => ∃ i : Nat, i ≤ k ∧ k - i ≤ gg ∧ s8 = .int .i64 (i : Int) ∧ s5 = .int .u8 (gi (prd (pf a n) i)) ∧ Hid (One wr bn (.int .i64 n) 3) ∧ Hid (One wr bs (.int .u8 (gi (gpw a (2 ^ i)))) 5) ∧ Hid (Chg [bs] w wr))
  case atStart => exact ⟨0, Nat.zero_le _, by omega, rfl, rfl, HN, HS, ⟨Chg.refl _ _⟩⟩
  case round =>
    clear HN HS
    obtain ⟨i, hi, hgg, rfl, rfl, HN, HS, HC⟩ := hrel
    rename World => wo
    by_cases hlt : i < k
    · have hltz : (i : Int) < (k : Int) := by omega
      have t1 := pow26 n i (gpw a (2 ^ i)) HN.out HS.out hb (by omega)
      rw [← pf_bit, sq_gpw] at t1
      have t2 := fun w => mul13 (prd (pf a n) i) (pf a n i) w
      have HP : Hid (prd (pf a n) (i + 1) = prd (pf a n) i * pf a n i) := ⟨rfl⟩
      rw [← HP.out] at t2
      have HW : Hid (2 * 2 ^ i = 2 ^ (i + 1)) := ⟨by rw [Nat.pow_succ]; omega⟩
      rw [HW.out] at t1
      obtain ⟨x, Hx⟩ : ∃ r, Hid (gi (prd (pf a n) i) = r) := ⟨_, ⟨rfl⟩⟩
      obtain ⟨y, Hy⟩ : ∃ r, Hid (gi (pf a n i) = r) := ⟨_, ⟨rfl⟩⟩
      obtain ⟨z, Hz⟩ : ∃ r, Hid (gi (prd (pf a n) (i + 1)) = r) := ⟨_, ⟨rfl⟩⟩
      rw [Hx.out, Hy.out, Hz.out] at t2
      rw [Hy.out] at t1
      rw [Hx.out]
      go_wp2_with fail
      refine t1.mono ?_
      rintro e w2 ⟨rfl, hs2, hc2⟩
      have HS2 := Hid.mk hs2
      have HC2 : Hid (Chg [bs] w w2) := ⟨HC.out.trans hc2⟩
      have HN2 : Hid (One w2 bn (.int .i64 n) 3) := ⟨HN.out.far hc2 (by simp; exact HNE.out)⟩
      clear t1 hs2 hc2
      go_wp2_with fail
      refine (t2 _).mono ?_
      rintro e w3 ⟨rfl, rfl⟩
      clear t2
      go_wp2_with fail
      go_roundg (k - (i + 1))
      case measure => omega
      case rel => exact ⟨i + 1, by omega, by omega, by go_num, by rw [Hz.out], HN2, HS2, HC2⟩
    · obtain rfl : k = i := by omega
      rw [Hr.out]
      go_wp2_with fail
      go_ret
      exact ⟨rfl, HC.out⟩
end
end Go.Proofs.Ytbdmbhpmbklaiaa
