/- The document's frac and less. -/
import Derived.Test.YtjcojpddjhjhbaaC12
import Derived.BigQuiet
namespace Go.Proofs.Ytjcojpddjhjhbaa
open Go.RowKit Go.Lib

def rr (n p : Int) : Nat → Int
  | 0 => n.tmod p
  | j + 1 => (2 * rr n p j).tmod p
def dd (n p : Int) : Nat → Int
  | 0 => n.tdiv p
  | j + 1 => (2 * rr n p j).tdiv p
def digs (n p : Int) (j : Nat) : List Int := (List.range (j + 1)).map (dd n p)
theorem digs_succ (n p : Int) (j : Nat) : digs n p (j + 1) = digs n p j ++ [dd n p (j + 1)] := by
  unfold digs
  rw [List.range_succ, List.map_append]
  rfl
theorem digs_len (n p : Int) (j : Nat) : (digs n p j).length = j + 1 := by simp [digs]
theorem digs_at (n p : Int) {j i : Nat} (h : i ≤ j) : (digs n p j).getD i 0 = dd n p i := by
  unfold digs
  simp [show i < j + 1 by omega]
theorem tparts {n p : Int} (hn : 0 ≤ n) (hp : 0 < p) : n = p * n.tdiv p + n.tmod p ∧ 0 ≤ n.tmod p ∧ n.tmod p < p := by
  refine ⟨(Int.mul_tdiv_add_tmod n p).symm, Int.tmod_nonneg _ hn, Int.tmod_lt_of_pos _ hp⟩
theorem rr_fit {n p : Int} (hn : 0 ≤ n) (hp : 0 < p) : ∀ j, 0 ≤ rr n p j ∧ rr n p j < p
  | 0 => (tparts hn hp).2
  | j + 1 => (tparts (n := 2 * rr n p j) (by have := rr_fit hn hp j; omega) hp).2
/-- The step of both, side by side. -/
theorem side {x y p q d e r s : Int} (h1 : x = p * d + r) (h2 : y = q * e + s) : x * q - y * p = p * q * (d - e) + (r * q - s * p) := by
  rw [h1, h2, Int.add_mul, Int.add_mul, Int.mul_sub]
  have e1 : p * d * q = p * q * d := by rw [Int.mul_assoc, Int.mul_comm d q, ← Int.mul_assoc]
  have e2 : q * e * p = p * q * e := by rw [Int.mul_comm (q * e) p, ← Int.mul_assoc]
  omega
theorem both {a b p q : Int} (ha : 0 ≤ a) (hb : 0 ≤ b) (hp : 0 < p) (hq : 0 < q) : ∀ j, (∀ i, i < j → dd a p i = dd b q i) → (2 : Int) ^ j * (a * q - b * p) = p * q * (dd a p j - dd b q j) + (rr a p j * q - rr b q j * p)
  | 0, _ => by
    rw [Int.pow_zero, Int.one_mul]
    exact side (tparts ha hp).1 (tparts hb hq).1
  | j + 1, h => by
    have ih := both ha hb hp hq j (fun i hi => h i (by omega))
    rw [h j (by omega), Int.sub_self, Int.mul_zero, Int.zero_add] at ih
    have fa := rr_fit ha hp j
    have fb := rr_fit hb hq j
    have s := side (tparts (n := 2 * rr a p j) (by omega) hp).1 (tparts (n := 2 * rr b q j) (by omega) hq).1
    rw [Int.pow_succ, Int.mul_comm ((2 : Int) ^ j) 2, Int.mul_assoc, ih]
    show 2 * (rr a p j * q - rr b q j * p) = p * q * ((2 * rr a p j).tdiv p - (2 * rr b q j).tdiv q) + ((2 * rr a p j).tmod p * q - (2 * rr b q j).tmod q * p)
    rw [← s, Int.mul_sub, Int.mul_assoc, Int.mul_assoc]
theorem rem_fit {a b p q : Int} (ha : 0 ≤ a) (hb : 0 ≤ b) (hp : 0 < p) (hq : 0 < q) (j : Nat) : rr a p j * q - rr b q j * p < p * q ∧ -(p * q) < rr a p j * q - rr b q j * p := by
  have fa := rr_fit ha hp j
  have fb := rr_fit hb hq j
  have h1 : rr a p j * q ≤ (p - 1) * q := Int.mul_le_mul_of_nonneg_right (by omega) (by omega)
  have h2 : rr b q j * p ≤ (q - 1) * p := Int.mul_le_mul_of_nonneg_right (by omega) (by omega)
  have h3 := Int.mul_nonneg fa.1 (show (0 : Int) ≤ q by omega)
  have h4 := Int.mul_nonneg fb.1 (show (0 : Int) ≤ p by omega)
  rw [Int.sub_mul, Int.one_mul] at h1 h2
  rw [Int.mul_comm q p] at h2
  omega
theorem pow_pos' (j : Nat) : (0 : Int) < 2 ^ j := Int.pow_pos (by decide)
theorem part_lt {a b p q : Int} (ha : 0 ≤ a) (hb : 0 ≤ b) (hp : 0 < p) (hq : 0 < q) {j : Nat} (h : ∀ i, i < j → dd a p i = dd b q i) (hd : dd a p j < dd b q j) : a * q < b * p := by
  have h1 := both ha hb hp hq j h
  have h2 := rem_fit ha hb hp hq j
  have h3 : p * q * (dd a p j - dd b q j) ≤ p * q * (-1) := Int.mul_le_mul_of_nonneg_left (by omega) (Int.le_of_lt (Int.mul_pos hp hq))
  have h4 : (2 : Int) ^ j * (a * q - b * p) < 0 := by omega
  rcases Int.lt_or_le (a * q) (b * p) with h5 | h5
  · exact h5
  · have := Int.mul_nonneg (Int.le_of_lt (pow_pos' j)) (show 0 ≤ a * q - b * p by omega)
    omega
theorem all_same {a b p q : Int} (ha : 0 ≤ a) (hb : 0 ≤ b) (hp : 0 < p) (hq : 0 < q) (hp2 : p ≤ 32768) (hq2 : q ≤ 32768) (h : ∀ i, i < 121 → dd a p i = dd b q i) : a * q = b * p := by
  have h1 := both ha hb hp hq 120 (fun i hi => h i (by omega))
  rw [h 120 (by decide), Int.sub_self, Int.mul_zero, Int.zero_add] at h1
  have h2 := rem_fit ha hb hp hq 120
  have h3 := (prod_fit (Int.le_of_lt hp) hp2 (Int.le_of_lt hq) hq2).2
  have h4 : (2 : Int) ^ 120 = 1329227995784915872903807060280344576 := by decide
  rw [h4] at h1
  omega
section
variable {w : World}
set_option maxHeartbeats 8000000 in
set_option maxRecDepth 100000 in
theorem frac32 (n p : Int) (hn : 0 ≤ n ∧ n ≤ 32768) (hp : 1 ≤ p ∧ p ≤ 32768) : Calls Try.prog 32 #[.int .i64 n, .int .i64 p] w fun e w' => ∃ x, e = .returned x ∧ OwnI w' w.heap.size x (digs n p 120) ∧ Below w.heap.size w w' := by
  have Hf := Hid.mk (fun j => rr_fit (n := n) (p := p) hn.1 (by omega) j)
  have hpz : ¬ p = 0 := by omega
  have hpm : ¬ p = -1 := by omega
  have HO0 : Hid (OwnI (w.alloc (.cells #[.int .i64 (n.tdiv p)] 3)) w.heap.size (.slice (some ⟨w.heap.size, 0, none⟩) 1 1) (digs n p 0)) := ⟨by
    refine ⟨rfl, .inr ⟨w.heap.size, 1, #[.int .i64 (n.tdiv p)], rfl, Nat.le_refl _, heap_alloc_new w _, Nat.le_refl _, by decide, rfl, rfl⟩⟩⟩
  have hd0 := tparts (n := n) (p := p) hn.1 (by omega)
  have hdn : 0 ≤ n.tdiv p ∧ n.tdiv p ≤ 32768 := ⟨Int.tdiv_nonneg hn.1 (by omega), Int.le_trans (Int.tdiv_le_self _ hn.1) hn.2⟩
  have Hr0 : Hid (n.tmod p = rr n p 0) := ⟨rfl⟩
  obtain ⟨d0, Hd0⟩ : ∃ z, Hid (n.tdiv p = z) := ⟨_, ⟨rfl⟩⟩
  obtain ⟨r0, Hr0'⟩ : ∃ z, Hid (n.tmod p = z) := ⟨_, ⟨rfl⟩⟩
  have q1 := Hd0.out
  have q2 := Hr0'.out
  rw [q1] at HO0 hdn
  rw [q2] at Hr0
  have hr0 : 0 ≤ r0 ∧ r0 < p := by rw [← q2]; exact hd0.2
  clear hd0
  go_enter Try.func32, Try.ntmps32
  go_wp2_with fail
  go_loopg [0, 5, 6] 120 (fun gg s0' s5 s6 wr => ∃ i : Nat, ∃ r : Int, i ≤ 120 ∧ 120 - i ≤ gg ∧ s6 = .int .i64 (i : Int) ∧ s0' = .int .i64 r ∧ Hid (r = rr n p i) ∧ Hid (OwnI wr w.heap.size s5 (digs n p i)) ∧ Hid (Below w.heap.size w wr))
  case atStart => exact ⟨0, r0, Nat.zero_le _, by omega, rfl, rfl, Hr0, HO0, ⟨(Below.refl _ w).alloc (Nat.le_refl _) _⟩⟩
  case round =>
    clear HO0 Hr0
    obtain ⟨i, r, hi, hgg, rfl, rfl, Hr, HO, HB⟩ := hrel
    rename World => wo
    obtain ⟨a5, c5, e5, _⟩ := HO.out.shape
    subst e5
    have Hl : Hid ((digs n p i).length = i + 1) := ⟨digs_len n p i⟩
    obtain ⟨DG, HDG⟩ : ∃ z, Hid (digs n p i = z) := ⟨_, ⟨rfl⟩⟩
    rw [HDG.out] at HO Hl
    rw [HDG.out]
    obtain ⟨dl, Hdl⟩ : ∃ z, Hid (DG.length = z) := ⟨_, ⟨rfl⟩⟩
    rw [Hdl.out] at HO ⊢
    by_cases hlt : i < 120
    · have hltz : (i : Int) < 120 := by omega
      have hrf : 0 ≤ r ∧ r < p := by rw [Hr.out]; exact Hf.out i
      have tp := tparts (n := 2 * r) (p := p) (by omega) (by omega)
      have hdq : 0 ≤ (2 * r).tdiv p ∧ (2 * r).tdiv p ≤ 65536 := ⟨Int.tdiv_nonneg (by omega) (by omega), by have := Int.tdiv_le_self (a := 2 * r) p (by omega); omega⟩
      have Hrn : Hid ((2 * r).tmod p = rr n p (i + 1)) := ⟨by rw [Hr.out]; rfl⟩
      have Hdn : Hid (digs n p (i + 1) = DG ++ [(2 * r).tdiv p]) := ⟨by rw [digs_succ, HDG.out, Hr.out]; rfl⟩
      obtain ⟨d1, Hd1⟩ : ∃ z, Hid ((2 * r).tdiv p = z) := ⟨_, ⟨rfl⟩⟩
      obtain ⟨r1, Hr1⟩ : ∃ z, Hid ((2 * r).tmod p = z) := ⟨_, ⟨rfl⟩⟩
      have k1 := Hd1.out
      have k2 := Hr1.out
      rw [k1] at Hdn hdq
      rw [k2] at Hrn
      have hrf1 : 0 ≤ r1 ∧ r1 < p := by rw [← k2]; exact tp.2
      clear tp
      have hl6 : DG.length ≤ 6000000000000 := by rw [Hl.out]; omega
      have hb6 : w.heap.size ≤ wo.heap.size := HB.out.size
      go_wp2_with (refine wp_appI1 rfl (.tmp 20) (.tmp 24) rfl rfl HO.out rfl hl6 hb6 ?_; intro v7 w7 hO7 hG7 hV7)
      have HO7 : Hid (OwnI w7 w.heap.size v7 (digs n p (i + 1))) := ⟨by rw [Hdn.out]; exact hO7⟩
      have HG7 : Hid (Chg (ob (.slice a5 dl c5)) wo w7) := ⟨hG7⟩
      have HB7 : Hid (Below w.heap.size w w7) := ⟨HB.out.trans (HG7.out.below HB.out.size (fun x hx => (HO.out.lt x (mem_ob.1 hx)).1))⟩
      clear hO7 hG7 hV7
      go_roundg (120 - (i + 1))
      case measure => omega
      case rel => exact ⟨i + 1, r1, by omega, by omega, by go_num, rfl, Hrn, HO7, HB7⟩
    · obtain rfl : i = 120 := by omega
      have HOf : Hid (OwnI wo w.heap.size (.slice a5 dl c5) (digs n p 120)) := ⟨by rw [HDG.out]; exact HO.out⟩
      go_wp2_with fail
      go_ret
      exact ⟨_, rfl, HOf.out, HB.out⟩
end
end Go.Proofs.Ytjcojpddjhjhbaa
