/- Texts that part in four bytes at most have unlike check sums; so a sector in which four bytes rot is seen. -/
import Derived.Test.YtgjjjkokmgdmjaaDoorS16
namespace Go.Proofs.YtgjjjkokmgdmjaaDoor.Dg
theorem bitN_lin (a b : Nat) : bitN (a ^^^ b) = bitN a ^^^ bitN b := by
  unfold bitN
  have h1 : (a ^^^ b) % 2 = (a + b) % 2 := by
    have ht := Nat.testBit_xor a b 0
    simp only [Nat.testBit_zero] at ht
    have hab : (a + b) % 2 = (a % 2 + b % 2) % 2 := Nat.add_mod a b 2
    rw [hab]
    have hz := Nat.mod_two_eq_zero_or_one (a ^^^ b)
    generalize (a ^^^ b) % 2 = z at ht hz ⊢
    have hx := Nat.mod_two_eq_zero_or_one a
    have hy := Nat.mod_two_eq_zero_or_one b
    generalize a % 2 = x at ht hx ⊢
    generalize b % 2 = y at ht hy ⊢
    rcases hx with rfl | rfl <;> rcases hy with rfl | rfl <;> rcases hz with rfl | rfl <;> simp at ht ⊢
  have h2 : (a ^^^ b) / 2 = a / 2 ^^^ b / 2 := Nat.xor_div_two
  rw [h1, h2]
  rcases Nat.mod_two_eq_zero_or_one a with ha | ha <;> rcases Nat.mod_two_eq_zero_or_one b with hb | hb
  · rw [if_neg (by omega), if_neg (by omega), if_neg (by omega)]
  · rw [if_pos (by omega), if_neg (by omega), if_pos hb, Nat.xor_assoc]
  · rw [if_pos (by omega), if_pos ha, if_neg (by omega), Nat.xor_assoc, Nat.xor_assoc, Nat.xor_comm (b / 2)]
  · rw [if_neg (by omega), if_pos ha, if_pos hb]
    rw [Nat.xor_assoc, Nat.xor_comm 2197175160, Nat.xor_assoc, Nat.xor_self, Nat.xor_zero]
theorem bitsN_lin (k a b : Nat) : bitsN k (a ^^^ b) = bitsN k a ^^^ bitsN k b := by
  induction k with
  | zero => rfl
  | succ k ih => show bitN (bitsN k _) = _; rw [ih, bitN_lin]; rfl
theorem bitN_double (m : Nat) : bitN (2 * m) = m := by unfold bitN; rw [if_neg (by omega)]; omega
theorem bitsN_shift : ∀ (k m : Nat), bitsN k (2 ^ k * m) = m := by
  intro k
  induction k with
  | zero => intro m; simp [bitsN]
  | succ k ih => intro m; show bitN (bitsN k _) = _; rw [show 2 ^ (k + 1) * m = 2 ^ k * (2 * m) by rw [Nat.pow_succ, Nat.mul_assoc], ih, bitN_double]
theorem bitsN_add (k l r : Nat) : bitsN (k + l) r = bitsN k (bitsN l r) := by
  induction k with
  | zero => simp [bitsN]
  | succ k ih => rw [show k + 1 + l = (k + l) + 1 by omega]; show bitN (bitsN (k + l) r) = bitN _; rw [ih]

theorem split_xor (k a b : Nat) (h : b < 2 ^ k) : 2 ^ k * a ^^^ b = 2 ^ k * a + b := by
  rw [Nat.two_pow_add_eq_or_of_lt h]
  apply Nat.eq_of_testBit_eq
  intro i
  rw [Nat.testBit_xor, Nat.testBit_or, Nat.testBit_two_pow_mul]
  by_cases hi : k ≤ i
  · rw [Nat.testBit_lt_two_pow (Nat.lt_of_lt_of_le h (Nat.pow_le_pow_right (by decide) hi))]; simp
  · simp [hi]

/-- The nibbles. -/
def nibT (k : Nat) : Nat := [0, 274646895, 549293790, 820201905, 1098587580, 1361435347, 1640403810, 1905808397, 2197175160, 2460548119, 2722870694, 2987750089, 3280807620, 3553878443, 3811616794, 4084100981].getD k 0
theorem nibT_bits : ∀ k : Fin 16, bitsN 4 k.val = nibT k.val := by decide
theorem nibT_lt (k : Nat) : nibT k < 4294967296 := by
  rcases Nat.lt_or_ge k 16 with h | h
  · have : ∀ k : Fin 16, nibT k.val < 4294967296 := by decide
    exact this ⟨k, h⟩
  · have : nibT k = 0 := by unfold nibT; rw [List.getD_eq_getElem?_getD, List.getElem?_eq_none (by simpa using h)]; rfl
    rw [this]; decide
theorem nib_bits (r : Nat) : nibN nibT r = bitsN 4 r := by
  have e : r = 2 ^ 4 * (r / 16) ^^^ r % 16 := by rw [split_xor 4 _ _ (by omega)]; omega
  have : bitsN 4 r = bitsN 4 (2 ^ 4 * (r / 16)) ^^^ bitsN 4 (r % 16) := by rw [← bitsN_lin, ← e]
  rw [this, bitsN_shift, nibT_bits ⟨r % 16, by omega⟩]
  rfl
theorem crcB_ref (r x : Nat) : crcB nibT r x = refB r x := by
  unfold crcB refB
  rw [nib_bits, nib_bits, ← bitsN_add]
theorem crcM_ref (sum : Nat) (p : List Nat) : crcM nibT sum p = refM sum p := by
  unfold crcM refM
  have : crcB nibT = refB := by funext r x; exact crcB_ref r x
  rw [this]
theorem xor_back (a b : Nat) : a ^^^ (a ^^^ b) = b := by rw [← Nat.xor_assoc, Nat.xor_self, Nat.zero_xor]
theorem bitsN_lt (k r : Nat) (hr : r < 4294967296) : bitsN k r < 4294967296 := by
  induction k with
  | zero => exact hr
  | succ k ih => exact bitN_lt _ ih

theorem xor_cancel {a b c : Nat} (h : a ^^^ b = a ^^^ c) : b = c := by
  have := congrArg (a ^^^ ·) h
  simpa [← Nat.xor_assoc] using this
theorem xor_cancel_right {a b c : Nat} (h : b ^^^ a = c ^^^ a) : b = c := by
  rw [Nat.xor_comm b, Nat.xor_comm c] at h
  exact xor_cancel h

theorem bitN_inj {a b : Nat} (ha : a < 4294967296) (hb : b < 4294967296) (h : bitN a = bitN b) : a = b := by
  have key : ∀ x y : Nat, x < 4294967296 → y < 4294967296 → (x / 2) ^^^ 2197175160 ≠ y / 2 := by
    intro x y hx hy e
    have h1 : (x / 2) ^^^ (y / 2) = 2197175160 := by rw [← e, xor_back]
    have h2 : (x / 2) ^^^ (y / 2) < 2 ^ 31 := Nat.xor_lt_two_pow (by omega) (by omega)
    rw [h1] at h2
    exact absurd h2 (by decide)
  unfold bitN at h
  by_cases h1 : a % 2 = 1 <;> by_cases h2 : b % 2 = 1
  · rw [if_pos h1, if_pos h2] at h
    have := xor_cancel_right h
    omega
  · rw [if_pos h1, if_neg h2] at h
    exact absurd h (key a b ha hb)
  · rw [if_neg h1, if_pos h2] at h
    exact absurd h.symm (key b a hb ha)
  · rw [if_neg h1, if_neg h2] at h
    omega

theorem bitsN_inj (k : Nat) : ∀ {a b : Nat}, a < 4294967296 → b < 4294967296 → bitsN k a = bitsN k b → a = b := by
  induction k with
  | zero => intro a b _ _ h; exact h
  | succ k ih => intro a b ha hb h; exact ih ha hb (bitN_inj (bitsN_lt k a ha) (bitsN_lt k b hb) h)

/-- The number that bytes make, the first the lowest. -/
def wordN : List Nat → Nat
  | [] => 0
  | x :: xs => x + 256 * wordN xs

theorem fold_word : ∀ (m : List Nat) (r : Nat), (∀ x ∈ m, x < 256) → m.foldl refB r = bitsN (8 * m.length) (r ^^^ wordN m) := by
  intro m
  induction m with
  | nil => intro r _; simp [bitsN, wordN]
  | cons x xs ih =>
    intro r h
    rw [List.foldl_cons, ih _ (fun y hy => h y (by simp [hy]))]
    have e1 : wordN xs = bitsN 8 (2 ^ 8 * wordN xs) := (bitsN_shift 8 _).symm
    have e2 : r ^^^ wordN (x :: xs) = (r ^^^ x) ^^^ (2 ^ 8 * wordN xs) := by
      have := split_xor 8 (wordN xs) x (h x (by simp))
      rw [Nat.xor_assoc, Nat.xor_comm x, this]
      show r ^^^ (x + 256 * wordN xs) = _
      rw [Nat.add_comm]
    unfold refB
    rw [e2, List.length_cons, show 8 * (xs.length + 1) = 8 * xs.length + 8 by omega, bitsN_add, bitsN_lin 8 (r ^^^ x) (2 ^ 8 * wordN xs), ← e1]

theorem wordN_lt : ∀ (m : List Nat), (∀ x ∈ m, x < 256) → wordN m < 256 ^ m.length := by
  intro m
  induction m with
  | nil => intro _; simp [wordN]
  | cons x xs ih =>
    intro h
    have h1 := ih (fun y hy => h y (by simp [hy]))
    have h2 := h x (by simp)
    show x + 256 * wordN xs < 256 ^ (xs.length + 1)
    rw [Nat.pow_succ]
    omega

theorem wordN_inj : ∀ (m m' : List Nat), m.length = m'.length → (∀ x ∈ m, x < 256) → (∀ x ∈ m', x < 256) → wordN m = wordN m' → m = m' := by
  intro m
  induction m with
  | nil => intro m' hl _ _ _; exact (List.eq_nil_of_length_eq_zero hl.symm).symm
  | cons x xs ih =>
    intro m' hl h h' e
    match m', hl with
    | y :: ys, hl =>
      have hx := h x (by simp)
      have hy := h' y (by simp)
      have e' : x + 256 * wordN xs = y + 256 * wordN ys := e
      have e1 : x = y := by omega
      have e2 : wordN xs = wordN ys := by omega
      rw [e1, ih ys (by simpa using hl) (fun z hz => h z (by simp [hz])) (fun z hz => h' z (by simp [hz])) e2]

theorem refB_lt (r x : Nat) (hr : r < 4294967296) (hx : x < 256) : refB r x < 4294967296 := bitsN_lt 8 _ (xor_lt _ _ hr (by omega))
theorem fold_lt : ∀ (p : List Nat) (r : Nat), r < 4294967296 → (∀ x ∈ p, x < 256) → p.foldl refB r < 4294967296 := by
  intro p
  induction p with
  | nil => intro r hr _; exact hr
  | cons x xs ih => intro r hr hb; exact ih _ (refB_lt r x hr (hb x (by simp))) (fun y hy => hb y (by simp [hy]))
theorem fold_inj : ∀ (z : List Nat) (r r' : Nat), r < 4294967296 → r' < 4294967296 → (∀ x ∈ z, x < 256) → z.foldl refB r = z.foldl refB r' → r = r' := by
  intro z
  induction z with
  | nil => intro r r' _ _ _ h; exact h
  | cons x xs ih =>
    intro r r' hr hr' hb h
    have hx := hb x (by simp)
    have := ih _ _ (refB_lt r x hr hx) (refB_lt r' x hr' hx) (fun y hy => hb y (by simp [hy])) h
    exact xor_cancel_right (bitsN_inj 8 (xor_lt _ _ hr (by omega)) (xor_lt _ _ hr' (by omega)) this)

theorem apart_mid (a m m' z : List Nat) (hl : m.length = m'.length) (h4 : m.length ≤ 4) (ha : ∀ x ∈ a, x < 256) (hm : ∀ x ∈ m, x < 256) (hm' : ∀ x ∈ m', x < 256) (hz : ∀ x ∈ z, x < 256)
    (h : refM 0 (a ++ m ++ z) = refM 0 (a ++ m' ++ z)) : m = m' := by
  unfold refM at h
  have h1 := xor_cancel h
  simp only [List.foldl_append] at h1
  have hr : a.foldl refB (4294967295 ^^^ 0) < 4294967296 := fold_lt a _ (by decide) ha
  generalize a.foldl refB (4294967295 ^^^ 0) = r at h1 hr
  have h2 := fold_inj z _ _ (fold_lt m r hr hm) (fold_lt m' r hr hm') hz h1
  rw [fold_word m r hm, fold_word m' r hm', hl] at h2
  have p4 : ∀ n, n ≤ 4 → 256 ^ n ≤ 4294967296 := by
    intro n hn
    have : ∀ n : Fin 5, 256 ^ n.val ≤ 4294967296 := by decide
    exact this ⟨n, by omega⟩
  have w1 := wordN_lt m hm
  have w2 := wordN_lt m' hm'
  have q1 := p4 _ h4
  have q2 := p4 m'.length (by omega)
  have h3 := bitsN_inj _ (xor_lt _ _ hr (by omega)) (xor_lt _ _ hr (by omega)) h2
  exact wordN_inj m m' hl hm hm' (xor_cancel h3)

/-- p, turned by 'by' from k on, i bytes of it. -/
def tw (p : List Nat) (k : Nat) (b : Nat → Nat) : Nat → List Nat
  | 0 => p
  | i + 1 => (tw p k b i).set (k + i) ((tw p k b i).getD (k + i) 0 ^^^ b i)
theorem tw_length (p : List Nat) (k : Nat) (b : Nat → Nat) (i : Nat) : (tw p k b i).length = p.length := by
  induction i with
  | zero => rfl
  | succ i ih => simp [tw, ih]
theorem tw_getD (p : List Nat) (k : Nat) (b : Nat → Nat) : ∀ i, k + i ≤ p.length → ∀ j, (tw p k b i).getD j 0 = if k ≤ j ∧ j < k + i then p.getD j 0 ^^^ b (j - k) else p.getD j 0 := by
  intro i
  induction i with
  | zero => intro _ j; rw [if_neg (by omega)]; rfl
  | succ i ih =>
    intro hi j
    have ih' := ih (by omega)
    show ((tw p k b i).set (k + i) _).getD j 0 = _
    rw [List.getD_eq_getElem?_getD, List.getElem?_set]
    by_cases hj : k + i = j
    · subst hj
      rw [if_pos rfl, if_pos (by rw [tw_length]; omega), if_pos (by omega)]
      rw [ih' (k + i), if_neg (by omega), show k + i - k = i by omega]
      rfl
    · rw [if_neg hj, ← List.getD_eq_getElem?_getD, ih' j]
      by_cases h1 : k ≤ j ∧ j < k + i
      · rw [if_pos h1, if_pos (by omega)]
      · rw [if_neg h1, if_neg (by omega)]
theorem tw_byte (p : List Nat) (k : Nat) (b : Nat → Nat) (i : Nat) (hi : k + i ≤ p.length) (hp : ∀ x ∈ p, x < 256) (hb : ∀ j, b j < 256) : ∀ x ∈ tw p k b i, x < 256 := by
  intro x hx
  obtain ⟨j, hj, rfl⟩ := List.getElem_of_mem hx
  have e : (tw p k b i)[j] = (tw p k b i).getD j 0 := by rw [List.getD_eq_getElem?_getD, List.getElem?_eq_getElem hj]; rfl
  rw [e, tw_getD p k b i hi]
  have hp' := getD_lt p hp j
  split
  · exact Nat.xor_lt_two_pow (n := 8) hp' (hb _)
  · exact hp'
theorem ext_getD {l l' : List Nat} (hl : l.length = l'.length) (h : ∀ j, j < l.length → l.getD j 0 = l'.getD j 0) : l = l' := by
  apply List.ext_getElem hl
  intro j h1 h2
  have := h j h1
  rw [List.getD_eq_getElem?_getD, List.getElem?_eq_getElem h1, List.getD_eq_getElem?_getD, List.getElem?_eq_getElem h2] at this
  exact this
theorem getD_take (l : List Nat) (n j : Nat) (h : j < n) : (l.take n).getD j 0 = l.getD j 0 := by
  rw [List.getD_eq_getElem?_getD, List.getElem?_take, if_pos h, ← List.getD_eq_getElem?_getD]
theorem getD_drop (l : List Nat) (n j : Nat) : (l.drop n).getD j 0 = l.getD (n + j) 0 := by
  rw [List.getD_eq_getElem?_getD, List.getElem?_drop, ← List.getD_eq_getElem?_getD]

/-- Was a bit turned? -/
def turnedB (b : Nat → Nat) : Nat → Bool
  | 0 => false
  | i + 1 => turnedB b i || b i != 0
theorem turnedB_false (b : Nat → Nat) : ∀ n, turnedB b n = false → ∀ i, i < n → b i = 0 := by
  intro n
  induction n with
  | zero => intro _ i hi; omega
  | succ n ih =>
    intro h i hi
    simp only [turnedB, Bool.or_eq_false_iff, bne_eq_false_iff_eq] at h
    rcases Nat.lt_or_ge i n with q | q
    · exact ih h.1 i q
    · rw [show i = n by omega]; exact h.2
theorem turnedB_of (b : Nat → Nat) : ∀ n, (∀ i, i < n → b i = 0) → turnedB b n = false := by
  intro n
  induction n with
  | zero => intro _; rfl
  | succ n ih => intro h; simp only [turnedB, Bool.or_eq_false_iff, bne_eq_false_iff_eq]; exact ⟨ih (fun i hi => h i (by omega)), h n (by omega)⟩

theorem apart_tw (p : List Nat) (k : Nat) (b : Nat → Nat) (n : Nat) (hn : n ≤ 4) (hk : k + n ≤ p.length) (hp : ∀ x ∈ p, x < 256) (hb : ∀ j, b j < 256) :
    (refM 0 p != refM 0 (tw p k b n)) = turnedB b n := by
  have hq := tw_getD p k b n hk
  have hql := tw_length p k b n
  have hqb := tw_byte p k b n hk hp hb
  cases ht : turnedB b n
  · have hz := turnedB_false b n ht
    have : tw p k b n = p := ext_getD hql (fun j _ => by
      rw [hq j]
      split
      · rw [hz (j - k) (by omega), Nat.xor_zero]
      · rfl)
    rw [this]; simp
  · rw [bne_iff_ne]
    intro e
    generalize tw p k b n = q at hq hql hqb e
    have d1 : p = p.take k ++ (p.drop k).take n ++ p.drop (k + n) := by
      rw [List.append_assoc, ← List.drop_drop, List.take_append_drop, List.take_append_drop]
    have d2 : q = p.take k ++ (q.drop k).take n ++ p.drop (k + n) := by
      have h1 : q.take k = p.take k := ext_getD (by simp; omega) (fun j hj => by
        have hj' : j < k := by simp at hj; omega
        rw [getD_take _ _ _ hj', getD_take _ _ _ hj', hq j, if_neg (by omega)])
      have h2 : q.drop (k + n) = p.drop (k + n) := ext_getD (by simp; omega) (fun j _ => by
        rw [getD_drop, getD_drop, hq, if_neg (by omega)])
      rw [← h1, ← h2, List.append_assoc, ← List.drop_drop, List.take_append_drop, List.take_append_drop]
    have hm : (p.drop k).take n = (q.drop k).take n := by
      refine apart_mid (p.take k) _ _ (p.drop (k + n)) (by simp; omega) (by simp; omega) (fun x hx => hp x (List.mem_of_mem_take hx)) (fun x hx => hp x (List.mem_of_mem_drop (List.mem_of_mem_take hx))) (fun x hx => hqb x (List.mem_of_mem_drop (List.mem_of_mem_take hx))) (fun x hx => hp x (List.mem_of_mem_drop hx)) ?_
      rw [← d1, ← d2, e]
    have hz : ∀ i, i < n → b i = 0 := by
      intro i hi
      have h1 := congrArg (fun l => l.getD i 0) hm
      simp only [getD_take _ _ _ hi, getD_drop] at h1
      rw [hq (k + i), if_pos (by omega), show k + i - k = i by omega] at h1
      have : p.getD (k + i) 0 ^^^ 0 = p.getD (k + i) 0 ^^^ b i := by rw [Nat.xor_zero]; exact h1
      exact (xor_cancel this).symm
    rw [turnedB_of b n hz] at ht
    cases ht

theorem tw_take (p : List Nat) (k : Nat) (b : Nat → Nat) (n c : Nat) (hc : k + n ≤ c) (hp : c ≤ p.length) : (tw p k b n).take c = tw (p.take c) k b n := by
  have hl := tw_length p k b n
  refine ext_getD (by rw [tw_length, List.length_take, List.length_take, hl]) (fun j hj => ?_)
  have hj' : j < c := by rw [List.length_take] at hj; omega
  rw [getD_take _ _ _ hj', tw_getD p k b n (by omega), tw_getD (p.take c) k b n (by simp; omega), getD_take _ _ _ hj']
theorem tw_drop (p : List Nat) (k : Nat) (b : Nat → Nat) (n c : Nat) (hc : k + n ≤ c) (hp : c ≤ p.length) : (tw p k b n).drop c = p.drop c := by
  have hl := tw_length p k b n
  refine ext_getD (by rw [List.length_drop, List.length_drop, hl]) (fun j _ => ?_)
  rw [getD_drop, getD_drop, tw_getD p k b n (by omega), if_neg (by omega)]
theorem tw_same (p : List Nat) (k : Nat) (b : Nat → Nat) (n : Nat) (hk : k + n ≤ p.length) (h : turnedB b n = false) : tw p k b n = p := by
  have hz := turnedB_false b n h
  refine ext_getD (tw_length p k b n) (fun j _ => ?_)
  rw [tw_getD p k b n hk]
  split
  · rw [hz (j - k) (by omega), Nat.xor_zero]
  · rfl
end Go.Proofs.YtgjjjkokmgdmjaaDoor.Dg
namespace Go.Proofs.YtgjjjkokmgdmjaaDoor
open Go.RowKit
theorem crB_ref (b : List Int) : crB b = Dg.refM 0 (b.map Int.toNat) := Dg.crcM_ref 0 _
theorem nat_il (p : List Nat) : (Dg.il p).map Int.toNat = p := by
  unfold Dg.il
  rw [List.map_map]
  exact List.map_id'' (fun x => rfl) p
theorem il_take (p : List Nat) (n : Nat) : (Dg.il p).take n = Dg.il (p.take n) := by simp [Dg.il, List.map_take]
theorem il_drop (p : List Nat) (n : Nat) : (Dg.il p).drop n = Dg.il (p.drop n) := by simp [Dg.il, List.map_drop]
theorem seal_body {m : Nat} {t : List Int} (ht : t.length ≤ 107) : (Sl.sealB crB m t).take 116 = Sl.bodB m t := by
  unfold Sl.sealB
  rw [List.take_append_of_le_length (by rw [Sl.bodB_len ht]; exact Nat.le_refl _), List.take_of_length_le (by rw [Sl.bodB_len ht]; exact Nat.le_refl _)]
theorem seal_sum {m : Nat} {t : List Int} (ht : t.length ≤ 107) : ((Sl.sealB crB m t).drop 116).take 4 = Oc.fixB (crB (Sl.bodB m t)) 4 := by
  unfold Sl.sealB
  rw [List.drop_append_of_le_length (by rw [Sl.bodB_len ht]; exact Nat.le_refl _), List.drop_of_length_le (by rw [Sl.bodB_len ht]; exact Nat.le_refl _), List.nil_append, List.take_append_of_le_length (by rw [Oc.fixB_length]; exact Nat.le_refl _), List.take_of_length_le (by rw [Oc.fixB_length]; exact Nat.le_refl _)]
theorem fix4_inj {a b : Nat} (ha : a < 4294967296) (hb : b < 4294967296) (h : Oc.fixB a 4 = Oc.fixB b 4) : a = b := by
  have := congrArg (Oc.valB 0) h
  rw [Oc.valB_fixB, Oc.valB_fixB] at this
  omega
/-- Bytes of a sector that rot, ahead of its last twelve. -/
theorem seen_say {m : Nat} {t : List Int} (ht : t.length ≤ 100) (hy : Dk.Byt t) (p : List Nat) (hp : Dg.il p = Sl.sealB crB m t) (k n : Nat) (b : Nat → Nat) (hn : n ≤ 4) (hk : k + n ≤ 116) (hb : ∀ j, b j < 256) (htu : Dg.turnedB b n = true) :
    Sl.sayB crB (Dg.il (Dg.tw p k b n)) = (0, []) := by
  have hl : p.length = 128 := by
    have := congrArg List.length hp
    rw [Dg.il_length, Sl.sealB_len (by omega)] at this
    exact this
  have hpb : ∀ x ∈ p, x < 256 := fun x hx => by
    have h1 : (x : Int) ∈ Dg.il p := by unfold Dg.il; exact List.mem_map.2 ⟨x, hx, rfl⟩
    rw [hp] at h1
    have := byt_seal ht hy _ h1
    omega
  by_cases hz : (Sl.sayB crB (Dg.il (Dg.tw p k b n))).1 = 0
  · exact Sl.say_none hz
  exfalso
  obtain ⟨he, _, _, h3⟩ := Sl.say_whole hz
  generalize (Sl.sayB crB (Dg.il (Dg.tw p k b n))).1 = m' at he hz
  generalize (Sl.sayB crB (Dg.il (Dg.tw p k b n))).2 = t' at he h3
  have e1 : Sl.bodB m' t' = Dg.il (Dg.tw (p.take 116) k b n) := by
    rw [← seal_body (show t'.length ≤ 107 by omega), ← he, il_take, Dg.tw_take p k b n 116 hk (by omega)]
  have e2 : Sl.bodB m t = Dg.il (p.take 116) := by
    rw [← seal_body (show t.length ≤ 107 by omega), ← hp, il_take]
  have e3 : Oc.fixB (crB (Sl.bodB m' t')) 4 = Oc.fixB (crB (Sl.bodB m t)) 4 := by
    rw [← seal_sum (show t'.length ≤ 107 by omega), ← seal_sum (show t.length ≤ 107 by omega), ← he, ← hp, il_drop, il_drop, Dg.tw_drop p k b n 116 hk (by omega)]
  have hq : ∀ x ∈ p.take 116, x < 256 := fun x hx => hpb x (List.mem_of_mem_take hx)
  have hq2 := Dg.tw_byte (p.take 116) k b n (by simp; omega) hq hb
  have y1 : Dk.Byt (Sl.bodB m' t') := fun x hx => by
    rw [e1] at hx
    obtain ⟨y, hy', rfl⟩ := List.mem_map.1 hx
    have := hq2 y hy'
    simp; omega
  have y2 : Dk.Byt (Sl.bodB m t) := byt_body rfl ht hy
  have e4 := fix4_inj (crB_lt y1) (crB_lt y2) e3
  rw [e1, e2, crB_ref, crB_ref, nat_il, nat_il] at e4
  have := Dg.apart_tw (p.take 116) k b n hn (by simp; omega) hq hb
  rw [htu, e4] at this
  simp at this
end Go.Proofs.YtgjjjkokmgdmjaaDoor
