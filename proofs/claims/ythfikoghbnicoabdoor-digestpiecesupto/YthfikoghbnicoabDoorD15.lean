/- Texts that part in four bytes at most have unlike check sums. -/
import Derived.Test.YthfikoghbnicoabDoorL2
namespace Go.Proofs.YthfikoghbnicoabDoor

theorem bitsN_lt (k r : Nat) (hr : r < 4294967296) : bitsN k r < 4294967296 := by
  induction k with
  | zero => exact hr
  | succ k ih => exact bitN_lt _ ih

theorem xor_cancel {a b c : Nat} (h : a ^^^ b = a ^^^ c) : b = c := by
  have := congrArg (a ^^^ ·) h
  simpa [← Nat.xor_assoc] using this
theorem xor_cancel_right {a b c : Nat} (h : b ^^^ a = c ^^^ a) : b = c := by
  rw [Nat.xor_comm b, Nat.xor_comm c] at h
  exact xor_cancel h

theorem bitN_inj {a b : Nat} (ha : a < 4294967296) (hb : b < 4294967296) (h : bitN a = bitN b) : a = b := by
  have key : ∀ x y : Nat, x < 4294967296 → y < 4294967296 → (x / 2) ^^^ 2197175160 ≠ y / 2 := by
    intro x y hx hy e
    have h1 : (x / 2) ^^^ (y / 2) = 2197175160 := by rw [← e, xor_back]
    have h2 : (x / 2) ^^^ (y / 2) < 2 ^ 31 := Nat.xor_lt_two_pow (by omega) (by omega)
    rw [h1] at h2
    exact absurd h2 (by decide)
  unfold bitN at h
  by_cases h1 : a % 2 = 1 <;> by_cases h2 : b % 2 = 1
  · rw [if_pos h1, if_pos h2] at h
    have := xor_cancel_right h
    omega
  · rw [if_pos h1, if_neg h2] at h
    exact absurd h (key a b ha hb)
  · rw [if_neg h1, if_pos h2] at h
    exact absurd h.symm (key b a hb ha)
  · rw [if_neg h1, if_neg h2] at h
    omega

theorem bitsN_inj (k : Nat) : ∀ {a b : Nat}, a < 4294967296 → b < 4294967296 → bitsN k a = bitsN k b → a = b := by
  induction k with
  | zero => intro a b _ _ h; exact h
  | succ k ih => intro a b ha hb h; exact ih ha hb (bitN_inj (bitsN_lt k a ha) (bitsN_lt k b hb) h)

/-- The number that bytes make, the first the lowest. -/
def wordN : List Nat → Nat
  | [] => 0
  | x :: xs => x + 256 * wordN xs

theorem fold_word : ∀ (m : List Nat) (r : Nat), (∀ x ∈ m, x < 256) → m.foldl refB r = bitsN (8 * m.length) (r ^^^ wordN m) := by
  intro m
  induction m with
  | nil => intro r _; simp [bitsN, wordN]
  | cons x xs ih =>
    intro r h
    rw [List.foldl_cons, ih _ (fun y hy => h y (by simp [hy]))]
    have e1 : wordN xs = bitsN 8 (2 ^ 8 * wordN xs) := (bitsN_shift 8 _).symm
    have e2 : r ^^^ wordN (x :: xs) = (r ^^^ x) ^^^ (2 ^ 8 * wordN xs) := by
      have := split_xor 8 (wordN xs) x (h x (by simp))
      rw [Nat.xor_assoc, Nat.xor_comm x, this]
      show r ^^^ (x + 256 * wordN xs) = _
      rw [Nat.add_comm]
    unfold refB
    rw [e2, List.length_cons, show 8 * (xs.length + 1) = 8 * xs.length + 8 by omega, bitsN_add, bitsN_lin 8 (r ^^^ x) (2 ^ 8 * wordN xs), ← e1]

theorem wordN_lt : ∀ (m : List Nat), (∀ x ∈ m, x < 256) → wordN m < 256 ^ m.length := by
  intro m
  induction m with
  | nil => intro _; simp [wordN]
  | cons x xs ih =>
    intro h
    have h1 := ih (fun y hy => h y (by simp [hy]))
    have h2 := h x (by simp)
    show x + 256 * wordN xs < 256 ^ (xs.length + 1)
    rw [Nat.pow_succ]
    omega

theorem wordN_inj : ∀ (m m' : List Nat), m.length = m'.length → (∀ x ∈ m, x < 256) → (∀ x ∈ m', x < 256) → wordN m = wordN m' → m = m' := by
  intro m
  induction m with
  | nil => intro m' hl _ _ _; exact (List.eq_nil_of_length_eq_zero hl.symm).symm
  | cons x xs ih =>
    intro m' hl h h' e
    match m', hl with
    | y :: ys, hl =>
      have hx := h x (by simp)
      have hy := h' y (by simp)
      have e' : x + 256 * wordN xs = y + 256 * wordN ys := e
      have e1 : x = y := by omega
      have e2 : wordN xs = wordN ys := by omega
      rw [e1, ih ys (by simpa using hl) (fun z hz => h z (by simp [hz])) (fun z hz => h' z (by simp [hz])) e2]

theorem refB_lt (r x : Nat) (hr : r < 4294967296) (hx : x < 256) : refB r x < 4294967296 := bitsN_lt 8 _ (xor_lt _ _ hr (by omega))
theorem fold_lt : ∀ (p : List Nat) (r : Nat), r < 4294967296 → (∀ x ∈ p, x < 256) → p.foldl refB r < 4294967296 := by
  intro p
  induction p with
  | nil => intro r hr _; exact hr
  | cons x xs ih => intro r hr hb; exact ih _ (refB_lt r x hr (hb x (by simp))) (fun y hy => hb y (by simp [hy]))
theorem fold_inj : ∀ (z : List Nat) (r r' : Nat), r < 4294967296 → r' < 4294967296 → (∀ x ∈ z, x < 256) → z.foldl refB r = z.foldl refB r' → r = r' := by
  intro z
  induction z with
  | nil => intro r r' _ _ _ h; exact h
  | cons x xs ih =>
    intro r r' hr hr' hb h
    have hx := hb x (by simp)
    have := ih _ _ (refB_lt r x hr hx) (refB_lt r' x hr' hx) (fun y hy => hb y (by simp [hy])) h
    exact xor_cancel_right (bitsN_inj 8 (xor_lt _ _ hr (by omega)) (xor_lt _ _ hr' (by omega)) this)

theorem apart_mid (a m m' z : List Nat) (hl : m.length = m'.length) (h4 : m.length ≤ 4) (ha : ∀ x ∈ a, x < 256) (hm : ∀ x ∈ m, x < 256) (hm' : ∀ x ∈ m', x < 256) (hz : ∀ x ∈ z, x < 256)
    (h : refM 0 (a ++ m ++ z) = refM 0 (a ++ m' ++ z)) : m = m' := by
  unfold refM at h
  have h1 := xor_cancel h
  simp only [List.foldl_append] at h1
  have hr : a.foldl refB (4294967295 ^^^ 0) < 4294967296 := fold_lt a _ (by decide) ha
  generalize a.foldl refB (4294967295 ^^^ 0) = r at h1 hr
  have h2 := fold_inj z _ _ (fold_lt m r hr hm) (fold_lt m' r hr hm') hz h1
  rw [fold_word m r hm, fold_word m' r hm', hl] at h2
  have p4 : ∀ n, n ≤ 4 → 256 ^ n ≤ 4294967296 := by
    intro n hn
    have : ∀ n : Fin 5, 256 ^ n.val ≤ 4294967296 := by decide
    exact this ⟨n, by omega⟩
  have w1 := wordN_lt m hm
  have w2 := wordN_lt m' hm'
  have q1 := p4 _ h4
  have q2 := p4 m'.length (by omega)
  have h3 := bitsN_inj _ (xor_lt _ _ hr (by omega)) (xor_lt _ _ hr (by omega)) h2
  exact wordN_inj m m' hl hm hm' (xor_cancel h3)

/-- p, turned by 'by' from k on, i bytes of it. -/
def tw (p : List Nat) (k : Nat) (b : Nat → Nat) : Nat → List Nat
  | 0 => p
  | i + 1 => (tw p k b i).set (k + i) ((tw p k b i).getD (k + i) 0 ^^^ b i)
theorem tw_length (p : List Nat) (k : Nat) (b : Nat → Nat) (i : Nat) : (tw p k b i).length = p.length := by
  induction i with
  | zero => rfl
  | succ i ih => simp [tw, ih]
theorem tw_getD (p : List Nat) (k : Nat) (b : Nat → Nat) : ∀ i, k + i ≤ p.length → ∀ j, (tw p k b i).getD j 0 = if k ≤ j ∧ j < k + i then p.getD j 0 ^^^ b (j - k) else p.getD j 0 := by
  intro i
  induction i with
  | zero => intro _ j; rw [if_neg (by omega)]; rfl
  | succ i ih =>
    intro hi j
    have ih' := ih (by omega)
    show ((tw p k b i).set (k + i) _).getD j 0 = _
    rw [List.getD_eq_getElem?_getD, List.getElem?_set]
    by_cases hj : k + i = j
    · subst hj
      rw [if_pos rfl, if_pos (by rw [tw_length]; omega), if_pos (by omega)]
      rw [ih' (k + i), if_neg (by omega), show k + i - k = i by omega]
      rfl
    · rw [if_neg hj, ← List.getD_eq_getElem?_getD, ih' j]
      by_cases h1 : k ≤ j ∧ j < k + i
      · rw [if_pos h1, if_pos (by omega)]
      · rw [if_neg h1, if_neg (by omega)]
theorem tw_byte (p : List Nat) (k : Nat) (b : Nat → Nat) (i : Nat) (hi : k + i ≤ p.length) (hp : ∀ x ∈ p, x < 256) (hb : ∀ j, b j < 256) : ∀ x ∈ tw p k b i, x < 256 := by
  intro x hx
  obtain ⟨j, hj, rfl⟩ := List.getElem_of_mem hx
  have e : (tw p k b i)[j] = (tw p k b i).getD j 0 := by rw [List.getD_eq_getElem?_getD, List.getElem?_eq_getElem hj]; rfl
  rw [e, tw_getD p k b i hi]
  have hp' := getD_lt p hp j
  split
  · exact Nat.xor_lt_two_pow (n := 8) hp' (hb _)
  · exact hp'
theorem ext_getD {l l' : List Nat} (hl : l.length = l'.length) (h : ∀ j, j < l.length → l.getD j 0 = l'.getD j 0) : l = l' := by
  apply List.ext_getElem hl
  intro j h1 h2
  have := h j h1
  rw [List.getD_eq_getElem?_getD, List.getElem?_eq_getElem h1, List.getD_eq_getElem?_getD, List.getElem?_eq_getElem h2] at this
  exact this
theorem getD_take (l : List Nat) (n j : Nat) (h : j < n) : (l.take n).getD j 0 = l.getD j 0 := by
  rw [List.getD_eq_getElem?_getD, List.getElem?_take, if_pos h, ← List.getD_eq_getElem?_getD]
theorem getD_drop (l : List Nat) (n j : Nat) : (l.drop n).getD j 0 = l.getD (n + j) 0 := by
  rw [List.getD_eq_getElem?_getD, List.getElem?_drop, ← List.getD_eq_getElem?_getD]

/-- Was a bit turned? -/
def turnedB (b : Nat → Nat) : Nat → Bool
  | 0 => false
  | i + 1 => turnedB b i || b i != 0
theorem turnedB_false (b : Nat → Nat) : ∀ n, turnedB b n = false → ∀ i, i < n → b i = 0 := by
  intro n
  induction n with
  | zero => intro _ i hi; omega
  | succ n ih =>
    intro h i hi
    simp only [turnedB, Bool.or_eq_false_iff, bne_eq_false_iff_eq] at h
    rcases Nat.lt_or_ge i n with q | q
    · exact ih h.1 i q
    · rw [show i = n by omega]; exact h.2
theorem turnedB_of (b : Nat → Nat) : ∀ n, (∀ i, i < n → b i = 0) → turnedB b n = false := by
  intro n
  induction n with
  | zero => intro _; rfl
  | succ n ih => intro h; simp only [turnedB, Bool.or_eq_false_iff, bne_eq_false_iff_eq]; exact ⟨ih (fun i hi => h i (by omega)), h n (by omega)⟩

theorem apart_tw (p : List Nat) (k : Nat) (b : Nat → Nat) (n : Nat) (hn : n ≤ 4) (hk : k + n ≤ p.length) (hp : ∀ x ∈ p, x < 256) (hb : ∀ j, b j < 256) :
    (refM 0 p != refM 0 (tw p k b n)) = turnedB b n := by
  have hq := tw_getD p k b n hk
  have hql := tw_length p k b n
  have hqb := tw_byte p k b n hk hp hb
  cases ht : turnedB b n
  · have hz := turnedB_false b n ht
    have : tw p k b n = p := ext_getD hql (fun j _ => by
      rw [hq j]
      split
      · rw [hz (j - k) (by omega), Nat.xor_zero]
      · rfl)
    rw [this]; simp
  · rw [bne_iff_ne]
    intro e
    generalize tw p k b n = q at hq hql hqb e
    have d1 : p = p.take k ++ (p.drop k).take n ++ p.drop (k + n) := by
      rw [List.append_assoc, ← List.drop_drop, List.take_append_drop, List.take_append_drop]
    have d2 : q = p.take k ++ (q.drop k).take n ++ p.drop (k + n) := by
      have h1 : q.take k = p.take k := ext_getD (by simp; omega) (fun j hj => by
        have hj' : j < k := by simp at hj; omega
        rw [getD_take _ _ _ hj', getD_take _ _ _ hj', hq j, if_neg (by omega)])
      have h2 : q.drop (k + n) = p.drop (k + n) := ext_getD (by simp; omega) (fun j _ => by
        rw [getD_drop, getD_drop, hq, if_neg (by omega)])
      rw [← h1, ← h2, List.append_assoc, ← List.drop_drop, List.take_append_drop, List.take_append_drop]
    have hm : (p.drop k).take n = (q.drop k).take n := by
      refine apart_mid (p.take k) _ _ (p.drop (k + n)) (by simp; omega) (by simp; omega) (fun x hx => hp x (List.mem_of_mem_take hx)) (fun x hx => hp x (List.mem_of_mem_drop (List.mem_of_mem_take hx))) (fun x hx => hqb x (List.mem_of_mem_drop (List.mem_of_mem_take hx))) (fun x hx => hp x (List.mem_of_mem_drop hx)) ?_
      rw [← d1, ← d2, e]
    have hz : ∀ i, i < n → b i = 0 := by
      intro i hi
      have h1 := congrArg (fun l => l.getD i 0) hm
      simp only [getD_take _ _ _ hi, getD_drop] at h1
      rw [hq (k + i), if_pos (by omega), show k + i - k = i by omega] at h1
      have : p.getD (k + i) 0 ^^^ 0 = p.getD (k + i) 0 ^^^ b i := by rw [Nat.xor_zero]; exact h1
      exact (xor_cancel this).symm
    rw [turnedB_of b n hz] at ht
    cases ht
end Go.Proofs.YthfikoghbnicoabDoor
