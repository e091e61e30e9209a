/- Plain mathematics of layer 1: numbers in groups of seven bits, numbers of a fixed width. -/
namespace Go.Proofs.Ythohpbppfihoiaa.Oct

/-- A number's bytes, the lowest seven bits first. -/
def numB (n : Nat) : List Int := if n < 128 then [(n : Int)] else ((n % 128 + 128 : Nat) : Int) :: numB (n / 128)
termination_by n
decreasing_by omega

theorem numB_small (n : Nat) (h : n < 128) : numB n = [(n : Int)] := by rw [numB]; simp [h]
theorem numB_big (n : Nat) (h : ¬ n < 128) : numB n = ((n % 128 + 128 : Nat) : Int) :: numB (n / 128) := by rw [numB]; simp [h]

theorem numB_length (k : Nat) : ∀ n : Nat, n < 128 ^ (k + 1) → (numB n).length ≤ k + 1 := by
  induction k with
  | zero => intro n h; rw [numB_small n (by simpa using h)]; simp
  | succ k ih =>
    intro n h
    by_cases hs : n < 128
    · rw [numB_small n hs]; simp
    · rw [numB_big n hs]
      have := ih (n / 128) (by rw [Nat.pow_succ] at h; exact Nat.div_lt_of_lt_mul (by omega))
      simp; omega

theorem numB_len8 (n : Nat) (h : n ≤ 9007199254740991) : (numB n).length ≤ 8 := numB_length 7 n (by omega)

theorem numB_pos (n : Nat) : 0 < (numB n).length := by rw [numB]; split <;> simp

theorem numB_byte (n : Nat) : ∀ x ∈ numB n, 0 ≤ x ∧ x < 256 := by
  induction n using numB.induct with
  | case1 n h => rw [numB_small n h]; intro x hx; simp at hx; omega
  | case2 n h ih => rw [numB_big n h]; intro x hx; simp at hx; rcases hx with hx | hx; · omega
                    · exact ih x hx

/-- The number that begins a list, behind j bytes that gave m: the number, how many bytes it has, and the error (3 short, 4 form, 6 limit). -/
def tkGo : Nat → Nat → List Int → Int × Int × Int
  | _, _, [] => (0, 0, 3)
  | j, m, x :: r => if j = 7 ∧ 15 < x then (0, 0, 6) else if 128 ≤ x then tkGo (j + 1) (m + (x % 128).toNat * 128 ^ j) r else if x = 0 ∧ 0 < j then (0, 0, 4) else (((m + x.toNat * 128 ^ j : Nat) : Int), (j : Int) + 1, 0)

theorem tkGo_lim (j m : Nat) (x : Int) (r : List Int) (h : j = 7 ∧ 15 < x) : tkGo j m (x :: r) = (0, 0, 6) := by simp [tkGo, h]
theorem tkGo_more (j m : Nat) (x : Int) (r : List Int) (h : j < 7) (hx : 128 ≤ x) : tkGo j m (x :: r) = tkGo (j + 1) (m + (x % 128).toNat * 128 ^ j) r := by
  rw [tkGo, if_neg (by omega), if_pos hx]
theorem tkGo_form (j m : Nat) (r : List Int) (h : 0 < j) : tkGo j m (0 :: r) = (0, 0, 4) := by
  rw [tkGo, if_neg (by omega), if_neg (by omega), if_pos (by omega)]
theorem tkGo_last (j m : Nat) (x : Int) (r : List Int) (h : ¬ (j = 7 ∧ 15 < x)) (hx : x < 128) (h0 : ¬ (x = 0 ∧ 0 < j)) : tkGo j m (x :: r) = (((m + x.toNat * 128 ^ j : Nat) : Int), (j : Int) + 1, 0) := by
  rw [tkGo, if_neg h, if_neg (by omega), if_neg h0]

/-- A number that was read from place k on: the place behind it is told where there is no error. -/
def fin (k : Int) (t : Int × Int × Int) : Int × Int × Int := (t.1, if t.2.2 = 0 then k + t.2.1 else 0, t.2.2)

/-- What TakeNum tells. -/
def tkNum (bs : List Int) (i : Int) : Int × Int × Int :=
  if 0 ≤ i ∧ i ≤ bs.length then fin i (tkGo 0 0 (bs.drop i.toNat)) else (0, 0, 2)

theorem tkNum_out (bs : List Int) (i : Int) (h : i < 0 ∨ (bs.length : Int) < i) : tkNum bs i = (0, 0, 2) := by unfold tkNum; rw [if_neg (by omega)]
theorem tkNum_in (bs : List Int) (k : Nat) (h : k ≤ bs.length) : tkNum bs k = fin k (tkGo 0 0 (bs.drop k)) := by unfold tkNum; rw [if_pos (by omega)]; simp
theorem tkNum_end (bs : List Int) (k : Nat) (h : k = bs.length) : tkNum bs k = (0, 0, 3) := by rw [tkNum_in bs k (by omega), List.drop_eq_nil_of_le (by omega)]; rfl

theorem drop_cons (bs : List Int) (k : Nat) (h : k < bs.length) : bs.drop k = bs.getD k 0 :: bs.drop (k + 1) := by
  rw [List.drop_eq_getElem_cons h, List.getD_eq_getElem?_getD, List.getElem?_eq_getElem h]; rfl

theorem pow_step {m j : Nat} {x : Int} (hm : m < 128 ^ j) (_h0 : 0 ≤ x) : m + (x % 128).toNat * 128 ^ j < 128 ^ (j + 1) := by
  have h1 : (x % 128).toNat ≤ 127 := by omega
  have h2 : (x % 128).toNat * 128 ^ j ≤ 127 * 128 ^ j := Nat.mul_le_mul_right _ h1
  rw [Nat.pow_succ]; omega

theorem pow_le7 (j : Nat) (h : j ≤ 7) : 128 ^ j ≤ 562949953421312 := by
  have := Nat.pow_le_pow_right (n := 128) (by decide) h
  simpa using this

/-- The lowest i bytes of a number, the highest first. -/
def fixB (n : Nat) : Nat → List Int
  | 0 => []
  | i + 1 => ((n / 256 ^ i % 256 : Nat) : Int) :: fixB n i

theorem fixB_length (n i : Nat) : (fixB n i).length = i := by induction i with | zero => rfl | succ i ih => simp [fixB, ih]

theorem fixB_byte (n i : Nat) : ∀ x ∈ fixB n i, 0 ≤ x ∧ x < 256 := by
  induction i with
  | zero => simp [fixB]
  | succ i ih => intro x hx; simp only [fixB, List.mem_cons] at hx; rcases hx with rfl | hx; · omega
                 · exact ih x hx

/-- One byte more is laid, from the end on. -/
theorem fix_step (n W i : Nat) (h : i < W) : (List.replicate (W - i) (0 : Int) ++ fixB n i).set (W - 1 - i) ((n / 256 ^ i % 256 : Nat) : Int) = List.replicate (W - (i + 1)) 0 ++ fixB n (i + 1) := by
  have e1 : W - i = (W - (i + 1)) + 1 := by omega
  have e2 : W - 1 - i = W - (i + 1) := by omega
  rw [e1, List.replicate_succ', e2, List.append_assoc, List.set_append_right _ _ (by simp)]
  simp [fixB]

/-- What TakeText tells. -/
def tkText (bs : List Int) (i most : Int) : List Int × Int × Int :=
  if (tkNum bs i).2.2 ≠ 0 then ([], 0, (tkNum bs i).2.2)
  else if most < (tkNum bs i).1 then ([], 0, 6)
  else if (bs.length : Int) - (tkNum bs i).2.1 < (tkNum bs i).1 then ([], 0, 3)
  else ((bs.drop (tkNum bs i).2.1.toNat).take (tkNum bs i).1.toNat, (tkNum bs i).2.1 + (tkNum bs i).1, 0)

theorem tkGo_ok (r : List Int) : ∀ (j m : Nat), j ≤ 7 → m < 128 ^ j → (∀ x ∈ r, 0 ≤ x ∧ x < 256) → (tkGo j m r).2.2 = 0 →
    0 ≤ (tkGo j m r).1 ∧ (tkGo j m r).1 ≤ 9007199254740991 ∧ (j : Int) < (tkGo j m r).2.1 ∧ (tkGo j m r).2.1 ≤ j + r.length := by
  induction r with
  | nil => intro j m _ _ _ h; simp [tkGo] at h
  | cons x r ih =>
    intro j m hj hm hb h
    have hx := hb x (by simp)
    by_cases h1 : j = 7 ∧ 15 < x
    · rw [tkGo_lim _ _ _ _ h1] at h; simp at h
    · by_cases h2 : 128 ≤ x
      · have h7 : j < 7 := by omega
        rw [tkGo_more _ _ _ _ h7 h2] at h ⊢
        have := ih (j + 1) _ (by omega) (pow_step hm hx.1) (fun y hy => hb y (by simp [hy])) h
        simp only [List.length_cons]
        omega
      · by_cases h3 : x = 0 ∧ 0 < j
        · rw [h3.1, tkGo_form _ _ _ h3.2] at h; simp at h
        · rw [tkGo_last _ _ _ _ h1 (by omega) h3]
          simp only [List.length_cons]
          have hp := pow_le7 j hj
          have hb : m + x.toNat * 128 ^ j ≤ 9007199254740991 := by
            by_cases h7 : j = 7
            · subst h7
              have : x.toNat * 128 ^ 7 ≤ 15 * 128 ^ 7 := Nat.mul_le_mul_right _ (by omega)
              omega
            · have hp6 : 128 ^ j ≤ 128 ^ 6 := Nat.pow_le_pow_right (by decide) (by omega)
              have : x.toNat * 128 ^ j ≤ 127 * 128 ^ 6 := Nat.mul_le_mul (by omega) hp6
              omega
          omega

/-- A number that was read ends within the bytes. -/
theorem tkNum_ok (bs : List Int) (i : Int) (hb : ∀ x ∈ bs, 0 ≤ x ∧ x < 256) (h : (tkNum bs i).2.2 = 0) :
    0 ≤ i ∧ 0 ≤ (tkNum bs i).1 ∧ (tkNum bs i).1 ≤ 9007199254740991 ∧ i < (tkNum bs i).2.1 ∧ (tkNum bs i).2.1 ≤ bs.length := by
  unfold tkNum at h ⊢
  by_cases hi : 0 ≤ i ∧ i ≤ bs.length
  · rw [if_pos hi] at h ⊢
    have h' : (tkGo 0 0 (bs.drop i.toNat)).2.2 = 0 := h
    have := tkGo_ok (bs.drop i.toNat) 0 0 (by omega) (by decide) (fun x hx => hb x (List.mem_of_mem_drop hx)) h'
    simp only [fin, h', if_true]
    rw [List.length_drop] at this
    omega
  · rw [if_neg hi] at h; simp at h
end Go.Proofs.Ythohpbppfihoiaa.Oct
