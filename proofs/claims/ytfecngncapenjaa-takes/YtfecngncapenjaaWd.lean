/- Words of bits: numbers of so many bits, one above, longer ones; none begins another one (plain mathematics). -/
namespace Go.Proofs.Ytfecngncapenjaa.Wd

/-- The n lowest bits of v, the highest first. -/
def bits : Nat → Nat → List Nat
  | 0, _ => []
  | n + 1, v => bits n (v / 2) ++ [v % 2]
theorem bits_len : ∀ n v, (bits n v).length = n
  | 0, _ => rfl
  | n + 1, v => by simp [bits, bits_len n]
theorem bits_bin : ∀ n v, ∀ x ∈ bits n v, x = 0 ∨ x = 1
  | 0, _, x, h => by simp [bits] at h
  | n + 1, v, x, h => by
    simp only [bits, List.mem_append, List.mem_singleton] at h
    rcases h with h | h
    · exact bits_bin n _ x h
    · omega
theorem bits_zero : ∀ n, bits n 0 = List.replicate n 0
  | 0 => rfl
  | n + 1 => by rw [bits, Nat.zero_div, bits_zero n, List.replicate_succ']
theorem bits_longer (n v : Nat) : ∀ d, bits (n + d) (v * 2 ^ d) = bits n v ++ List.replicate d 0
  | 0 => by simp
  | d + 1 => by
    have h1 : v * 2 ^ (d + 1) / 2 = v * 2 ^ d := by rw [Nat.pow_succ, ← Nat.mul_assoc]; omega
    have h2 : v * 2 ^ (d + 1) % 2 = 0 := by rw [Nat.pow_succ, ← Nat.mul_assoc]; omega
    rw [← Nat.add_assoc, bits, h1, h2, bits_longer n v d, List.replicate_succ', List.append_assoc]
/-- One above: the last 0 becomes 1, and what stands behind it, all 1, becomes 0. -/
theorem bits_plus : ∀ n v, v + 1 < 2 ^ n → ∃ u m, bits n v = u ++ 0 :: List.replicate m 1 ∧ bits n (v + 1) = u ++ 1 :: List.replicate m 0
  | 0, v, h => by simp at h
  | n + 1, v, h => by
    rw [Nat.pow_succ] at h
    rcases Nat.mod_two_eq_zero_or_one v with h0 | h0
    · refine ⟨bits n (v / 2), 0, ?_, ?_⟩
      · rw [bits, h0]; rfl
      · rw [bits, show (v + 1) / 2 = v / 2 by omega, show (v + 1) % 2 = 1 by omega]; rfl
    · obtain ⟨u, m, h1, h2⟩ := bits_plus n (v / 2) (by omega)
      refine ⟨u, m + 1, ?_, ?_⟩
      · rw [bits, h0, h1, List.replicate_succ', List.append_assoc]; rfl
      · rw [bits, show (v + 1) / 2 = v / 2 + 1 by omega, show (v + 1) % 2 = 0 by omega, h2, List.replicate_succ', List.append_assoc]; rfl
theorem bits_full : ∀ n v, v + 1 = 2 ^ n → bits n v = List.replicate n 1
  | 0, v, h => rfl
  | n + 1, v, h => by
    rw [Nat.pow_succ] at h
    rw [bits, bits_full n (v / 2) (by omega), show v % 2 = 1 by omega, List.replicate_succ']
/-- The number of some bits. -/
def val : List Nat → Nat → Nat
  | [], a => a
  | x :: r, a => val r (2 * a + x)
theorem val_append : ∀ (u w : List Nat) (a : Nat), val (u ++ w) a = val w (val u a)
  | [], _, _ => rfl
  | x :: u, w, a => by simp only [List.cons_append, val, val_append u w]
theorem val_bits : ∀ n v a, val (bits n v) a = a * 2 ^ n + v % 2 ^ n
  | 0, v, a => by simp [bits, val, Nat.mod_one]
  | n + 1, v, a => by
    rw [bits, val_append, val_bits n, val, val, Nat.pow_succ]
    have h1 : v % (2 ^ n * 2) = 2 * (v / 2 % 2 ^ n) + v % 2 := by
      rw [Nat.mul_comm (2 ^ n) 2, Nat.mod_mul]; omega
    rw [h1, ← Nat.mul_assoc]
    generalize a * 2 ^ n = A
    omega
theorem bits_inj {n v w : Nat} (hv : v < 2 ^ n) (hw : w < 2 ^ n) (h : bits n v = bits n w) : v = w := by
  have := congrArg (fun l => val l 0) h
  simp only [val_bits, Nat.zero_mul, Nat.zero_add, Nat.mod_eq_of_lt hv, Nat.mod_eq_of_lt hw] at this
  exact this
theorem bits_take (n v : Nat) : ∀ d, (bits (n + d) v).take n = bits n (v / 2 ^ d)
  | 0 => by
    have := bits_len n v
    simp only [Nat.add_zero, Nat.pow_zero, Nat.div_one]
    exact List.take_of_length_le (by omega)
  | d + 1 => by
    have h1 := bits_len (n + d) (v / 2)
    rw [← Nat.add_assoc, bits, List.take_append_of_le_length (by omega)]
    have h := bits_take n (v / 2) d
    rw [h, Nat.div_div_eq_div_mul, Nat.pow_succ, Nat.mul_comm]
/-- A word that begins another one is its number, as far as it goes. -/
theorem begins {n d v w : Nat} (hv : v < 2 ^ n) (hw : w < 2 ^ (n + d)) (h : (bits (n + d) w).take n = bits n v) : w / 2 ^ d = v := by
  rw [bits_take] at h
  refine bits_inj ?_ hv h
  rw [Nat.pow_add] at hw
  exact Nat.div_lt_of_lt_mul (by rw [Nat.mul_comm]; exact hw)

/-- The words in their order: the first is 0, each other one is one above the one ahead, as long as it is. L: the lengths, in order. -/
def num (L : List Nat) : Nat → Nat
  | 0 => 0
  | k + 1 => (num L k + 1) * 2 ^ (L.getD (k + 1) 0 - L.getD k 0)
/-- What the words ahead take. -/
def upTo (L : List Nat) : Nat → Nat
  | 0 => 0
  | k + 1 => upTo L k + 2 ^ (60 - L.getD k 0)
theorem upTo_mono (L : List Nat) {j k : Nat} (h : j ≤ k) : upTo L j ≤ upTo L k := by
  obtain ⟨d, rfl⟩ := Nat.exists_eq_add_of_le h
  clear h
  induction d with
  | zero => exact Nat.le_refl _
  | succ d ih =>
    rw [← Nat.add_assoc, upTo]
    exact Nat.le_trans ih (Nat.le_add_right _ _)
/-- Lengths that do not fall, of 60 at most. -/
structure Rise (L : List Nat) : Prop where
  up : ∀ k, k + 1 < L.length → L.getD k 0 ≤ L.getD (k + 1) 0
  most : ∀ k, k < L.length → L.getD k 0 ≤ 60
theorem Rise.le {L : List Nat} (h : Rise L) {j k : Nat} (hjk : j ≤ k) (hk : k < L.length) : L.getD j 0 ≤ L.getD k 0 := by
  obtain ⟨d, rfl⟩ := Nat.exists_eq_add_of_le hjk
  clear hjk
  induction d with
  | zero => exact Nat.le_refl _
  | succ d ih =>
    have := ih (by omega)
    have := h.up (j + d) (by omega)
    rw [← Nat.add_assoc]; omega
theorem num_at {L : List Nat} (h : Rise L) : ∀ k, k < L.length → num L k * 2 ^ (60 - L.getD k 0) = upTo L k
  | 0, _ => by simp [num, upTo]
  | k + 1, hk => by
    have h1 := num_at h k (by omega)
    have h2 := h.up k hk
    have h3 := h.most (k + 1) hk
    rw [num, upTo, ← h1, Nat.mul_assoc, ← Nat.pow_add, show L.getD (k + 1) 0 - L.getD k 0 + (60 - L.getD (k + 1) 0) = 60 - L.getD k 0 by omega, Nat.add_mul, Nat.one_mul]
/-- Each number fits, if all fit together. -/
theorem num_fits {L : List Nat} (h : Rise L) (hk : upTo L L.length ≤ 2 ^ 60) {k : Nat} (hl : k < L.length) : num L k < 2 ^ L.getD k 0 := by
  have h1 := num_at h k hl
  have h2 : upTo L (k + 1) ≤ 2 ^ 60 := Nat.le_trans (upTo_mono L (by omega)) hk
  rw [upTo, ← h1] at h2
  have h3 := h.most k hl
  have e : (2 : Nat) ^ 60 = 2 ^ L.getD k 0 * 2 ^ (60 - L.getD k 0) := by rw [← Nat.pow_add, show L.getD k 0 + (60 - L.getD k 0) = 60 by omega]
  have h4 : (num L k + 1) * 2 ^ (60 - L.getD k 0) ≤ 2 ^ L.getD k 0 * 2 ^ (60 - L.getD k 0) := by rw [Nat.add_mul, Nat.one_mul, ← e]; exact h2
  have := Nat.le_of_mul_le_mul_right h4 (Nat.two_pow_pos _)
  omega
/-- No word begins a later one. -/
theorem no_begin {L : List Nat} (h : Rise L) (hk : upTo L L.length ≤ 2 ^ 60) {j k : Nat} (hjk : j < k) (hl : k < L.length) : (bits (L.getD k 0) (num L k)).take (L.getD j 0) ≠ bits (L.getD j 0) (num L j) := by
  intro hb
  have hle := h.le (j := j) (k := k) (by omega) hl
  obtain ⟨d, hd⟩ := Nat.exists_eq_add_of_le hle
  have hf := num_fits h hk hl
  rw [hd] at hb hf
  have e := begins (num_fits h hk (show j < L.length by omega)) hf hb
  have h1 := num_at h j (by omega)
  have h2 := num_at h k hl
  have h3 : upTo L (j + 1) ≤ upTo L k := upTo_mono L (by omega)
  have h4 := h.most k hl
  rw [upTo, ← h1, ← h2] at h3
  have e2 : (2 : Nat) ^ (60 - L.getD j 0) = 2 ^ d * 2 ^ (60 - L.getD k 0) := by rw [← Nat.pow_add, show d + (60 - L.getD k 0) = 60 - L.getD j 0 by omega]
  have h5 : (num L j + 1) * 2 ^ d * 2 ^ (60 - L.getD k 0) ≤ num L k * 2 ^ (60 - L.getD k 0) := by
    rw [Nat.mul_assoc, ← e2, Nat.add_mul, Nat.one_mul]; exact h3
  have h6 := Nat.le_of_mul_le_mul_right h5 (Nat.two_pow_pos _)
  have h7 := (Nat.le_div_iff_mul_le (Nat.two_pow_pos d)).2 h6
  omega
/-- No word begins an earlier one of the same length. -/
theorem no_begin_back {L : List Nat} (h : Rise L) (hk : upTo L L.length ≤ 2 ^ 60) {j k : Nat} (hjk : j < k) (hl : k < L.length) (he : L.getD j 0 = L.getD k 0) : bits (L.getD j 0) (num L j) ≠ bits (L.getD k 0) (num L k) := by
  intro hb
  refine no_begin h hk hjk hl ?_
  rw [hb, he]
  exact List.take_of_length_le (by rw [bits_len]; exact Nat.le_refl _)
end Go.Proofs.Ytfecngncapenjaa.Wd
