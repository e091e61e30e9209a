/- The sum of a text, block by block; the nibbles and the bits of a check sum. -/
import Derived.Test.YthfikoghbnicoabDoorD10
import Derived.Test.YthfikoghbnicoabDoorD11
namespace Go.Proofs.YthfikoghbnicoabDoor
open Go.RowKit

theorem wrd_64 (b : Nat → Int) (j : Nat) : wrd b 64 j = if j < 16 then b (4 * j) * 16777216 + b (4 * j + 1) * 65536 + b (4 * j + 2) * 256 + b (4 * j + 3) else 0 := by
  unfold wrd
  by_cases h : j < 16
  · rw [if_pos h, if_neg (by omega), if_neg (by omega), if_neg (by omega), if_neg (by omega)]
  · rw [if_neg h, if_pos (by omega)]

theorem wrd_congr {b b' : Nat → Int} (h : ∀ j, j < 64 → b j = b' j) : wrd b 64 = wrd b' 64 := by
  funext j
  rw [wrd_64, wrd_64]
  by_cases hj : j < 16
  · rw [if_pos hj, if_pos hj, h _ (by omega), h _ (by omega), h _ (by omega), h _ (by omega)]
  · rw [if_neg hj, if_neg hj]

theorem mixS_congr (K s : Nat → Int) {b b' : Nat → Int} (h : ∀ j, j < 64 → b j = b' j) : mixS K s b = mixS K s b' := by
  unfold mixS; rw [wrd_congr h]

theorem ext_low (f : Nat → Int) (i j : Nat) (h : j < i + 16) : ∀ d, ext f (i + d) j = ext f i j := by
  intro d
  induction d with
  | zero => rfl
  | succ d ih =>
    show upd (ext f (i + d)) (i + d + 16) _ j = _
    unfold upd
    rw [if_neg (by omega), ih]
theorem ext_base (f : Nat → Int) (j : Nat) (h : j < 16) : ext f 48 j = f j := by
  have := ext_low f 0 j (by omega) 48
  simpa [ext] using this
theorem ext_rec (f : Nat → Int) (i : Nat) (h : i < 48) : ext f 48 (i + 16) = nxt (ext f 48 (i + 14)) (ext f 48 (i + 9)) (ext f 48 (i + 1)) (ext f 48 i) := by
  have e : ∀ j, j < i + 1 + 16 → ext f 48 j = ext f (i + 1) j := fun j hj => by
    have := ext_low f (i + 1) j hj (47 - i)
    rwa [show i + 1 + (47 - i) = 48 by omega] at this
  have e0 : ∀ j, j < i + 16 → ext f 48 j = ext f i j := fun j hj => by
    have := ext_low f i j hj (48 - i)
    rwa [show i + (48 - i) = 48 by omega] at this
  rw [e (i + 16) (by omega), e0 (i + 14) (by omega), e0 (i + 9) (by omega), e0 (i + 1) (by omega), e0 i (by omega)]
  show upd (ext f i) (i + 16) _ (i + 16) = _
  unfold upd
  rw [if_pos rfl]

/-- The state behind n blocks of M. -/
def chain (K S : Nat → Int) (M : List Int) : Nat → Nat → Int
  | 0 => S
  | n + 1 => mixS K (chain K S M n) (fun j => M.getD (64 * n + j) 0)

theorem fold_chain (K S : Nat → Int) (M : List Int) : ∀ m, m ≤ M.length → ((M.take m).foldl (wstep K) (q00 S)).n = m ∧ ((M.take m).foldl (wstep K) (q00 S)).s = chain K S M (m / 64) ∧ ∀ j, j < m % 64 → ((M.take m).foldl (wstep K) (q00 S)).b j = M.getD (64 * (m / 64) + j) 0 := by
  intro m
  induction m with
  | zero => intro _; exact ⟨rfl, rfl, fun j hj => absurd hj (by omega)⟩
  | succ m ih =>
    intro hm
    obtain ⟨h1, h2, h3⟩ := ih (by omega)
    rw [take_snoc M m (by omega), List.foldl_append]
    obtain ⟨q, hq⟩ : ∃ q, q = (M.take m).foldl (wstep K) (q00 S) := ⟨_, rfl⟩
    rw [← hq] at h1 h2 h3 ⊢
    show (wstep K q (M.getD m 0)).n = m + 1 ∧ (wstep K q (M.getD m 0)).s = _ ∧ _
    have hu : ∀ j, j < m % 64 + 1 → upd q.b (m % 64) (M.getD m 0) j = M.getD (64 * (m / 64) + j) 0 := by
      intro j hj
      unfold upd
      by_cases e : j = m % 64
      · rw [if_pos e, e, show 64 * (m / 64) + m % 64 = m by omega]
      · rw [if_neg e]; exact h3 j (by omega)
    refine ⟨by show q.n + 1 = _; rw [h1], ?_, ?_⟩
    · show (if (q.n + 1) % 64 = 0 then mixS K q.s (upd q.b (q.n % 64) (M.getD m 0)) else q.s) = _
      rw [h1]
      by_cases hz : (m + 1) % 64 = 0
      · rw [if_pos hz, show (m + 1) / 64 = m / 64 + 1 by omega, h2]
        exact mixS_congr K _ (fun j hj => hu j (by omega))
      · rw [if_neg hz, show (m + 1) / 64 = m / 64 by omega, h2]
    · intro j hj
      show upd q.b (q.n % 64) (M.getD m 0) j = _
      rw [h1, show (m + 1) / 64 = m / 64 by omega]
      exact hu j (by omega)

theorem fold_s (K S : Nat → Int) (M : List Int) : (M.foldl (wstep K) (q00 S)).s = chain K S M (M.length / 64) := by
  have := (fold_chain K S M M.length (Nat.le_refl _)).2.1
  rwa [List.take_of_length_le (Nat.le_refl _)] at this

theorem shaS_chain (K S : Nat → Int) (bs : List Int) : shaS K S bs = chain K S (bs ++ padB bs.length) ((bs ++ padB bs.length).length / 64) := by
  rw [← fold_s, List.foldl_append]
  unfold shaS fin
  rw [foldl_n]
  have : (q00 S).n + bs.length = bs.length := by show 0 + _ = _; omega
  rw [this]

theorem bitN_lin (a b : Nat) : bitN (a ^^^ b) = bitN a ^^^ bitN b := by
  unfold bitN
  have h1 : (a ^^^ b) % 2 = (a + b) % 2 := by
    have ht := Nat.testBit_xor a b 0
    simp only [Nat.testBit_zero] at ht
    have hab : (a + b) % 2 = (a % 2 + b % 2) % 2 := Nat.add_mod a b 2
    rw [hab]
    have hz := Nat.mod_two_eq_zero_or_one (a ^^^ b)
    generalize (a ^^^ b) % 2 = z at ht hz ⊢
    have hx := Nat.mod_two_eq_zero_or_one a
    have hy := Nat.mod_two_eq_zero_or_one b
    generalize a % 2 = x at ht hx ⊢
    generalize b % 2 = y at ht hy ⊢
    rcases hx with rfl | rfl <;> rcases hy with rfl | rfl <;> rcases hz with rfl | rfl <;> simp at ht ⊢
  have h2 : (a ^^^ b) / 2 = a / 2 ^^^ b / 2 := Nat.xor_div_two
  rw [h1, h2]
  rcases Nat.mod_two_eq_zero_or_one a with ha | ha <;> rcases Nat.mod_two_eq_zero_or_one b with hb | hb
  · rw [if_neg (by omega), if_neg (by omega), if_neg (by omega)]
  · rw [if_pos (by omega), if_neg (by omega), if_pos hb, Nat.xor_assoc]
  · rw [if_pos (by omega), if_pos ha, if_neg (by omega), Nat.xor_assoc, Nat.xor_assoc, Nat.xor_comm (b / 2)]
  · rw [if_neg (by omega), if_pos ha, if_pos hb]
    rw [Nat.xor_assoc, Nat.xor_comm 2197175160, Nat.xor_assoc, Nat.xor_self, Nat.xor_zero]
theorem bitsN_lin (k a b : Nat) : bitsN k (a ^^^ b) = bitsN k a ^^^ bitsN k b := by
  induction k with
  | zero => rfl
  | succ k ih => show bitN (bitsN k _) = _; rw [ih, bitN_lin]; rfl
theorem bitN_double (m : Nat) : bitN (2 * m) = m := by unfold bitN; rw [if_neg (by omega)]; omega
theorem bitsN_shift : ∀ (k m : Nat), bitsN k (2 ^ k * m) = m := by
  intro k
  induction k with
  | zero => intro m; simp [bitsN]
  | succ k ih => intro m; show bitN (bitsN k _) = _; rw [show 2 ^ (k + 1) * m = 2 ^ k * (2 * m) by rw [Nat.pow_succ, Nat.mul_assoc], ih, bitN_double]
theorem bitsN_add (k l r : Nat) : bitsN (k + l) r = bitsN k (bitsN l r) := by
  induction k with
  | zero => simp [bitsN]
  | succ k ih => rw [show k + 1 + l = (k + l) + 1 by omega]; show bitN (bitsN (k + l) r) = bitN _; rw [ih]

theorem split_xor (k a b : Nat) (h : b < 2 ^ k) : 2 ^ k * a ^^^ b = 2 ^ k * a + b := by
  rw [Nat.two_pow_add_eq_or_of_lt h]
  apply Nat.eq_of_testBit_eq
  intro i
  rw [Nat.testBit_xor, Nat.testBit_or, Nat.testBit_two_pow_mul]
  by_cases hi : k ≤ i
  · rw [Nat.testBit_lt_two_pow (Nat.lt_of_lt_of_le h (Nat.pow_le_pow_right (by decide) hi))]; simp
  · simp [hi]

/-- The nibbles. -/
def nibT (k : Nat) : Nat := [0, 274646895, 549293790, 820201905, 1098587580, 1361435347, 1640403810, 1905808397, 2197175160, 2460548119, 2722870694, 2987750089, 3280807620, 3553878443, 3811616794, 4084100981].getD k 0
theorem nibT_bits : ∀ k : Fin 16, bitsN 4 k.val = nibT k.val := by decide
theorem nibT_lt (k : Nat) : nibT k < 4294967296 := by
  rcases Nat.lt_or_ge k 16 with h | h
  · have : ∀ k : Fin 16, nibT k.val < 4294967296 := by decide
    exact this ⟨k, h⟩
  · have : nibT k = 0 := by unfold nibT; rw [List.getD_eq_getElem?_getD, List.getElem?_eq_none (by simpa using h)]; rfl
    rw [this]; decide
theorem nib_bits (r : Nat) : nibN nibT r = bitsN 4 r := by
  have e : r = 2 ^ 4 * (r / 16) ^^^ r % 16 := by rw [split_xor 4 _ _ (by omega)]; omega
  have : bitsN 4 r = bitsN 4 (2 ^ 4 * (r / 16)) ^^^ bitsN 4 (r % 16) := by rw [← bitsN_lin, ← e]
  rw [this, bitsN_shift, nibT_bits ⟨r % 16, by omega⟩]
  rfl
theorem crcB_ref (r x : Nat) : crcB nibT r x = refB r x := by
  unfold crcB refB
  rw [nib_bits, nib_bits, ← bitsN_add]
theorem crcM_ref (sum : Nat) (p : List Nat) : crcM nibT sum p = refM sum p := by
  unfold crcM refM
  have : crcB nibT = refB := by funext r x; exact crcB_ref r x
  rw [this]
theorem crc_known : crcM nibT 0 [49, 50, 51, 52, 53, 54, 55, 56, 57] = 3808858755 := by decide
end Go.Proofs.YthfikoghbnicoabDoor
