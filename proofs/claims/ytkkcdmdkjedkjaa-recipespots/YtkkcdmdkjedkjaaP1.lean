/- Plain: where a byte is, the pieces of bytes. -/
import Derived.WalkKit
namespace Go.Proofs.Ytkkcdmdkjedkjaa.Rp
/-- How many bytes chunks have, each with those ahead of it. -/
def upto (ls : List Nat) (i : Nat) : Nat := (ls.take i).sum
theorem upto_zero (ls : List Nat) : upto ls 0 = 0 := by simp [upto]
theorem upto_succ (ls : List Nat) (i : Nat) (h : i < ls.length) : upto ls (i + 1) = upto ls i + ls.getD i 0 := by
  unfold upto
  rw [List.take_add_one, List.getElem?_eq_getElem h, List.sum_append]
  simp [List.getD, List.getElem?_eq_getElem h]
theorem upto_cons (l : Nat) (ls : List Nat) (i : Nat) : upto (l :: ls) (i + 1) = l + upto ls i := by simp [upto]
theorem upto_len (ls : List Nat) : upto ls ls.length = ls.sum := by simp [upto]
theorem upto_mono (ls : List Nat) {i j : Nat} (h : i ≤ j) : upto ls i ≤ upto ls j := by
  induction ls generalizing i j with
  | nil => simp [upto]
  | cons l ls ih =>
    cases i with
    | zero => simp [upto]
    | succ i =>
      cases j with
      | zero => omega
      | succ j => rw [upto_cons, upto_cons]; have := ih (i := i) (j := j) (by omega); omega
theorem upto_le (ls : List Nat) (i : Nat) : upto ls i ≤ ls.sum := by
  by_cases h : i ≤ ls.length
  · rw [← upto_len]; exact upto_mono ls h
  · unfold upto; rw [List.take_of_length_le (by omega)]; exact Nat.le_refl _
/-- The document's Find. -/
def fnd : List Nat → Nat → Nat → Option (Nat × Nat)
  | [], _, _ => none
  | l :: ls, i, off => if off < l then some (i, off) else fnd ls (i + 1) (off - l)
theorem fnd_at : ∀ (ls : List Nat) (k off i : Nat), i < ls.length → upto ls i ≤ off → off < upto ls (i + 1) → fnd ls k off = some (k + i, off - upto ls i)
  | [], _, _, i, h, _, _ => by simp at h
  | l :: ls, k, off, 0, _, _, h2 => by
    rw [upto_cons, upto_zero] at h2
    unfold fnd
    rw [if_pos (by omega), upto_zero]
    rfl
  | l :: ls, k, off, i + 1, h, h1, h2 => by
    rw [upto_cons] at h1 h2
    unfold fnd
    rw [if_neg (by omega), fnd_at ls (k + 1) (off - l) i (by simpa using h) (by omega) (by omega), upto_cons, show k + 1 + i = k + (i + 1) by omega, show off - l - upto ls i = off - (l + upto ls i) by omega]
theorem fnd_none : ∀ (ls : List Nat) (k off : Nat), ls.sum ≤ off → fnd ls k off = none
  | [], _, _, _ => rfl
  | l :: ls, k, off, h => by
    simp at h
    unfold fnd
    rw [if_neg (by omega), fnd_none ls (k + 1) (off - l) (by omega)]
theorem fnd_spec : ∀ (ls : List Nat) (k off : Nat), off < ls.sum → ∃ i, i < ls.length ∧ upto ls i ≤ off ∧ off < upto ls (i + 1) ∧ fnd ls k off = some (k + i, off - upto ls i)
  | [], k, off, h => by simp at h
  | l :: ls, k, off, h => by
    simp at h
    by_cases hl : off < l
    · exact ⟨0, by simp, by rw [upto_zero]; omega, by rw [upto_cons, upto_zero]; omega, by unfold fnd; rw [if_pos hl, upto_zero]; rfl⟩
    · obtain ⟨i, h1, h2, h3, h4⟩ := fnd_spec ls (k + 1) (off - l) (by omega)
      refine ⟨i + 1, by simpa using h1, by rw [upto_cons]; omega, by rw [upto_cons]; omega, ?_⟩
      unfold fnd
      rw [if_neg hl, h4, upto_cons, show k + 1 + i = k + (i + 1) by omega, show off - l - upto ls i = off - (l + upto ls i) by omega]
/-- A piece: of which chunk, from where, how many bytes. -/
structure Pc where
  i : Nat
  f : Nat
  n : Nat
/-- The piece of one chunk of l bytes, of the bytes from a to b as it counts them. -/
def pc1 (l i : Nat) (a b : Int) : List Pc := if max a 0 < min b l then [⟨i, (max a 0).toNat, (min b l - max a 0).toNat⟩] else []
/-- The document's pieces. -/
def pcs : List Nat → Nat → Int → Int → List Pc
  | [], _, _, _ => []
  | l :: ls, i, a, b => pc1 l i a b ++ pcs ls (i + 1) (a - l) (b - l)
theorem pcs_snoc : ∀ (ls : List Nat) (i : Nat) (a b : Int) (k : Nat), k < ls.length → pcs (ls.take (k + 1)) i a b = pcs (ls.take k) i a b ++ pc1 (ls.getD k 0) (i + k) (a - upto ls k) (b - upto ls k)
  | [], _, _, _, k, h => by simp at h
  | l :: ls, i, a, b, 0, _ => by simp [pcs, upto_zero]
  | l :: ls, i, a, b, k + 1, h => by
    have h1 := pcs_snoc ls (i + 1) (a - l) (b - l) k (by simpa using h)
    simp only [List.take_succ_cons, pcs, List.getD_cons_succ, upto_cons] at h1 ⊢
    rw [h1, List.append_assoc, show i + 1 + k = i + (k + 1) by omega, show a - (l : Int) - (upto ls k : Int) = a - ((l + upto ls k : Nat) : Int) by omega, show b - (l : Int) - (upto ls k : Int) = b - ((l + upto ls k : Nat) : Int) by omega]
/-- The program's pieces, from a chunk on. -/
def rn : List Nat → Nat → Nat → Nat → List Pc
  | [], _, _, _ => []
  | l :: ls, i, a, n => if n = 0 then [] else ⟨i, a, min n (l - a)⟩ :: rn ls (i + 1) 0 (n - min n (l - a))
theorem rn_zero (ls : List Nat) (i a : Nat) : rn ls i a 0 = [] := by cases ls <;> simp [rn]
theorem pcs_none : ∀ (ls : List Nat) (i : Nat) (a b : Int), b ≤ 0 → pcs ls i a b = []
  | [], _, _, _, _ => rfl
  | l :: ls, i, a, b, h => by
    unfold pcs pc1
    rw [if_neg (by omega), pcs_none ls (i + 1) (a - l) (b - l) (by omega)]
    rfl
theorem rn_pcs0 : ∀ (ls : List Nat) (i n : Nat) (a : Int), (∀ l ∈ ls, 1 ≤ l) → a ≤ 0 → rn ls i 0 n = pcs ls i a n
  | [], _, _, _, _, _ => rfl
  | l :: ls, i, n, a, h, ha => by
    have hl := h l (by simp)
    by_cases hn : n = 0
    · subst hn; rw [rn_zero, pcs_none _ _ _ _ (by omega)]
    · unfold rn pcs pc1
      rw [if_neg hn, if_pos (by omega), rn_pcs0 ls (i + 1) (n - min n (l - 0)) (a - l) (fun x hx => h x (by simp [hx])) (by omega)]
      simp only [List.cons_append, List.nil_append]
      congr 1
      · congr 1 <;> omega
      · by_cases hnl : n ≤ l
        · rw [pcs_none _ _ _ _ (by omega), pcs_none _ _ _ _ (by omega)]
        · congr 1; omega
theorem rn_pcs : ∀ (ls : List Nat) (k i off n : Nat), (∀ l ∈ ls, 1 ≤ l) → i < ls.length → upto ls i ≤ off → off < upto ls (i + 1) → rn (ls.drop i) (k + i) (off - upto ls i) n = pcs ls k off ((off : Int) + n)
  | [], _, i, _, _, _, h, _, _ => by simp at h
  | l :: ls, k, 0, off, n, h, _, h1, h2 => by
    rw [upto_cons, upto_zero] at h2
    rw [upto_zero, List.drop_zero]
    have hl := h l (by simp)
    by_cases hn : n = 0
    · subst hn
      rw [rn_zero]
      unfold pcs pc1
      rw [if_neg (by omega), pcs_none _ _ _ _ (by omega)]
      rfl
    · unfold rn pcs pc1
      rw [if_neg hn, if_pos (by omega), rn_pcs0 ls (k + 0 + 1) (n - min n (l - (off - 0))) ((off : Int) - l) (fun x hx => h x (by simp [hx])) (by omega)]
      simp only [List.cons_append, List.nil_append]
      congr 1
      · congr 1 <;> omega
      · by_cases hnl : off + n ≤ l
        · rw [pcs_none _ _ _ _ (by omega), pcs_none _ _ _ _ (by omega)]
        · congr 1; omega
  | l :: ls, k, i + 1, off, n, h, hi, h1, h2 => by
    rw [upto_cons] at h1 h2
    have h3 := rn_pcs ls (k + 1) i (off - l) n (fun x hx => h x (by simp [hx])) (by simpa using hi) (by omega) (by omega)
    rw [List.drop_succ_cons, upto_cons, show k + (i + 1) = k + 1 + i by omega, show off - (l + upto ls i) = off - l - upto ls i by omega, h3]
    conv => rhs; unfold pcs pc1
    rw [if_neg (by omega), List.nil_append]
    congr 1 <;> omega
theorem pcs_over : ∀ (ls : List Nat) (i : Nat) (a b c : Int), (ls.sum : Int) ≤ b → (ls.sum : Int) ≤ c → pcs ls i a b = pcs ls i a c
  | [], _, _, _, _, _, _ => rfl
  | l :: ls, i, a, b, c, h1, h2 => by
    simp at h1 h2
    unfold pcs pc1
    rw [pcs_over ls (i + 1) (a - l) (b - l) (c - l) (by omega) (by omega), show min b (l : Int) = l by omega, show min c (l : Int) = l by omega]
theorem pcs_end : ∀ (ls : List Nat) (i : Nat) (a b : Int), (ls.sum : Int) ≤ a → pcs ls i a b = []
  | [], _, _, _, _ => rfl
  | l :: ls, i, a, b, h => by
    simp at h
    unfold pcs pc1
    rw [if_neg (by omega), pcs_end ls (i + 1) (a - l) (b - l) (by omega)]
    rfl
/-- The bytes of chunks, each its chunk's number and its place. -/
def bts : List Nat → Nat → List (Nat × Nat)
  | [], _ => []
  | l :: ls, i => (List.range l).map (fun k => (i, k)) ++ bts ls (i + 1)
theorem bts_len : ∀ (ls : List Nat) (i : Nat), (bts ls i).length = ls.sum
  | [], _ => rfl
  | l :: ls, i => by simp [bts, bts_len ls (i + 1)]
/-- The bytes of a piece. -/
def tl1 (p : Pc) : List (Nat × Nat) := (List.range p.n).map (fun k => (p.i, p.f + k))
def tld (ps : List Pc) : List (Nat × Nat) := (ps.map tl1).flatten
theorem tld_app (a b : List Pc) : tld (a ++ b) = tld a ++ tld b := by simp [tld]
theorem drop_take_app {α : Type} (X Y : List α) (a b : Nat) : ((X ++ Y).take b).drop a = (X.take b).drop a ++ (Y.take (b - X.length)).drop (a - X.length) := by
  rw [List.take_append, List.drop_append]
  congr 1
  by_cases h : b ≤ X.length
  · rw [show b - X.length = 0 by omega]; simp
  · congr 1; rw [List.length_take]; omega
theorem tl_pc1 (l i : Nat) (a b : Int) : tld (pc1 l i a b) = (((List.range l).map (fun k => (i, k))).take b.toNat).drop a.toNat := by
  unfold pc1
  apply List.ext_getElem?
  intro j
  rw [List.getElem?_drop, List.getElem?_take]
  by_cases h : max a 0 < min b l
  · rw [if_pos h]
    simp only [tld, List.map_cons, List.map_nil, List.flatten_cons, List.flatten_nil, List.append_nil, tl1]
    by_cases hj : j < (min b l - max a 0).toNat
    · rw [if_pos (by omega)]
      rw [List.getElem?_map, List.getElem?_map, List.getElem?_range (by omega), List.getElem?_range (by omega)]
      simp only [Option.map_some, Option.some.injEq, Prod.mk.injEq, true_and]
      omega
    · rw [List.getElem?_eq_none (by simp; omega)]
      by_cases hb : a.toNat + j < b.toNat
      · rw [if_pos hb, List.getElem?_eq_none (by simp; omega)]
      · rw [if_neg hb]
  · rw [if_neg h]
    simp only [tld, List.map_nil, List.flatten_nil, List.getElem?_nil]
    by_cases hb : a.toNat + j < b.toNat
    · rw [if_pos hb, List.getElem?_eq_none (by simp; omega)]
    · rw [if_neg hb]
theorem tld_pcs : ∀ (ls : List Nat) (i : Nat) (a b : Int), tld (pcs ls i a b) = ((bts ls i).take b.toNat).drop a.toNat
  | [], _, _, _ => by simp [pcs, tld, bts]
  | l :: ls, i, a, b => by
    unfold pcs bts
    rw [tld_app, tl_pc1, tld_pcs ls (i + 1) (a - l) (b - l), drop_take_app]
    simp only [List.length_map, List.length_range]
    rw [show (b - (l : Int)).toNat = b.toNat - l by omega, show (a - (l : Int)).toNat = a.toNat - l by omega]
/-- Pieces that are right of chunks of such lengths. -/
def pok (ls : List Nat) (p : Pc) : Prop := p.i < ls.length ∧ 1 ≤ p.n ∧ p.f + p.n ≤ ls.getD p.i 0
theorem pcs_ok : ∀ (ls : List Nat) (i : Nat) (a b : Int), ∀ p ∈ pcs ls i a b, i ≤ p.i ∧ p.i - i < ls.length ∧ 1 ≤ p.n ∧ p.f + p.n ≤ ls.getD (p.i - i) 0
  | [], _, _, _, p, h => by simp [pcs] at h
  | l :: ls, i, a, b, p, h => by
    unfold pcs at h
    rcases List.mem_append.1 h with h | h
    · unfold pc1 at h
      split at h
      · simp at h
        subst h
        simp
        omega
      · simp at h
    · obtain ⟨h1, h2, h3, h4⟩ := pcs_ok ls (i + 1) (a - l) (b - l) p h
      refine ⟨by omega, by simp; omega, h3, ?_⟩
      rw [show p.i - i = (p.i - (i + 1)) + 1 by omega, List.getD_cons_succ]
      exact h4
/-- In pieces no chunk stands twice. -/
theorem pcs_rise : ∀ (ls : List Nat) (i : Nat) (a b : Int), (pcs ls i a b).Pairwise (fun x y => x.i < y.i)
  | [], _, _, _ => by simp [pcs]
  | l :: ls, i, a, b => by
    unfold pcs
    rw [List.pairwise_append]
    refine ⟨by unfold pc1; split <;> simp, pcs_rise ls (i + 1) (a - l) (b - l), fun x hx y hy => ?_⟩
    have h2 := (pcs_ok ls (i + 1) (a - l) (b - l) y hy).1
    unfold pc1 at hx
    split at hx
    · simp at hx; subst hx; simp; omega
    · simp at hx
theorem pcs_len : ∀ (ls : List Nat) (i : Nat) (a b : Int), (pcs ls i a b).length ≤ ls.length
  | [], _, _, _ => by simp [pcs]
  | l :: ls, i, a, b => by
    have := pcs_len ls (i + 1) (a - l) (b - l)
    have h1 : (pc1 l i a b).length ≤ 1 := by unfold pc1; split <;> simp
    unfold pcs
    rw [List.length_append, List.length_cons]
    omega
end Go.Proofs.Ytkkcdmdkjedkjaa.Rp
