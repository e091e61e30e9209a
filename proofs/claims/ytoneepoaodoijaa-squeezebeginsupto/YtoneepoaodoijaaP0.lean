/- Matches: how many bytes two places have alike; the longest, of like ones the nearest (plain). -/
import Derived.Test.YtoneepoaodoijaaQ1
namespace Go.Proofs.Ytoneepoaodoijaa
open Oct

/-- How many bytes, from i on, both have alike, of m at most. -/
def alk (p : List Int) (j i : Nat) : Nat → Nat → Nat
  | 0, _ => 0
  | m + 1, t => if p.getD (j + t) 0 = p.getD (i + t) 0 then alk p j i m (t + 1) + 1 else 0
theorem alk_le (p : List Int) (j i : Nat) : ∀ m t, alk p j i m t ≤ m
  | 0, _ => Nat.le_refl _
  | m + 1, t => by
    rw [alk]
    split
    · have := alk_le p j i m (t + 1); omega
    · omega
theorem alk_eq (p : List Int) (j i : Nat) : ∀ m t s, s < alk p j i m t → p.getD (j + (t + s)) 0 = p.getD (i + (t + s)) 0
  | 0, _, s, h => by simp [alk] at h
  | m + 1, t, s, h => by
    rw [alk] at h
    split at h
    · rename_i he
      match s with
      | 0 => exact he
      | s + 1 =>
        have := alk_eq p j i m (t + 1) s (by omega)
        rw [show t + (s + 1) = t + 1 + s by omega]
        exact this
    · omega
theorem alk_ne (p : List Int) (j i : Nat) : ∀ m t, alk p j i m t < m → p.getD (j + (t + alk p j i m t)) 0 ≠ p.getD (i + (t + alk p j i m t)) 0
  | 0, _, h => by omega
  | m + 1, t, h => by
    rw [alk] at h ⊢
    by_cases he : p.getD (j + t) 0 = p.getD (i + t) 0
    · rw [if_pos he] at h ⊢
      have := alk_ne p j i m (t + 1) (by omega)
      rw [show t + (alk p j i m (t + 1) + 1) = t + 1 + alk p j i m (t + 1) by omega]
      exact this
    · rw [if_neg he]
      exact he
/-- What is so told is told of one number alone. -/
theorem alk_one {p : List Int} {j i m n : Nat} (h1 : n ≤ m) (h2 : ∀ s, s < n → p.getD (j + s) 0 = p.getD (i + s) 0) (h3 : n < m → p.getD (j + n) 0 ≠ p.getD (i + n) 0) : alk p j i m 0 = n := by
  have a1 := alk_le p j i m 0
  have a2 := alk_eq p j i m 0
  have a3 := alk_ne p j i m 0
  simp only [Nat.zero_add] at a2 a3
  rcases Nat.lt_trichotomy (alk p j i m 0) n with h | h | h
  · exact absurd (h2 _ h) (a3 (by omega))
  · exact h
  · exact absurd (a2 _ h) (h3 (by omega))
/-- How many bytes a match at a place may have. -/
def mst (p : List Int) (i : Nat) : Nat := min 131 (p.length - i)
/-- The best match among the first distances: how many bytes, how far. -/
def bst (p : List Int) (i : Nat) : Nat → Nat × Nat
  | 0 => (0, 0)
  | d + 1 => if 4 ≤ alk p (i - (d + 1)) i (mst p i) 0 ∧ (bst p i d).1 < alk p (i - (d + 1)) i (mst p i) 0 then (alk p (i - (d + 1)) i (mst p i) 0, d + 1) else bst p i d
def mt (p : List Int) (i : Nat) : Nat × Nat := bst p i (min i 4096)
theorem bst_le (p : List Int) (i : Nat) : ∀ d, (bst p i d).1 ≤ mst p i ∧ (bst p i d).2 ≤ d ∧ ((bst p i d).1 = 0 ∨ (4 ≤ (bst p i d).1 ∧ 1 ≤ (bst p i d).2))
  | 0 => ⟨Nat.zero_le _, Nat.le_refl _, .inl rfl⟩
  | d + 1 => by
    have ih := bst_le p i d
    rw [bst]
    split
    · rename_i h
      exact ⟨alk_le _ _ _ _ _, Nat.le_refl _, .inr ⟨h.1, by omega⟩⟩
    · exact ⟨ih.1, by omega, ih.2.2⟩
theorem bst_skip (p : List Int) (i d : Nat) : ∀ e, (∀ f, d < f → f ≤ d + e → ¬ (4 ≤ alk p (i - f) i (mst p i) 0 ∧ (bst p i d).1 < alk p (i - f) i (mst p i) 0)) → bst p i (d + e) = bst p i d
  | 0, _ => rfl
  | e + 1, h => by
    have ih := bst_skip p i d e (fun f h1 h2 => h f h1 (by omega))
    rw [← Nat.add_assoc, bst, ih, if_neg (h (d + e + 1) (by omega) (by omega))]
/-- Four bytes at a place. -/
def fo (p : List Int) (j : Nat) : List Int := (p.drop j).take 4
/-- The former places that have the same four bytes. -/
def fmr (p : List Int) (at' : Nat) (k : List Int) : List Nat := (List.range at').filter (fun j => fo p j = k)
theorem fo_get (p : List Int) {j : Nat} (h : j + 4 ≤ p.length) : fo p j = [p.getD j 0, p.getD (j + 1) 0, p.getD (j + 2) 0, p.getD (j + 3) 0] := by
  apply List.ext_getElem
  · simp [fo]; omega
  · intro t h1 h2
    have ht : t < 4 := by simpa using h2
    have hg : (fo p j)[t] = p.getD (j + t) 0 := by simp [fo, List.getD, List.getElem?_eq_getElem (show j + t < p.length by omega)]
    rw [hg]
    match t, ht with
    | 0, _ => rfl
    | 1, _ => rfl
    | 2, _ => rfl
    | 3, _ => rfl
theorem fo_alk {p : List Int} {j i : Nat} (hj : j < i) (hi : i + 4 ≤ p.length) : fo p j = fo p i ↔ 4 ≤ alk p j i (mst p i) 0 := by
  have hm : 4 ≤ mst p i := by unfold mst; omega
  rw [fo_get p (by omega), fo_get p hi]
  constructor
  · intro h
    simp only [List.cons.injEq, and_true] at h
    rcases Nat.lt_or_ge (alk p j i (mst p i) 0) 4 with hl | hl
    · have := alk_ne p j i (mst p i) 0 (by omega)
      simp only [Nat.zero_add] at this
      generalize alk p j i (mst p i) 0 = n at hl this
      match n, hl with
      | 0, _ => exact absurd h.1 this
      | 1, _ => exact absurd h.2.1 this
      | 2, _ => exact absurd h.2.2.1 this
      | 3, _ => exact absurd h.2.2.2 this
    · exact hl
  · intro h
    have := alk_eq p j i (mst p i) 0
    simp only [Nat.zero_add] at this
    have e0 := this 0 (by omega)
    have e1 := this 1 (by omega)
    have e2 := this 2 (by omega)
    have e3 := this 3 (by omega)
    simp only [Nat.add_zero] at e0
    rw [e0, e1, e2, e3]
end Go.Proofs.Ytoneepoaodoijaa
