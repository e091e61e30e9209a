/- The matches that are taken, one behind the other (plain). -/
import Derived.Test.YtoneepoaodoijaaP3
namespace Go.Proofs.Ytoneepoaodoijaa

theorem bst_low (p : List Int) (i : Nat) (h : mst p i < 4) : ∀ d, bst p i d = (0, 0)
  | 0 => rfl
  | d + 1 => by
    have := alk_le p (i - (d + 1)) i (mst p i) 0
    rw [bst, if_neg (by omega), bst_low p i h d]
theorem mt_end {p : List Int} {i : Nat} (h : p.length < i + 4) : mt p i = (0, 0) := bst_low p i (by unfold mst; omega) _
theorem bst_same (p : List Int) (i : Nat) : ∀ d s, s < (bst p i d).1 → p.getD (i - (bst p i d).2 + s) 0 = p.getD (i + s) 0
  | 0, s, h => by simp [bst] at h
  | d + 1, s, h => by
    rw [bst] at h ⊢
    split at h
    · rename_i hc
      rw [if_pos hc]
      have := alk_eq p (i - (d + 1)) i (mst p i) 0 s h
      simpa using this
    · rename_i hc
      rw [if_neg hc]
      exact bst_same p i d s h
/-- What a match is. -/
structure IsM (p : List Int) (a f n : Nat) : Prop where
  n4 : 4 ≤ n
  n131 : n ≤ 131
  fit : a + n ≤ p.length
  f1 : 1 ≤ f
  fa : f ≤ a
  f4 : f ≤ 4096
  same : ∀ s, s < n → p.getD (a - f + s) 0 = p.getD (a + s) 0
theorem mt_is {p : List Int} {i : Nat} (h : (mt p i).1 ≠ 0) : IsM p i (mt p i).2 (mt p i).1 := by
  have h1 := bst_le p i (min i 4096)
  have h2 := bst_same p i (min i 4096)
  unfold mt at h ⊢
  have h3 : mst p i ≤ 131 ∧ mst p i ≤ p.length - i := by unfold mst; omega
  rcases h1.2.2 with h4 | h4
  · exact absurd h4 h
  · exact ⟨h4.1, by omega, by omega, h4.2, by omega, by omega, h2⟩
/-- The matches from a place on. -/
def mts (p : List Int) : Nat → Nat → List (Nat × Nat × Nat)
  | 0, _ => []
  | f + 1, i => if (mt p i).1 = 0 then mts p f (i + 1) else (i, (mt p i).2, (mt p i).1) :: mts p f (i + (mt p i).1)
theorem mts_end (p : List Int) : ∀ f i, p.length < i + 4 → mts p f i = []
  | 0, _, _ => rfl
  | f + 1, i, h => by rw [mts, mt_end h, if_pos rfl, mts_end p f (i + 1) (by omega)]
theorem mts_fuel (p : List Int) : ∀ f g i, p.length - i ≤ f → p.length - i ≤ g → mts p f i = mts p g i
  | 0, g, i, h, _ => by rw [mts_end p g i (by omega)]; rfl
  | f + 1, 0, i, _, h => by rw [mts_end p (f + 1) i (by omega)]; rfl
  | f + 1, g + 1, i, h, k => by
    rw [mts, mts]
    by_cases hn : (mt p i).1 = 0
    · rw [if_pos hn, if_pos hn]
      exact mts_fuel p f g (i + 1) (by omega) (by omega)
    · have := (mt_is hn).n4
      rw [if_neg hn, if_neg hn, mts_fuel p f g (i + (mt p i).1) (by omega) (by omega)]
def mtl (p : List Int) (i : Nat) : List (Nat × Nat × Nat) := mts p (p.length - i) i
theorem mtl_end {p : List Int} {i : Nat} (h : p.length < i + 4) : mtl p i = [] := mts_end p _ _ h
theorem mtl_none {p : List Int} {i : Nat} (h : (mt p i).1 = 0) : mtl p i = mtl p (i + 1) := by
  by_cases hi : i < p.length
  · unfold mtl
    rw [show p.length - i = (p.length - (i + 1)) + 1 by omega, mts, if_pos h]
  · rw [mtl_end (by omega), mtl_end (by omega)]
theorem mtl_some {p : List Int} {i : Nat} (h : (mt p i).1 ≠ 0) : mtl p i = (i, (mt p i).2, (mt p i).1) :: mtl p (i + (mt p i).1) := by
  have h1 := mt_is h
  have := h1.n4
  have := h1.fit
  unfold mtl
  rw [show p.length - i = (p.length - (i + 1)) + 1 by omega, mts, if_neg h, mts_fuel p _ (p.length - (i + (mt p i).1)) _ (by omega) (by omega)]
/-- Matches one behind the other, from a place on. -/
def Row (p : List Int) : Nat → List (Nat × Nat × Nat) → Prop
  | d, [] => d ≤ p.length
  | d, (a, f, n) :: l => d ≤ a ∧ IsM p a f n ∧ Row p (a + n) l
theorem mts_row (p : List Int) : ∀ f i d, d ≤ i → i ≤ p.length → Row p d (mts p f i)
  | 0, i, d, h, k => by simp only [mts, Row]; omega
  | f + 1, i, d, h, k => by
    rw [mts]
    by_cases hn : (mt p i).1 = 0
    · rw [if_pos hn]
      by_cases hi : i + 1 ≤ p.length
      · exact mts_row p f (i + 1) d (by omega) hi
      · rw [mts_end p f (i + 1) (by omega)]
        simp only [Row]; omega
    · rw [if_neg hn]
      have := mt_is hn
      exact ⟨h, this, mts_row p f (i + (mt p i).1) _ (Nat.le_refl _) this.fit⟩
theorem mtl_row (p : List Int) : Row p 0 (mtl p 0) := mts_row p _ 0 0 (Nat.le_refl _) (Nat.zero_le _)
end Go.Proofs.Ytoneepoaodoijaa
