/- What is told of a beginning of pieces is a beginning (plain). -/
import Derived.Test.YtoneepoaodoijaaZ2
namespace Go.Proofs.Ytoneepoaodoijaa
open Oct

theorem tkGo_more_bytes (r s : List Int) : ∀ (j m : Nat), (tkGo j m r).2.2 = 0 → tkGo j m (r ++ s) = tkGo j m r := by
  induction r with
  | nil => intro j m h; simp [tkGo] at h
  | cons x r ih =>
    intro j m h
    rw [List.cons_append]
    by_cases h1 : j = 7 ∧ 15 < x
    · rw [tkGo_lim _ _ _ _ h1] at h; simp at h
    · by_cases h2 : 128 ≤ x
      · simp only [tkGo, if_neg h1, if_pos h2] at h ⊢
        exact ih _ _ h
      · simp only [tkGo, if_neg h1, if_neg h2]
theorem tkNum_more {b s : List Int} {i : Int} (h : (tkNum b i).2.2 = 0) : tkNum (b ++ s) i = tkNum b i := by
  unfold tkNum at h ⊢
  by_cases hi : 0 ≤ i ∧ i ≤ b.length
  · rw [if_pos hi] at h ⊢
    rw [if_pos (by simp only [List.length_append]; omega), List.drop_append_of_le_length (by omega)]
    have h' : (tkGo 0 0 (b.drop i.toNat)).2.2 = 0 := h
    rw [tkGo_more_bytes _ _ _ _ h']
  · rw [if_neg hi] at h
    simp at h
theorem tkP_more {b s : List Int} {at' : Nat} (ha : at' < b.length) (h : (tkP b at').2.2 = 0) : tkP (b ++ s) at' = tkP b at' := by
  have hg : (b ++ s).getD at' 0 = b.getD at' 0 := by simp [List.getD, List.getElem?_append_left ha]
  unfold tkP at h ⊢
  rw [hg]
  by_cases hc : 128 ≤ (b.getD at' 0).toNat
  · rw [if_pos hc] at h
    rw [if_pos hc, if_pos hc]
    by_cases he : (tkNum b ((at' : Int) + 1)).2.2 = 0
    · rw [tkNum_more he]
    · rw [if_pos he] at h
      exact absurd h he
  · rw [if_neg hc] at h
    rw [if_neg hc, if_neg hc]
    by_cases hl : b.length < at' + 1 + ((b.getD at' 0).toNat + 1)
    · rw [if_pos hl] at h
      simp at h
    · rw [if_neg hl, if_neg (by simp only [List.length_append]; omega), List.drop_append_of_le_length (by omega), List.take_append_of_le_length (by rw [List.length_drop]; omega)]
theorem told_pre (b : List Int) (k : Nat) : ∀ j, ∃ s, told b (k + j) = told b k ++ s
  | 0 => ⟨[], by simp⟩
  | j + 1 => by
    obtain ⟨s, hs⟩ := told_pre b k j
    obtain ⟨t, ht⟩ := flw_pre (tkP b (pos b (k + j))).1 (told b (k + j))
    exact ⟨s ++ t, by rw [← Nat.add_assoc, told, ht, hs, List.append_assoc]⟩
theorem TkR.pre {a b : List Int} {most : Int} {x y : List Int} (h : TkR a most x 0) (k : TkR (a ++ b) most y 0) : ∃ s, y = x ++ s := by
  generalize he : (0 : Int) = e at h
  cases h with
  | over => simp at he
  | bad i g1 g2 g3 => exact absurd he.symm g3
  | all i g1 g2 g3 =>
    generalize hf : (0 : Int) = f at k
    cases k with
    | over => simp at hf
    | bad i g1 g2 g3 => exact absurd hf.symm g3
    | all j f1 f2 f3 =>
      have same : ∀ n, n ≤ i → pos (a ++ b) n = pos a n ∧ told (a ++ b) n = told a n := by
        intro n
        induction n with
        | zero => intro _; exact ⟨rfl, rfl⟩
        | succ n ih =>
          intro hn
          have h1 := ih (by omega)
          have h2 := tkP_more (s := b) (g1 n (by omega)).1 (g1.e (by omega))
          exact ⟨by simp only [pos]; rw [h1.1, h2], by simp only [told]; rw [h1.1, h2, h1.2]⟩
      rcases Nat.lt_or_ge j i with hji | hji
      · have h1 := same j (by omega)
        have h2 := (g1 j hji).1
        rw [h1.1] at f2
        simp only [List.length_append] at f2
        omega
      · obtain ⟨s, hs⟩ := told_pre (a ++ b) i (j - i)
        rw [show i + (j - i) = j by omega, (same i (Nat.le_refl _)).2] at hs
        exact ⟨s, hs⟩
end Go.Proofs.Ytoneepoaodoijaa
