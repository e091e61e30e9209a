/- Champions, plain: each stands in a list in which no one chosen ahead stands. -/
import Derived.Test.YtiloclekhddkfaaS18
namespace Go.Proofs.Ytiloclekhddkfaa

/-- C's i-th number stands in l, and no one ahead of it does. -/
def fr (C : List Int) (i : Nat) (l : List Int) : Bool := decide (C.getD i 0 ∈ l) && !((C.take i).any fun x => decide (x ∈ l))
theorem fr_iff (C : List Int) (i : Nat) (l : List Int) : fr C i l = true ↔ C.getD i 0 ∈ l ∧ ∀ x ∈ C.take i, x ∉ l := by
  unfold fr
  rw [Bool.and_eq_true, decide_eq_true_iff, Bool.not_eq_true', List.any_eq_false]
  exact ⟨fun h => ⟨h.1, fun x hx => by simpa using h.2 x hx⟩, fun h => ⟨h.1, fun x hx => by simpa using h.2 x hx⟩⟩
theorem rchamp_fresh {f : Nat} {M : List (List Int)} {C : List Int} (h : RChamp f M C) : ∀ i, i < C.length → M.any (fr C i) = true := by
  induction h with
  | zero M => intro i hi; simp at hi
  | none f M h => intro i hi; simp at hi
  | one f M b C ht hc ih =>
    intro i hi
    rw [List.any_eq_true]
    match i with
    | 0 =>
      obtain ⟨l, hl, hb⟩ := List.mem_flatten.1 ht.1
      exact ⟨l, hl, (fr_iff _ _ _).2 ⟨by simpa using hb, by simp⟩⟩
    | i + 1 =>
      obtain ⟨l, hl, hf⟩ := List.any_eq_true.1 (ih i (by simpa using hi))
      obtain ⟨h1, h2⟩ := (fr_iff _ _ _).1 hf
      have hw := List.mem_filter.1 hl
      refine ⟨l, hw.1, (fr_iff _ _ _).2 ⟨by simpa using h1, fun x hx => ?_⟩⟩
      rw [List.take_succ_cons] at hx
      rcases List.mem_cons.1 hx with q | q
      · subst q; simpa using hw.2
      · exact h2 x q
theorem any_snoc {α : Type} (p : α → Bool) (l : List α) (k : Nat) (d : α) (hk : k < l.length) : (l.take (k + 1)).any p = ((l.take k).any p || p (l.getD k d)) := by
  rw [List.take_add_one, List.getElem?_eq_getElem hk, List.any_append]
  simp [List.getD, List.getElem?_eq_getElem hk]
theorem mem_snoc (x : Int) (l : List Int) (j : Nat) (hj : j < l.length) : decide (x ∈ l.take (j + 1)) = (decide (x ∈ l.take j) || (l.getD j 0 == x)) := by
  rw [take_snoc l j hj]
  by_cases h1 : x ∈ l.take j
  · simp [h1]
  · by_cases h2 : l.getD j 0 = x
    · rw [h2, decide_eq_true (List.mem_append_right _ (by simp))]
      simp
    · have h3 : ¬ x = l.getD j 0 := fun e => h2 e.symm
      have h4 : x ∉ l.take j ++ [l.getD j 0] := by
        intro hm
        rcases List.mem_append.1 hm with q | q
        · exact h1 q
        · exact h3 (by simpa using q)
      rw [decide_eq_false h4, decide_eq_false h1]
      simp only [Bool.false_or]
      exact (beq_eq_false_iff_ne.2 h2).symm
theorem any_or {α : Type} (p q : α → Bool) : ∀ l : List α, l.any (fun x => p x || q x) = (l.any p || l.any q)
  | [] => rfl
  | a :: l => by simp only [List.any_cons, any_or p q l]; cases p a <;> cases q a <;> cases l.any p <;> cases l.any q <;> rfl
theorem theirs_snoc (C : List Int) (l : List Int) (j : Nat) (hj : j < l.length) : (C.any fun x => decide (x ∈ l.take (j + 1))) = ((C.any fun x => decide (x ∈ l.take j)) || C.any fun x => l.getD j 0 == x) := by
  have e : (fun x => decide (x ∈ l.take (j + 1))) = fun x => (decide (x ∈ l.take j) || (l.getD j 0 == x)) := funext fun x => mem_snoc x l j hj
  rw [e]
  exact any_or _ _ _
theorem fewL_small {M : List (List Int)} (hwf : ∀ i, i < M.length → ∀ x ∈ M.getD i [], -9223372036854775808 ≤ x ∧ x ≤ 9223372036854775807) : Small (fewL M) := by
  have hl : (fewL M).length = min 12 M.length := by unfold fewL; simp
  have hg : ∀ i, i < (fewL M).length → (fewL M).getD i [] = (M.getD i []).take 12 := fun i hi => by
    rw [hl] at hi
    unfold fewL
    simp only [List.getD, List.getElem?_map, List.getElem?_take, if_pos (show i < 12 by omega), List.getElem?_eq_getElem (show i < M.length by omega), Option.map_some, Option.getD_some]
  refine ⟨by rw [hl]; omega, fun i hi => by rw [hg i hi, List.length_take]; omega, fun i hi x hx => ?_⟩
  rw [hg i hi] at hx
  exact hwf i (by rw [hl] at hi; omega) x (List.mem_of_mem_take hx)
theorem fewL_len (M : List (List Int)) : (fewL M).length ≤ 12 := by unfold fewL; simp; omega
theorem rchamp_len {f : Nat} {M : List (List Int)} {C : List Int} (h : RChamp f M C) : C.length ≤ f := by
  induction h with
  | zero M => simp
  | none f M h => simp
  | one f M b C ht hc ih => simp only [List.length_cons]; omega
theorem rchamp_len8 {most : Int} {M : List (List Int)} {C : List Int} (h : RChamp (min most 8).toNat M C) : C.length ≤ 8 := by
  have := rchamp_len h
  omega
end Go.Proofs.Ytiloclekhddkfaa
