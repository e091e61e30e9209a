/- Counting numbers: a map of counts, and the number that stands most often. -/
import Derived.Test.YtiloclekhddkfaaS1
import Derived.Maps.OwnSet
import Derived.Maps.OwnOps
import Derived.Maps.Views
namespace Go.Proofs.Ytiloclekhddkfaa
open Go.RowKit Go.Lib Go.Shelf

/-- The datum D counts the numbers of S. -/
structure Tally (D : DataW Unit) (S : List Int) : Prop where
  tidy : Maps.Tidy D
  at' : ∀ k, D.atKey (.int .i64 k) (.lit (.int .i64 0)) = .lit (.int .i64 ((S.count k : Nat) : Int))
theorem Tally.empty : Tally (.map []) [] := ⟨Maps.tidy_empty, fun _ => rfl⟩
theorem count_snoc (S : List Int) (n k : Int) : (S ++ [n]).count k = S.count k + (if n = k then 1 else 0) := by
  rw [List.count_append, List.count_singleton]
  by_cases e : n = k
  · simp [e]
  · simp [e]
theorem Tally.put {D : DataW Unit} {S : List Int} (h : Tally D S) (n : Int) : Tally (D.put (.int .i64 n) (.lit (.int .i64 ((S.count n : Nat) + 1 : Int)))) (S ++ [n]) := by
  have hK : WideAt.IsKeyLit (.int .i64 n) := trivial
  refine ⟨h.tidy.put hK _, fun k => ?_⟩
  rw [count_snoc]
  by_cases e : n = k
  · subst e
    rw [Maps.atKey_put_same h.tidy.isMap hK, if_pos rfl]
    rfl
  · rw [Maps.atKey_put_other (by simpa using fun q => e q.symm), if_neg e]
    exact h.at' k
/-- The number that stands in S most often, of like ones the greatest, and how often. -/
structure Top (S : List Int) (best most : Int) : Prop where
  none : S = [] → best = 0 ∧ most = 0
  is : S ≠ [] → most = ((S.count best : Nat) : Int) ∧ 0 < most
  le : ∀ k ∈ S, ((S.count k : Nat) : Int) < most ∨ (((S.count k : Nat) : Int) = most ∧ k ≤ best)
theorem Top.empty : Top [] 0 0 := ⟨fun _ => ⟨rfl, rfl⟩, fun h => absurd rfl h, fun k hk => by simp at hk⟩
theorem Top.new {S : List Int} {best most n c : Int} (h : Top S best most) (hc : c = ((S.count n : Nat) : Int) + 1) (hn : most < c ∨ (c = most ∧ best < n)) : Top (S ++ [n]) n c := by
  have e0 : (((S ++ [n]).count n : Nat) : Int) = c := by rw [count_snoc, if_pos rfl, hc]; rfl
  refine ⟨fun q => by simp at q, fun _ => ⟨e0.symm, by omega⟩, fun k hk => ?_⟩
  by_cases e : n = k
  · subst e; exact .inr ⟨e0, Int.le_refl _⟩
  · have hk' : k ∈ S := by simp at hk; exact hk.resolve_right (fun q => e q.symm)
    have := h.le k hk'
    rw [count_snoc, if_neg e]
    simp only [Nat.add_zero]
    omega
theorem Top.old {S : List Int} {best most n c : Int} (h : Top S best most) (hc : c = ((S.count n : Nat) : Int) + 1) (h1 : ¬ most < c) (h2 : ¬ (c = most ∧ best < n)) : Top (S ++ [n]) best most := by
  have hS : S ≠ [] := fun q => by have := (h.none q).2; omega
  have hi := h.is hS
  have hb : n ≠ best := fun q => by subst q; omega
  refine ⟨fun q => by simp at q, fun _ => ⟨by rw [count_snoc, if_neg hb]; exact hi.1, hi.2⟩, fun k hk => ?_⟩
  rw [count_snoc]
  by_cases e : n = k
  · subst e
    rw [if_pos rfl]
    push_cast
    omega
  · have hk' : k ∈ S := by simp at hk; exact hk.resolve_right (fun q => e q.symm)
    rw [if_neg e]
    exact h.le k hk'
theorem count_le' (S : List Int) (k : Int) : S.count k ≤ S.length := List.count_le_length
theorem flat_snoc (M : List (List Int)) (i : Nat) (hi : i < M.length) : (M.take (i + 1)).flatten = (M.take i).flatten ++ M.getD i [] := by
  have e : M.getD i [] = M[i] := by simp [List.getD, List.getElem?_eq_getElem hi]
  rw [e, List.take_add_one, List.getElem?_eq_getElem hi, List.flatten_append]
  simp only [Option.toList_some, List.flatten_cons, List.flatten_nil, List.append_nil]
theorem flat_len (M : List (List Int)) (c : Nat) (h : ∀ i, i < M.length → (M.getD i []).length ≤ c) : ∀ i, i ≤ M.length → (M.take i).flatten.length ≤ i * c := by
  intro i
  induction i with
  | zero => intro _; simp
  | succ i ih =>
    intro hi
    rw [flat_snoc M i (by omega), List.length_append]
    have := ih (by omega)
    have := h i (by omega)
    rw [Nat.succ_mul]
    omega
theorem take_snoc (l : List Int) (j : Nat) (hj : j < l.length) : l.take (j + 1) = l.take j ++ [l.getD j 0] := by
  rw [List.take_add_one, List.getElem?_eq_getElem hj]
  simp [List.getD, List.getElem?_eq_getElem hj]
theorem keyed3 : Go.Maps.Keyed Try.prog 3 := Go.Maps.int_keyed Try.underlying3
theorem zero3 (w : World) : (zeroValue 3).run Try.prog w = .ok (.int .i64 0) w := by kernel_rfl
end Go.Proofs.Ytiloclekhddkfaa
