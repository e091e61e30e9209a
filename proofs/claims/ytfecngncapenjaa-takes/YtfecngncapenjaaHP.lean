/- Heaps of trees (plain mathematics). -/
import Derived.Test.YtfecngncapenjaaH2
namespace Go.Proofs.Ytfecngncapenjaa
open Go.RowKit Go.Lib

theorem shl_irr (x : Sh) : shl x x = false := by
  unfold shl
  refine decide_eq_false ?_
  omega
theorem shl_as {x y : Sh} (h1 : shl x y = true) : shl y x = false := by
  unfold shl at *
  have h := of_decide_eq_true h1
  refine decide_eq_false ?_
  omega
/-- What is not ahead of a second one, which is not ahead of a third, is not ahead of that. -/
theorem shl_nt {x y z : Sh} (h1 : shl x y = false) (h2 : shl y z = false) : shl x z = false := by
  unfold shl at *
  have h := of_decide_eq_false h1
  have k := of_decide_eq_false h2
  refine decide_eq_false ?_
  omega
def par (k : Nat) : Nat := (k - 1) / 2
def At (M : List Sh) (k : Nat) : Sh := M.getD k s0
/-- No child is ahead of its parent, among the first n. -/
def Heap (M : List Sh) (n : Nat) : Prop := ∀ k, 0 < k → k < n → shl (At M k) (At M (par k)) = false
def HUp (M : List Sh) (n j : Nat) : Prop := (∀ k, 0 < k → k < n → k ≠ j → shl (At M k) (At M (par k)) = false) ∧ (∀ k, 0 < k → k < n → par k = j → 0 < j → shl (At M k) (At M (par j)) = false)
def HDn (M : List Sh) (n i : Nat) : Prop := (∀ k, 0 < k → k < n → par k ≠ i → shl (At M k) (At M (par k)) = false) ∧ (∀ k, 0 < k → k < n → par k = i → 0 < i → shl (At M k) (At M (par i)) = false)
def swp (L : List Sh) (i j : Nat) : List Sh := (L.set i (L.getD j s0)).set j (L.getD i s0)
theorem swp_len (M : List Sh) (i j : Nat) : (swp M i j).length = M.length := by simp [swp]
theorem swp_perm {M : List Sh} {i j : Nat} (hi : i < M.length) (hj : j < M.length) : (swp M i j).Perm M := by
  unfold swp
  have e1 : M.getD i s0 = M[i] := by simp [List.getD, List.getElem?_eq_getElem hi]
  have e2 : M.getD j s0 = M[j] := by simp [List.getD, List.getElem?_eq_getElem hj]
  rw [e1, e2]
  exact List.set_set_perm hi hj
theorem swp_at {M : List Sh} {i j : Nat} (hi : i < M.length) (hj : j < M.length) (k : Nat) : At (swp M i j) k = if k = j then At M i else if k = i then At M j else At M k := by
  unfold At swp
  simp only [List.getD, List.getElem?_set, List.length_set]
  by_cases h1 : k = j
  · subst h1
    simp [hj]
  · by_cases h2 : k = i
    · subst h2
      rw [if_neg (fun e => h1 e.symm), if_pos rfl, if_pos hi, if_neg h1, if_pos rfl]
      simp
    · rw [if_neg (fun e => h1 e.symm), if_neg (fun e => h2 e.symm), if_neg h1, if_neg h2]
theorem up_stop {M : List Sh} {n j : Nat} (h : HUp M n j) (hs : j = 0 ∨ shl (At M j) (At M (par j)) = false) : Heap M n := fun k h0 hk => by
  by_cases e : k = j
  · subst e
    rcases hs with hs | hs
    · omega
    · exact hs
  · exact h.1 k h0 hk e
theorem up_step {M : List Sh} {j : Nat} (h : HUp M M.length j) (h0 : 0 < j) (hj : j < M.length) (hs : shl (At M j) (At M (par j)) = true) : HUp (swp M (par j) j) M.length (par j) := by
  have hpj : par j < j := by unfold par; omega
  have hi : par j < M.length := by omega
  have A := fun k => swp_at hi hj k
  refine ⟨fun k k0 hk hne => ?_, fun k k0 hk hpk hpos => ?_⟩
  · rw [A k, A (par k)]
    by_cases e1 : k = j
    · subst e1
      rw [if_pos rfl, if_neg (by omega), if_pos rfl]
      exact shl_as hs
    · rw [if_neg e1, if_neg hne]
      by_cases e2 : par k = j
      · rw [if_pos e2]
        exact h.2 k k0 hk e2 h0
      · rw [if_neg e2]
        by_cases e3 : par k = par j
        · rw [if_pos e3]
          have h1 := h.1 k k0 hk e1
          rw [e3] at h1
          rw [← Bool.not_eq_true]
          intro h2
          have h3 := shl_nt h1 (shl_as hs)
          rw [h3] at h2
          cases h2
        · rw [if_neg e3]
          exact h.1 k k0 hk e1
  · have hpp : par (par j) < par j := by unfold par at *; omega
    rw [A k, A (par (par j)), if_neg (show par (par j) ≠ j by omega), if_neg (show par (par j) ≠ par j by omega)]
    have h1 := h.1 (par j) hpos hi (by omega)
    by_cases e1 : k = j
    · rw [if_pos e1]
      exact h1
    · have e2 : k ≠ par j := by intro e; rw [e] at hpk; omega
      rw [if_neg e1, if_neg e2]
      have h2 := h.1 k k0 hk e1
      rw [hpk] at h2
      exact shl_nt h2 h1
theorem dn_stop {M : List Sh} {n i : Nat} (h : HDn M n i) (hs : ∀ k, 0 < k → k < n → par k = i → shl (At M k) (At M i) = false) : Heap M n := fun k h0 hk => by
  by_cases e : par k = i
  · rw [e]; exact hs k h0 hk e
  · exact h.1 k h0 hk e
theorem dn_step {M : List Sh} {n i j : Nat} (hn : n ≤ M.length) (h : HDn M n i) (h0 : 0 < j) (hj : j < n) (hp : par j = i) (hl : ∀ k, 0 < k → k < n → par k = i → shl (At M k) (At M j) = false) (hs : shl (At M j) (At M i) = true) : HDn (swp M i j) n j := by
  have hij : i < j := by rw [← hp]; unfold par; omega
  have hi : i < M.length := by omega
  have hj' : j < M.length := by omega
  have A := fun k => swp_at hi hj' k
  refine ⟨fun k k0 hk hne => ?_, fun k k0 hk hpk _ => ?_⟩
  · rw [A k, A (par k), if_neg hne]
    by_cases e1 : par k = i
    · rw [if_pos e1]
      by_cases e2 : k = j
      · rw [if_pos e2]
        exact shl_as hs
      · have e3 : k ≠ i := by intro e; rw [e] at e1; unfold par at e1; omega
        rw [if_neg e2, if_neg e3]
        exact hl k k0 hk e1
    · rw [if_neg e1]
      have e2 : k ≠ j := by intro e; rw [e] at e1; exact e1 hp
      rw [if_neg e2]
      by_cases e3 : k = i
      · rw [if_pos e3, e3]
        exact h.2 j h0 hj hp (by omega)
      · rw [if_neg e3]
        exact h.1 k k0 hk e1
  · have hkj : k ≠ j := by intro e; rw [e] at hpk; omega
    have hki : k ≠ i := by intro e; rw [e] at hpk; unfold par at hpk; omega
    rw [A k, A (par j), if_neg hkj, if_neg hki, hp, if_neg (by omega), if_pos rfl]
    have := h.1 k k0 hk (by omega)
    rw [hpk] at this
    exact this
/-- The first of a heap is not behind any. -/
theorem heap_min {M : List Sh} {n : Nat} (h : Heap M n) : ∀ k, k < n → shl (At M k) (At M 0) = false := fun k => by
  induction k using Nat.strongRecOn with
  | _ k ih =>
    intro hk
    by_cases h0 : k = 0
    · rw [h0]; exact shl_irr _
    · have hp : par k < k := by unfold par; omega
      exact shl_nt (h k (by omega) hk) (ih (par k) hp (by omega))
end Go.Proofs.Ytfecngncapenjaa
