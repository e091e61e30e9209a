/- A group of which some shards are lost: what is left tells all of it (plain). -/
import Derived.Test.YtbdmbhpmbklaiaaT6
namespace Go.Proofs.Ytbdmbhpmbklaiaa
open Go.RowKit Gf

/-- Shards of data, all of one length. -/
structure Even (D : List Sd) (N : Nat) : Prop where
  lo : 1 ≤ D.length
  hi : D.length ≤ 32
  row : ∀ i, i < D.length → (sl (D.getD i none)).length = N
  some : ∀ i, i < D.length → (D.getD i none).isSome = true
/-- The whole group. -/
def whl (D : List Sd) (m : Nat) : List Sd := D ++ (List.range m).map (encS D)
theorem whl_len (D : List Sd) (m : Nat) : (whl D m).length = D.length + m := by simp [whl]
theorem Even.rowN {D : List Sd} {N : Nat} (h : Even D N) : rowN D = N := h.row 0 (by have := h.lo; omega)
theorem whl_get {D : List Sd} {N m : Nat} (h : Even D N) {j : Nat} (hj : j < D.length + m) : (whl D m).getD j none = some (grp (pls D.length) D N (gn j)) := by
  have hhi := h.hi
  by_cases hl : j < D.length
  · have e : (whl D m).getD j none = D.getD j none := by simp only [whl, List.getD]; rw [List.getElem?_append_left hl]
    have g := grp_at (xs := pls D.length) (pls_nodup (by omega)) D (n := N) (j := j) (by rw [pls_len]; exact hl) (h.row j hl)
    rw [pls_get hl] at g
    rw [e, g]
    have := h.some j hl
    cases hd : D.getD j none with
    | none => rw [hd] at this; cases this
    | some l => rfl
  · have e : (whl D m).getD j none = encS D (j - D.length) := by
      simp only [whl, List.getD]
      rw [List.getElem?_append_right (by omega)]
      simp [List.getElem?_range (show j - D.length < m by omega)]
    rw [e, encS, h.rowN, show D.length + (j - D.length) = j by omega]
theorem lf_pair (K : List Sd) (k : Int) : ∀ i t, t < (lfP K k i).length → ∃ j, j < i ∧ (lfP K k i).getD t 0 = gn j ∧ (lfR K k i).getD t none = K.getD j none ∧ (K.getD j none).isSome = true
  | 0, t, h => by simp [lfP] at h
  | i + 1, t, h => by
    have hl := lf_len K k i
    rw [lfP] at h ⊢
    rw [lfR]
    by_cases hc : (K.getD i none).isSome ∧ ((lfP K k i).length : Int) < k
    · rw [if_pos hc] at h ⊢
      rw [if_pos (by rw [← hl]; exact hc)]
      by_cases ht : t < (lfP K k i).length
      · obtain ⟨j, h1, h2, h3, h4⟩ := lf_pair K k i t ht
        refine ⟨j, by omega, ?_, ?_, h4⟩
        · simp only [List.getD] at h2 ⊢
          rw [List.getElem?_append_left ht]
          exact h2
        · simp only [List.getD] at h3 ⊢
          rw [List.getElem?_append_left (by rw [← hl]; exact ht)]
          exact h3
      · have e : t = (lfP K k i).length := by simp at h; omega
        refine ⟨i, by omega, ?_, ?_, hc.1⟩
        · simp [List.getD, e]
        · simp [List.getD, e, hl]
    · rw [if_neg hc] at h ⊢
      rw [if_neg (by rw [← hl]; exact hc)]
      obtain ⟨j, h1, h2⟩ := lf_pair K k i t h
      exact ⟨j, by omega, h2⟩
/-- What is left of a whole group. -/
structure Rest (D : List Sd) (m : Nat) (K : List Sd) : Prop where
  len : K.length = D.length + m
  few : m ≤ 16
  each : ∀ j, j < D.length + m → K.getD j none = none ∨ K.getD j none = (whl D m).getD j none
  many : D.length ≤ (left K).length
theorem Rest.row {D : List Sd} {N m : Nat} {K : List Sd} (hD : Even D N) (h : Rest D m K) {j : Nat} (hj : j < K.length) (hs : (K.getD j none).isSome = true) : K.getD j none = some (grp (pls D.length) D N (gn j)) := by
  rw [h.len] at hj
  rcases h.each j hj with e | e
  · rw [e] at hs; cases hs
  · rw [e, whl_get hD hj]
theorem Rest.chk {D : List Sd} {N m : Nat} {K : List Sd} (hD : Even D N) (h : Rest D m K) : chkE K (D.length : Int) = 0 := by
  have h1 := hD.lo
  have h2 := hD.hi
  have h3 := h.len
  have h4 := h.few
  have h5 := h.many
  have hf : frm (left K) = false := by
    cases hf : frm (left K) with
    | false => rfl
    | true =>
      obtain ⟨i, k, hk, hi, hi2, hk2, hne⟩ := (wr_frm K).2 hf
      rw [h.row hD hi hi2, h.row hD (by omega) hk2] at hne
      simp [sl, grp_len] at hne
  unfold chkE
  rw [if_neg (by omega), hf, if_neg (by decide), if_neg (by omega)]
theorem Rest.all {D : List Sd} {N m : Nat} {K : List Sd} (hD : Even D N) (h : Rest D m K) (x : Nat) : repS K D.length x = some (grp (pls D.length) D N (gn x)) := by
  obtain ⟨n, hn, hF⟩ := fine_of (h.chk hD)
  have hn : D.length = n := by omega
  have hlen := hF.len
  rw [← hn] at hlen
  have hlp := lf_len K (D.length : Int) K.length
  have h1 := hD.lo
  have h2 := hD.hi
  have hKl := h.len
  have hfew := h.few
  have key : ∀ t, t < D.length → ∃ j, (lfP K (D.length : Int) K.length).getD t 0 = gn j ∧ (lfR K (D.length : Int) K.length).getD t none = some (grp (pls D.length) D N (gn j)) := fun t ht => by
    obtain ⟨j, hj, e1, e2, hs⟩ := lf_pair K (D.length : Int) K.length t (by omega)
    exact ⟨j, e1, by rw [e2, h.row hD hj hs]⟩
  have hrow : Go.Proofs.Ytbdmbhpmbklaiaa.rowN (lfR K (D.length : Int) K.length) = N := by
    obtain ⟨j, _, e⟩ := key 0 (by omega)
    unfold Go.Proofs.Ytbdmbhpmbklaiaa.rowN
    rw [e]
    simp [sl, grp_len]
  rw [repS, hrow]
  congr 1
  unfold grp
  apply List.map_congr_left
  intro b hb
  have hb : b < N := by simpa using hb
  refine ip_eq (k := D.length) (lfP_nodup K _ _ (by omega)) (by omega) (f := fun y => ip (pls D.length) (fun j => (sl (D.getD j none)).getD b 0) y) ?_ (fun t ht => ?_) (gn x)
  · have := ip_deg (pls D.length) (fun j => (sl (D.getD j none)).getD b 0)
    rw [pls_len] at this
    exact this
  · obtain ⟨j, e1, e2⟩ := key t ht
    rw [e1, e2]
    exact grp_get _ _ _ _ hb
theorem Rest.same {D : List Sd} {N m : Nat} {K : List Sd} (hD : Even D N) (h : Rest D m K) : (List.range K.length).map (repS K D.length) = whl D m := by
  apply List.ext_getElem
  · simp [whl_len, h.len]
  · intro j h1 h2
    rw [whl_len] at h2
    have e := whl_get hD h2
    rw [List.getElem_map, List.getElem_range, h.all hD j, ← e]
    simp [List.getD, List.getElem?_eq_getElem (show j < (whl D m).length by rw [whl_len]; exact h2)]
theorem left_set (K : List Sd) (j : Nat) : (left K).length ≤ (left (K.set j none)).length + 1 := by
  induction K generalizing j with
  | nil => simp [left]
  | cons s K ih =>
    cases j with
    | zero =>
      simp only [List.set_cons_zero, left, List.filter_cons, Option.isSome_none, Bool.false_eq_true, if_false]
      split <;> simp
    | succ j =>
      have := ih j
      simp only [List.set_cons_succ, left, List.filter_cons] at this ⊢
      split
      · simp only [List.length_cons]; omega
      · exact this
theorem left_all {K : List Sd} (h : ∀ j, j < K.length → (K.getD j none).isSome = true) : left K = K := by
  apply List.filter_eq_self.2
  intro s hs
  obtain ⟨i, hi, e⟩ := idx_of hs
  rw [← e]
  exact h i hi
/-- Of a whole group at most i shards are lost. -/
structure Lost (D : List Sd) (m i : Nat) (K : List Sd) : Prop where
  len : K.length = D.length + m
  each : ∀ j, j < D.length + m → K.getD j none = none ∨ K.getD j none = (whl D m).getD j none
  many : D.length + m ≤ (left K).length + i
theorem Lost.none {D : List Sd} {N : Nat} (m : Nat) (hD : Even D N) : Lost D m 0 (whl D m) :=
  ⟨whl_len D m, fun _ _ => .inr rfl, by rw [left_all (fun j hj => by rw [whl_len] at hj; rw [whl_get hD hj]; rfl), whl_len]; omega⟩
theorem Lost.more {D : List Sd} {m i : Nat} {K : List Sd} (h : Lost D m i K) (p : Nat) : Lost D m (i + 1) (K.set p Option.none) := by
  refine ⟨by rw [List.length_set]; exact h.len, fun j hj => ?_, ?_⟩
  · by_cases e : p = j
    · subst e
      left
      simp [List.getD, h.len, hj]
    · rw [show (K.set p Option.none).getD j Option.none = K.getD j Option.none by simp [List.getD, List.getElem?_set_ne e]]
      exact h.each j hj
  · have := left_set K p
    have := h.many
    omega
theorem Lost.rest {D : List Sd} {m i : Nat} {K : List Sd} (h : Lost D m i K) (hm : m ≤ 16) (hi : i ≤ m) : Rest D m K :=
  ⟨h.len, hm, h.each, by have := h.many; omega⟩
end Go.Proofs.Ytbdmbhpmbklaiaa
