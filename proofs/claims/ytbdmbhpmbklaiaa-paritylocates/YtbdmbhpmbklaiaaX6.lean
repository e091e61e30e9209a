/- What is a group is one at each place (plain). -/
import Derived.Test.YtbdmbhpmbklaiaaX5
namespace Go.Proofs.Ytbdmbhpmbklaiaa
open Gf

/-- Of shards, some of which may be lost, the bytes at a place. -/
def colN (M : List Sd) (j : Nat) : List Sd := M.map (Option.map (fun s => [s.getD j 0]))
theorem colN_len (M : List Sd) (j : Nat) : (colN M j).length = M.length := by simp [colN]
theorem colN_get (M : List Sd) (j t : Nat) : (colN M j).getD t none = (M.getD t none).map (fun s => [s.getD j 0]) := by
  simp only [colN, List.getD, List.getElem?_map]
  cases M[t]? <;> rfl
theorem colN_some (M : List Sd) (j t : Nat) : ((colN M j).getD t none).isSome = (M.getD t none).isSome := by rw [colN_get]; cases M.getD t none <;> rfl
theorem colN_at (M : List Sd) (j t : Nat) : (sl ((colN M j).getD t none)).getD 0 0 = (sl (M.getD t none)).getD j 0 := by
  rw [colN_get]
  cases M.getD t none with
  | none => simp [sl]
  | some s => simp [sl]
theorem colN_set {L : List Sd} (h : ∀ t, t < L.length → (L.getD t none).isSome = true) (j i : Nat) : (col L j).set i none = colN (L.set i none) j := by
  have e : col L j = colN L j := by
    refine List.ext_getElem (by rw [col_len, colN_len]) (fun t h1 h2 => ?_)
    rw [col_len] at h1
    have := h t h1
    simp only [col, colN, List.getElem_map]
    simp only [List.getD, List.getElem?_eq_getElem h1, Option.getD_some] at this
    cases hq : L[t] with
    | none => rw [hq] at this; cases this
    | some s => simp [sl]
  rw [e, colN, colN, List.map_set]
  rfl
theorem colN_lfP (M : List Sd) (j : Nat) (k : Int) : ∀ i, lfP (colN M j) k i = lfP M k i
  | 0 => rfl
  | i + 1 => by rw [lfP, lfP, colN_lfP M j k i, colN_some]
theorem colN_lfR (M : List Sd) (j : Nat) (k : Int) : ∀ i, lfR (colN M j) k i = colN (lfR M k i) j
  | 0 => rfl
  | i + 1 => by
    rw [lfR, lfR, colN_lfR M j k i, colN_some, colN_len]
    split
    · rw [colN_get]; simp [colN]
    · rfl
theorem colN_left (M : List Sd) (j : Nat) : left (colN M j) = colN (left M) j := by
  unfold left colN
  rw [List.filter_map]
  congr 1
  apply List.filter_congr
  intro s _
  cases s <;> rfl
theorem colN_row {M : List Sd} {j t : Nat} (h : (M.getD t none).isSome = true) : (sl ((colN M j).getD t none)).length = 1 := by
  rw [colN_get]
  cases hq : M.getD t none with
  | none => rw [hq] at h; cases h
  | some s => rfl
theorem left_some {M : List Sd} {t : Nat} (h : t < (left M).length) : ((left M).getD t none).isSome = true := by
  have := getD_mem (d := none) h
  exact (List.mem_filter.1 this).2
theorem colN_fine {M : List Sd} {k : Nat} (h : Fine M k) (j : Nat) : Fine (colN M j) k := by
  refine ⟨h.k1, h.k32, by rw [colN_len]; exact h.lo, by rw [colN_len]; exact h.hi, ?_, by rw [colN_left, colN_len]; exact h.many⟩
  rw [colN_left]
  unfold frm
  rw [List.any_eq_false]
  intro s hs
  obtain ⟨t, ht, e⟩ := List.mem_iff_getElem.1 hs
  have ht' : t < (left M).length := by rw [colN_len] at ht; exact ht
  have h1 := colN_row (j := j) (left_some ht')
  have h0 := colN_row (j := j) (left_some (M := M) (t := 0) (by omega))
  rw [show (colN (left M) j).getD t none = s by rw [← e]; simp [List.getD, List.getElem?_eq_getElem ht]] at h1
  simp only [pOther, h0, h1]
  simp
theorem colN_rep {M : List Sd} {k : Nat} (h : Fine M k) {j : Nat} (hj : j < rowL M k) (t : Nat) : repS (colN M j) k t = some [(sl (repS M k t)).getD j 0] := by
  have hR : rowN (lfR (colN M j) (k : Int) (colN M j).length) = 1 := by
    rw [colN_len, colN_lfR, rowN]
    refine colN_row ?_
    rw [lfR_full, getD_take _ _ h.k1]
    exact left_some (by have := h.k1; have := h.many; omega)
  unfold repS
  rw [hR, colN_len, colN_lfP, colN_lfR]
  simp only [grp, List.range_one, List.map_cons, List.map_nil, colN_at]
  congr 2
  unfold rowL at hj
  simp [sl, List.getD, hj]
theorem chkE_fine {L : List Sd} {k : Nat} (h : Fine L k) : chkE L (k : Int) = 0 := by
  have := h.k1
  have := h.k32
  have := h.lo
  have := h.hi
  have := h.many
  unfold chkE
  rw [if_neg (by omega), h.form, if_neg (by simp), if_neg (by omega)]
theorem gw_col {L : List Sd} {k i j N : Nat} (hs : ∀ t, t < L.length → (L.getD t none).isSome = true) (hN : ∀ t, t < L.length → (sl (L.getD t none)).length = N) (hj : j < N) (h : gwB L k i = true) : gwB (col L j) k i = true := by
  unfold gwB at h ⊢
  rw [Bool.and_eq_true, decide_eq_true_eq] at h
  rw [colN_set hs]
  obtain ⟨k', e, hF⟩ := fine_of h.1
  have : k = k' := by omega
  subst this
  have hrow : j < rowL (L.set i none) k := by
    have h0 := left_some (M := L.set i none) (t := 0) (by have := hF.k1; have := hF.many; omega)
    obtain ⟨t, ht, e⟩ := List.mem_iff_getElem.1 (List.mem_filter.1 (getD_mem (d := none) (show 0 < (left (L.set i none)).length by have := hF.k1; have := hF.many; omega))).1
    have e2 : (L.set i none).getD t none = (left (L.set i none)).getD 0 none := by unfold left; rw [← e]; simp [List.getD, List.getElem?_eq_getElem ht]
    have h3 := hF.all t ht (by rw [e2]; exact h0)
    rw [← h3]
    have hti : i ≠ t := fun he => by
      subst he
      rw [← e2] at h0
      rw [List.length_set] at ht
      simp [List.getD, ht] at h0
    rw [show (L.set i none).getD t none = L.getD t none by simp only [List.getD]; rw [List.getElem?_set_ne hti], hN t (by rw [List.length_set] at ht; exact ht)]
    exact hj
  have hg := h.2
  unfold isGrp at hg ⊢
  rw [decide_eq_true_eq] at hg
  rw [Bool.and_eq_true, decide_eq_true_eq, decide_eq_true_eq]
  refine ⟨chkE_fine (colN_fine hF j), fun t ht hts => ?_⟩
  rw [colN_len] at ht
  rw [colN_some] at hts
  rw [colN_rep hF hrow, colN_get, ← hg t ht hts]
  cases hq : (L.set i none).getD t none with
  | none => rw [hq] at hts; cases hts
  | some s => rfl
end Go.Proofs.Ytbdmbhpmbklaiaa
