/- Of a group of which one shard was changed it is told which (plain). -/
import Derived.Test.YtbdmbhpmbklaiaaX7
import Derived.Test.YtbdmbhpmbklaiaaU1
namespace Go.Proofs.Ytbdmbhpmbklaiaa
open Gf

theorem grp_rest {M : List Sd} {n : Nat} (hF : Fine M n) (hg : isGrp M n = true) : ∃ D, Even D (rowL M n) ∧ D.length = n ∧ Rest D (M.length - n) M := by
  have hlo := hF.lo
  have hhi := hF.hi
  have hk2 := hF.k32
  have hl0 := hF.len
  have hlp := lf_len M (n : Int) M.length
  have hr : ∀ x, repS M n x = some (grp (lfP M n M.length) (lfR M n M.length) (rowL M n) (gn x)) := fun x => rfl
  have hD : ∀ j, j < n → ((List.range n).map (repS M n)).getD j none = repS M n j := fun j hj => by simp [List.getD, hj]
  have hE : Even ((List.range n).map (repS M n)) (rowL M n) := ⟨by simp; exact hF.k1, by simp; exact hF.k32, fun j hj => by
    have hj' : j < n := by simpa using hj
    rw [hD j hj', hr]
    simp [sl, grp_len], fun j hj => by
    have hj' : j < n := by simpa using hj
    rw [hD j hj', hr]
    rfl⟩
  have hDl : ((List.range n).map (repS M n)).length = n := by simp
  refine ⟨_, hE, hDl, by rw [hDl]; omega, by omega, fun j hj => ?_, by rw [hDl]; exact hF.many⟩
  rw [hDl] at hj
  cases hq : M.getD j none with
  | none => exact .inl rfl
  | some s =>
    right
    rw [whl_get hE (by rw [hDl]; omega), hDl]
    unfold isGrp at hg
    rw [decide_eq_true_eq] at hg
    rw [← hq, hg j (by omega) (by rw [hq]; rfl), hr]
    congr 1
    unfold grp
    apply List.map_congr_left
    intro b hb
    have hb : b < rowL M n := by simpa using hb
    symm
    refine ip_eq (k := n) (pls_nodup (by omega)) (pls_len n) (f := fun y => ip (lfP M n M.length) (fun j => (sl ((lfR M n M.length).getD j none)).getD b 0) y) ?_ (fun t ht => ?_) (gn j)
    · have := ip_deg (lfP M n M.length) (fun j => (sl ((lfR M n M.length).getD j none)).getD b 0)
      rw [hlp, hl0] at this
      exact this
    · rw [hD t ht, hr, pls_get ht]
      exact grp_get _ _ _ _ hb
theorem fnd_one {L : List Sd} {k i : Nat} : ∀ n, (∀ t, t < n → gwB L k t = decide (t = i)) → fndI L k n = if i < n then [(i : Int)] else []
  | 0, _ => rfl
  | n + 1, h => by
    rw [fndI, fnd_one n (fun t ht => h t (by omega)), h n (by omega)]
    by_cases e : n = i
    · subst e
      rw [decide_eq_true rfl, if_pos rfl, if_neg (Nat.lt_irrefl _), if_pos (Nat.lt_succ_self _)]
      rfl
    · rw [decide_eq_false e, if_neg (by simp)]
      by_cases hl : i < n
      · rw [if_pos hl, if_pos (by omega)]
      · rw [if_neg hl, if_neg (by omega)]
theorem some_chw {L : List Sd} {k : Nat} (hF : Fine L k) (hs : ∀ i, i < L.length → (L.getD i none).isSome = true) : chwE L (k : Int) = 0 := by
  unfold chwE
  rw [chkE_fine hF, if_neg (by simp), if_neg]
  rw [any_none (fun i hi => by have := hs i hi; unfold pLost; cases hq : L.getD i none with
    | none => rw [hq] at this; cases this
    | some s => rfl)]
  simp
theorem Rest.fine {D : List Sd} {N m : Nat} {K : List Sd} (hD : Even D N) (h : Rest D m K) : Fine K D.length := by
  obtain ⟨n, e, hF⟩ := fine_of (h.chk hD)
  have : D.length = n := by omega
  rw [this]
  exact hF
theorem Rest.grp {D : List Sd} {N m : Nat} {K : List Sd} (hD : Even D N) (h : Rest D m K) : isGrp K D.length = true := by
  unfold isGrp
  rw [decide_eq_true_eq]
  intro i hi hs
  rw [h.all hD, h.row hD hi hs]
theorem whl_some {D : List Sd} {N m : Nat} (hD : Even D N) (i : Nat) (hi : i < (whl D m).length) : ((whl D m).getD i none).isSome = true := by
  rw [whl_len] at hi
  rw [whl_get hD hi]
  rfl
/-- A whole group has no shard that is none of it. -/
theorem loc_whole {D : List Sd} {N m : Nat} (hD : Even D N) (hm : m ≤ 16) : chwE (whl D m) (D.length : Int) = 0 ∧ Fine (whl D m) D.length ∧ (∀ i, i < (whl D m).length → ((whl D m).getD i none).isSome = true) ∧ locA (whl D m) D.length = (-1, 0) := by
  have hR := (Lost.none m hD).rest hm (Nat.zero_le _)
  exact ⟨some_chw (hR.fine hD) (whl_some hD), hR.fine hD, whl_some hD, by unfold locA; rw [hR.grp hD, if_pos rfl]⟩
theorem set_get {K : List Sd} {i j : Nat} {s : Sd} (h : i ≠ j) : (K.set i s).getD j none = K.getD j none := by simp only [List.getD]; rw [List.getElem?_set_ne h]
theorem set_self {K : List Sd} {i : Nat} {s : Sd} (h : i < K.length) : (K.set i s).getD i none = s := by simp [List.getD, h]
/-- One that was changed is told. -/
theorem loc_one {D : List Sd} {N m i : Nat} {s : List G} (hD : Even D N) (hm : 2 ≤ m ∧ m ≤ 16) (hi : i < D.length + m) (hs : s.length = N) (hne : (whl D m).getD i none ≠ some s) :
    chwE ((whl D m).set i (some s)) (D.length : Int) = 0 ∧ Fine ((whl D m).set i (some s)) D.length ∧ (∀ t, t < ((whl D m).set i (some s)).length → (((whl D m).set i (some s)).getD t none).isSome = true) ∧ locA ((whl D m).set i (some s)) D.length = ((i : Int), 0) := by
  have hlen : ((whl D m).set i (some s)).length = D.length + m := by rw [List.length_set, whl_len]
  have hiw : i < (whl D m).length := by rw [whl_len]; exact hi
  have hsome : ∀ t, t < ((whl D m).set i (some s)).length → (((whl D m).set i (some s)).getD t none).isSome = true := fun t ht => by
    by_cases e : i = t
    · subst e; rw [set_self hiw]; rfl
    · rw [set_get e]; exact whl_some hD t (by rw [whl_len]; omega)
  have hrow : ∀ t, t < D.length + m → (sl (((whl D m).set i (some s)).getD t none)).length = N := fun t ht => by
    by_cases e : i = t
    · subst e; rw [set_self hiw]; exact hs
    · rw [set_get e, whl_get hD ht]; simp [sl, grp_len]
  have hleft := left_all hsome
  have hF : Fine ((whl D m).set i (some s)) D.length := by
    refine ⟨hD.lo, hD.hi, by rw [hlen]; omega, by rw [hlen]; omega, ?_, by rw [hleft, hlen]; omega⟩
    cases hf : frm (left ((whl D m).set i (some s))) with
    | false => rfl
    | true =>
      obtain ⟨a, b, hb, ha, _, _, hn⟩ := (wr_frm _).2 hf
      rw [hlen] at ha
      rw [hrow a ha, hrow b (by omega)] at hn
      exact absurd rfl hn
  -- whoever is a group without a shard, and has the changed one, has it as it was
  have key : ∀ M : List Sd, M.length = D.length + m → Fine M D.length → isGrp M D.length = true → M.getD i none = some s → Rest D m (M.set i none) → False := fun M hM hFM hg hMi hR => by
    obtain ⟨D3, hE3, hl3, hR3⟩ := grp_rest hFM hg
    have hm3 : M.length - D.length = m := by omega
    rw [hm3] at hR3
    have hL3 : Rest D3 m (M.set i none) := by
      refine ⟨by rw [List.length_set]; exact hR3.len, hR3.few, fun j hj => ?_, by rw [hl3]; exact hR.many⟩
      by_cases e : i = j
      · subst e; exact .inl (set_self (by rw [hM]; exact hi))
      · rw [set_get e]; exact hR3.each j hj
    have e1 := hR.all hD i
    have e2 := hL3.all hE3 i
    rw [hl3] at e2
    have e3 : M.getD i none = (whl D3 m).getD i none := by
      rcases hR3.each i (by rw [hl3]; exact hi) with h | h
      · rw [hMi] at h; cases h
      · exact h
    apply hne
    rw [whl_get hD hi, ← e1, e2, ← hMi, e3, whl_get hE3 (by rw [hl3]; exact hi), hl3]
  have hst : ((whl D m).set i (some s)).set i none = (whl D m).set i none := by rw [List.set_set]
  have hR1 : Rest D m ((whl D m).set i none) := ((Lost.none m hD).more i).rest hm.2 (by omega)
  have hg0 : isGrp ((whl D m).set i (some s)) D.length = false := by
    cases hq : isGrp ((whl D m).set i (some s)) D.length with
    | false => rfl
    | true => exact (key _ hlen hF hq (set_self hiw) (by rw [hst]; exact hR1)).elim
  have hgw : ∀ t, t < D.length + m → gwB ((whl D m).set i (some s)) D.length t = decide (t = i) := fun t ht => by
    by_cases e : t = i
    · subst e
      rw [decide_eq_true rfl, gwB, hst, decide_eq_true (hR1.chk hD), hR1.grp hD]
      rfl
    · rw [decide_eq_false e]
      cases hq : gwB ((whl D m).set i (some s)) D.length t with
      | false => rfl
      | true =>
        unfold gwB at hq
        rw [Bool.and_eq_true, decide_eq_true_eq] at hq
        obtain ⟨n, e2, hFM⟩ := fine_of hq.1
        have : D.length = n := by omega
        rw [← this] at hFM
        refine (key _ (by rw [List.length_set]; exact hlen) hFM hq.2 (by rw [set_get e]; exact set_self hiw) ?_).elim
        rw [List.set_comm _ _ e, List.set_set]
        exact (((Lost.none m hD).more i).more t).rest hm.2 (by omega)
  refine ⟨some_chw hF hsome, hF, hsome, ?_⟩
  unfold locA
  rw [hg0, if_neg (by simp), hlen, fnd_one _ hgw, if_pos hi]
  rfl
end Go.Proofs.Ytbdmbhpmbklaiaa
