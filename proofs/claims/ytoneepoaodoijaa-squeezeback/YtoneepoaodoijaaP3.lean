/- The former places, one behind the other from the nearest on, tell the best match (plain). -/
import Derived.Test.YtoneepoaodoijaaP0
namespace Go.Proofs.Ytoneepoaodoijaa

theorem fmr_mem {p : List Int} {at' j : Nat} {k : List Int} : j ∈ fmr p at' k ↔ j < at' ∧ fo p j = k := by simp [fmr]
/-- A row of places that rises: all that have the key. -/
structure Frm (p : List Int) (at' : Nat) (k : List Int) (F : List Nat) : Prop where
  rise : ∀ a b, a < b → b < F.length → F.getD a 0 < F.getD b 0
  mem : ∀ j, (∃ i, i < F.length ∧ F.getD i 0 = j) ↔ j < at' ∧ fo p j = k
theorem getD_of {F : List Nat} {i : Nat} (h : i < F.length) : F.getD i 0 = F[i] := by simp [List.getD, List.getElem?_eq_getElem h]
theorem fmr_frm (p : List Int) (at' : Nat) (k : List Int) : Frm p at' k (fmr p at' k) := by
  have hp : (fmr p at' k).Pairwise (· < ·) := List.Pairwise.filter _ List.pairwise_lt_range
  refine ⟨fun a b hab hb => ?_, fun j => ?_⟩
  · rw [getD_of (by omega), getD_of hb]
    exact List.pairwise_iff_getElem.1 hp a b (by omega) hb hab
  · rw [← fmr_mem, List.mem_iff_getElem]
    constructor
    · rintro ⟨i, hi, e⟩
      exact ⟨i, hi, by rw [← getD_of hi]; exact e⟩
    · rintro ⟨i, hi, e⟩
      exact ⟨i, hi, by rw [getD_of hi]; exact e⟩
/-- How far the k-th place from the end lies; 0 of none. -/
def dk (at' : Nat) (F : List Nat) (k : Nat) : Nat := if k = 0 then 0 else at' - F.getD (F.length - k) 0
section
variable {p : List Int} {at' : Nat} {K : List Int} {F : List Nat}
theorem Frm.lt (h : Frm p at' K F) {i : Nat} (hi : i < F.length) : F.getD i 0 < at' := ((h.mem _).1 ⟨i, hi, rfl⟩).1
theorem Frm.gap (h : Frm p at' K F) {k d : Nat} (hk : k ≤ F.length) (h1 : dk at' F k < d) (h2 : d ≤ at') (h3 : k < F.length → d < dk at' F (k + 1)) : fo p (at' - d) ≠ K := fun he => by
  obtain ⟨i, hi, e⟩ := (h.mem (at' - d)).2 ⟨by unfold dk at h1; split at h1 <;> omega, he⟩
  have hord : ∀ a b, a < F.length → b < F.length → F.getD a 0 < F.getD b 0 → a < b := fun a b ha hb hab => by
    rcases Nat.lt_trichotomy a b with h' | h' | h'
    · exact h'
    · subst h'; omega
    · have := h.rise b a h' ha; omega
  have hup : k < F.length → F.length - (k + 1) < i := fun hk' => by
    have h4 := h3 hk'
    unfold dk at h4
    rw [if_neg (by omega)] at h4
    have h5 := h.lt (i := F.length - (k + 1)) (by omega)
    exact hord _ _ (by omega) hi (by rw [e]; omega)
  by_cases hk0 : k = 0
  · subst hk0
    have := hup (by omega)
    omega
  · unfold dk at h1
    rw [if_neg hk0] at h1
    have h5 := h.lt (i := F.length - k) (by omega)
    have h6 := hord i (F.length - k) hi (by omega) (by rw [e]; omega)
    by_cases hkm : k < F.length
    · have := hup hkm
      omega
    · omega
theorem Frm.dk_lt (h : Frm p at' K F) {k : Nat} (hk : k < F.length) : dk at' F k < dk at' F (k + 1) ∧ dk at' F (k + 1) ≤ at' := by
  have h5 := h.lt (i := F.length - (k + 1)) (by omega)
  unfold dk
  rw [if_neg (show ¬ k + 1 = 0 by omega)]
  by_cases hk0 : k = 0
  · rw [if_pos hk0]; omega
  · rw [if_neg hk0]
    have h6 := h.lt (i := F.length - k) (by omega)
    have h7 := h.rise (F.length - (k + 1)) (F.length - k) (by omega) (by omega)
    omega
theorem no_match (h4 : at' + 4 ≤ p.length) {d : Nat} (h1 : 1 ≤ d) (h2 : d ≤ at') (hn : fo p (at' - d) ≠ fo p at') : ¬ 4 ≤ alk p (at' - d) at' (mst p at') 0 := fun h => hn ((fo_alk (by omega) h4).2 h)
theorem Frm.step (h : Frm p at' (fo p at') F) (h4 : at' + 4 ≤ p.length) {k : Nat} (hk : k < F.length) :
    bst p at' (dk at' F (k + 1)) = if (bst p at' (dk at' F k)).1 < alk p (F.getD (F.length - (k + 1)) 0) at' (mst p at') 0 then (alk p (F.getD (F.length - (k + 1)) 0) at' (mst p at') 0, dk at' F (k + 1)) else bst p at' (dk at' F k) := by
  have hd := h.dk_lt hk
  have hs := bst_skip p at' (dk at' F k) (dk at' F (k + 1) - 1 - dk at' F k) (fun f h1 h2 hc => no_match h4 (by omega) (by omega) (h.gap (by omega) h1 (by omega) (fun _ => by omega)) hc.1)
  rw [show dk at' F k + (dk at' F (k + 1) - 1 - dk at' F k) = dk at' F (k + 1) - 1 by omega] at hs
  have hj : at' - dk at' F (k + 1) = F.getD (F.length - (k + 1)) 0 := by
    have h5 := h.lt (i := F.length - (k + 1)) (by omega)
    unfold dk
    rw [if_neg (by omega)]
    omega
  have h44 : 4 ≤ alk p (F.getD (F.length - (k + 1)) 0) at' (mst p at') 0 := (fo_alk (h.lt (by omega)) h4).1 ((h.mem _).1 ⟨F.length - (k + 1), by omega, rfl⟩).2
  have hb : bst p at' (dk at' F (k + 1)) = bst p at' (dk at' F (k + 1) - 1 + 1) := by rw [show dk at' F (k + 1) - 1 + 1 = dk at' F (k + 1) by omega]
  rw [hb, bst, hs, show dk at' F (k + 1) - 1 + 1 = dk at' F (k + 1) by omega, hj]
  by_cases hc : (bst p at' (dk at' F k)).1 < alk p (F.getD (F.length - (k + 1)) 0) at' (mst p at') 0
  · rw [if_pos ⟨h44, hc⟩, if_pos hc]
  · rw [if_neg (fun h => hc h.2), if_neg hc]
/-- Where no further place is looked at. -/
theorem Frm.stop (h : Frm p at' (fo p at') F) (h4 : at' + 4 ≤ p.length) {k : Nat} (hk : k ≤ F.length) (hd : dk at' F k ≤ min at' 4096) (hs : k = F.length ∨ (k < F.length ∧ (4096 < dk at' F (k + 1) ∨ (bst p at' (dk at' F k)).1 = mst p at'))) : bst p at' (dk at' F k) = mt p at' := by
  unfold mt
  have hs2 := bst_skip p at' (dk at' F k) (min at' 4096 - dk at' F k) (fun f h1 h2 hc => by
    rcases hs with hs | ⟨hs, hs | hs⟩
    · exact no_match h4 (by omega) (by omega) (h.gap hk h1 (by omega) (fun _ => by omega)) hc.1
    · exact no_match h4 (by omega) (by omega) (h.gap hk h1 (by omega) (fun _ => by omega)) hc.1
    · have := alk_le p (at' - f) at' (mst p at') 0
      omega)
  rw [show dk at' F k + (min at' 4096 - dk at' F k) = min at' 4096 by omega] at hs2
  exact hs2.symm
end
end Go.Proofs.Ytoneepoaodoijaa
