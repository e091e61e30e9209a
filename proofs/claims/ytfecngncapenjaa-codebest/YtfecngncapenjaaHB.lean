/- No lengths for which there are words cost less than Lengths (plain mathematics). -/
import Derived.Test.YtfecngncapenjaaPL
import Derived.Test.YtfecngncapenjaaGc
namespace Go.Proofs.Ytfecngncapenjaa
open Hf

/-- Counts and lengths of the bytes that are there. -/
def pl (f g : List Int) : Nat → List P2
  | 0 => []
  | k + 1 => pl f g k ++ if 0 < f.getD k 0 then [(cN f k, cN g k)] else []
theorem pl_w (f g : List Int) : ∀ k, (pl f g k).map (·.1) = ((T0 f k).map tr).map Tr.w
  | 0 => rfl
  | k + 1 => by
    rw [pl, T0, List.map_append, List.map_append, List.map_append, pl_w f g k]
    by_cases h : 0 < f.getD k 0
    · rw [if_pos h, if_pos h]; rfl
    · rw [if_neg h, if_neg h]; rfl
theorem cost_app : ∀ p q : List P2, cost (p ++ q) = cost p + cost q
  | [], q => by simp [cost]
  | x :: p, q => by rw [List.cons_append, cost, cost, cost_app p q]; omega
theorem kr_app (M : Nat) : ∀ p q : List P2, kr M (p ++ q) = kr M p + kr M q
  | [], q => by simp [kr]
  | x :: p, q => by rw [List.cons_append, kr, kr, kr_app M p q]; omega
theorem pl_cost (f g : List Int) : ∀ k, cost (pl f g k) = sm (fun i => cN f i * cN g i) k
  | 0 => rfl
  | k + 1 => by
    rw [pl, cost_app, sm, pl_cost f g k]
    by_cases h : 0 < f.getD k 0
    · rw [if_pos h]; simp only [cost]; omega
    · rw [if_neg h]
      have : cN f k = 0 := by unfold cN; omega
      rw [this]; simp only [cost]; omega
theorem pl_kr {f g : List Int} (hc : ∀ i, i < 256 → 0 < f.getD i 0 → g.getD i 0 ≠ 0) : ∀ k, k ≤ 256 → kr 60 (pl f g k) ≤ sm (fun i => if g.getD i 0 = 0 then 0 else 2 ^ (60 - (g.getD i 0).toNat)) k
  | 0, _ => Nat.le_refl _
  | k + 1, hk => by
    have ih := pl_kr hc k (by omega)
    rw [pl, kr_app, sm]
    by_cases h : 0 < f.getD k 0
    · rw [if_pos h, if_neg (hc k (by omega) h)]
      simp only [kr, cN]
      omega
    · rw [if_neg h]
      simp only [kr]
      omega
theorem pl_mem {f g : List Int} : ∀ k, ∀ x ∈ pl f g k, ∃ i, x.2 = cN g i
  | 0, x, h => by cases h
  | k + 1, x, h => by
    rw [pl] at h
    rcases List.mem_append.1 h with h | h
    · exact pl_mem k x h
    · by_cases h0 : 0 < f.getD k 0
      · rw [if_pos h0] at h
        simp at h
        exact ⟨k, by rw [h]⟩
      · rw [if_neg h0] at h; cases h
theorem hr_low {g : List Int} (h : hr g = true) (i : Nat) : 0 ≤ g.getD i 0 ∧ g.getD i 0 ≤ 60 := by
  unfold hr at h
  rw [Bool.and_eq_true] at h
  have ha := List.all_eq_true.1 h.1
  by_cases hi : i < g.length
  · have := ha (g.getD i 0) (by unfold List.getD; rw [List.getElem?_eq_getElem hi]; exact List.getElem_mem hi)
    unfold okB at this
    rw [Bool.and_eq_true, decide_eq_true_eq, decide_eq_true_eq] at this
    exact this
  · rw [show g.getD i 0 = 0 by unfold List.getD; rw [List.getElem?_eq_none (by omega)]; rfl]
    omega
theorem cst_sm {f g : List Int} (hf : f.length = 256) (hb : f.any bad = false) (hg : ∀ i, 0 ≤ g.getD i 0 ∧ g.getD i 0 ≤ 60) : ∀ k, k ≤ 256 → cst f g k = (sm (fun i => cN f i * cN g i) k : Nat)
  | 0, _ => rfl
  | k + 1, hk => by
    rw [cst, sm, cst_sm hf hb hg k (by omega)]
    have hn : bad (f.getD k 0) = false := by
      cases h : bad (f.getD k 0) with
      | false => rfl
      | true => exact absurd h (List.any_eq_false.1 hb (f.getD k 0) (by unfold List.getD; rw [List.getElem?_eq_getElem (show k < f.length by omega)]; exact List.getElem_mem _))
    unfold bad at hn
    have hx := of_decide_eq_false hn
    have hy := hg k
    unfold ct cN
    rw [if_pos ⟨hx, by omega, by omega⟩]
    obtain ⟨x, hx2⟩ := Int.eq_ofNat_of_zero_le (show 0 ≤ f.getD k 0 by omega)
    obtain ⟨y, hy2⟩ := Int.eq_ofNat_of_zero_le hy.1
    rw [hx2, hy2]
    simp only [Int.toNat_natCast]
    omega
theorem best_le {f l g : List Int} (hf : f.length = 256) (hb : f.any bad = false) (hl : LenS f l) (hg : hr g = true) (hgl : g.length = 256) (hc : ∀ i, i < 256 → 0 < f.getD i 0 → g.getD i 0 ≠ 0) : cst f l 256 ≤ cst f g 256 := by
  have h0 := T0_fine hf hb
  have hG := hl.good h0
  have hlow := hr_low hg
  rw [cst_sm hf hb (fun i => by have := hG.low i; omega) 256 (Nat.le_refl _), cst_sm hf hb hlow 256 (Nat.le_refl _)]
  refine Int.ofNat_le.2 ?_
  rcases hl with ⟨h1, t, ht, rfl⟩ | ⟨h1, F, hF, hm⟩
  · obtain ⟨c, hcl, hp, rfl⟩ := T0_spec f 256 t (by rw [ht]; simp)
    refine sm_le 256 fun i hi => ?_
    by_cases hq : 0 < f.getD i 0
    · have hmem := T0_mem 256 i hi hq
      rw [ht] at hmem
      have e : i = c := by simp at hmem; omega
      subst e
      have h2 := hc i hi hq
      have h3 := (hlow i).1
      refine Nat.mul_le_mul_left _ ?_
      unfold cN
      simp only [Int.toNat_natCast]
      rw [set_getD z0 i i 1 (by rw [z0_len]; exact hi), if_pos rfl]
      omega
    · have : cN f i = 0 := by unfold cN; omega
      rw [this, Nat.zero_mul, Nat.zero_mul]
      exact Nat.le_refl _
  · by_cases hn : T0 f 256 = []
    · refine sm_le 256 fun i hi => ?_
      have : cN f i = 0 := by
        unfold cN
        by_cases hq : 0 < f.getD i 0
        · have hmem := T0_mem 256 i hi hq
          rw [hn] at hmem
          cases hmem
        · omega
      rw [this, Nat.zero_mul, Nat.zero_mul]
      exact Nat.le_refl _
    · have hne := hF.some hn
      obtain ⟨t, hFt⟩ : ∃ t, F = [t] := List.length_eq_one_iff.1 (by have := List.length_pos_iff.2 hne; omega)
      subst hFt
      obtain ⟨G, hR, hp⟩ := runA_run h0 hF
      have hGt : G = [tr t] := by simpa using hp.eq_singleton
      subst hGt
      have hI := hR.inv (T0_init h0)
      have hk : Ok (pl f g 256) := by
        refine ⟨60, fun x hx => ?_, ?_⟩
        · obtain ⟨i, e⟩ := pl_mem 256 x hx
          have := hlow i
          rw [e]; unfold cN; omega
        · refine Nat.le_trans (pl_kr hc 256 (Nat.le_refl _)) ?_
          have h := krs_sm g 256 (by omega)
          rw [List.take_of_length_le (by omega)] at h
          rw [← h]
          exact hr_krs hg
      have := hI.least (p := pl f g 256) (by rw [pl_w]) hk
      rw [pl_cost] at this
      exact this
end Go.Proofs.Ytfecngncapenjaa
