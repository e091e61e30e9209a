/- Champions, plain: what the program chooses by counts is what the document chooses by votes. -/
import Derived.Test.YtiloclekhddkfaaS7
namespace Go.Proofs.Ytiloclekhddkfaa

/-- b stands in lists of M, in most of them, of like ones the greatest. -/
def RTop (M : List (List Int)) (b : Int) : Prop := b ∈ M.flatten ∧ ∀ k ∈ M.flatten, vt k M < vt b M ∨ (vt k M = vt b M ∧ k ≤ b)
/-- The document's champions. -/
inductive RChamp : Nat → List (List Int) → List Int → Prop
  | zero (M : List (List Int)) : RChamp 0 M []
  | none (f : Nat) (M : List (List Int)) (h : M.flatten = []) : RChamp f M []
  | one (f : Nat) (M : List (List Int)) (b : Int) (C : List Int) (ht : RTop M b) (hc : RChamp f (without b M) C) : RChamp (f + 1) M (b :: C)
theorem rtop_one {M : List (List Int)} {a b : Int} (ha : RTop M a) (hb : RTop M b) : a = b := by
  have h1 := ha.2 b hb.1
  have h2 := hb.2 a ha.1
  omega
theorem rchamp_one {f : Nat} {M : List (List Int)} {C : List Int} (h : RChamp f M C) : ∀ {D : List Int}, RChamp f M D → C = D := by
  induction h with
  | zero M => intro D k; cases k <;> rfl
  | none f M h =>
    intro D k
    cases k with
    | zero => rfl
    | none _ _ _ => rfl
    | one f _ b C ht hc => have := ht.1; rw [h] at this; simp at this
  | one f M b C ht hc ih =>
    intro D k
    cases k with
    | none _ _ h => have := ht.1; rw [h] at this; simp at this
    | one _ _ c D ht' hc' =>
      have e := rtop_one ht ht'
      subst e
      rw [ih hc']
theorem up_count {l : List Int} (h : l.Pairwise (· < ·)) (x : Int) : l.count x = if x ∈ l then 1 else 0 := by
  induction l with
  | nil => simp
  | cons a l ih =>
    have hp := List.pairwise_cons.1 h
    rw [List.count_cons, ih hp.2]
    by_cases e : a = x
    · subst e
      have hn : a ∉ l := fun hm => by have := hp.1 a hm; omega
      simp [hn]
    · have e' : ¬ x = a := fun q => e q.symm
      simp [e, e']
theorem onces_nil {M : List (List Int)} (h : Onces [] M) : M = [] := List.length_eq_zero_iff.1 h.1
theorem onces_cons {l : List Int} {L M : List (List Int)} (h : Onces (l :: L) M) : ∃ k N, M = k :: N ∧ k.Pairwise (· < ·) ∧ (∀ x, x ∈ k ↔ x ∈ l) ∧ Onces L N := by
  match M, h with
  | [], h => have := h.1; simp at this
  | k :: N, h =>
    have h0 := h.2 0 (by simp)
    simp only [List.getD_cons_zero] at h0
    refine ⟨k, N, rfl, h0.1, h0.2, ?_, fun i hi => ?_⟩
    · have := h.1; simpa using this
    · have := h.2 (i + 1) (by simp; omega)
      simpa using this
theorem onces_mk {l k : List Int} {L N : List (List Int)} (hp : k.Pairwise (· < ·)) (hm : ∀ x, x ∈ k ↔ x ∈ l) (h : Onces L N) : Onces (l :: L) (k :: N) := by
  refine ⟨by simp [h.1], fun i hi => ?_⟩
  match i, hi with
  | 0, _ => simpa using ⟨hp, hm⟩
  | i + 1, hi =>
    have := h.2 i (by simpa using hi)
    simpa using this
theorem vt_cons (x : Int) (l : List Int) (M : List (List Int)) : vt x (l :: M) = (if x ∈ l then 1 else 0) + vt x M := by
  unfold vt
  by_cases h : x ∈ l
  · rw [if_pos h, List.filter_cons_of_pos (by simp [h]), List.length_cons]; omega
  · rw [if_neg h, List.filter_cons_of_neg (by simp [h])]; omega
theorem onces_count : ∀ (L M : List (List Int)), Onces L M → ∀ x, M.flatten.count x = vt x L
  | [], M, h, x => by rw [onces_nil h]; simp [vt]
  | l :: L, M, h, x => by
    obtain ⟨k, N, rfl, hp, hm, hn⟩ := onces_cons h
    rw [List.flatten_cons, List.count_append, onces_count L N hn x, up_count hp, vt_cons]
    by_cases q : x ∈ l
    · rw [if_pos q, if_pos ((hm x).2 q)]
    · rw [if_neg q, if_neg (fun e => q ((hm x).1 e))]
theorem onces_mem : ∀ (L M : List (List Int)), Onces L M → ∀ x, x ∈ M.flatten ↔ x ∈ L.flatten
  | [], M, h, x => by rw [onces_nil h]
  | l :: L, M, h, x => by
    obtain ⟨k, N, rfl, hp, hm, hn⟩ := onces_cons h
    rw [List.flatten_cons, List.flatten_cons, List.mem_append, List.mem_append, onces_mem L N hn x, hm x]
theorem onces_without (b : Int) : ∀ (L M : List (List Int)), Onces L M → Onces (without b L) (without b M)
  | [], M, h => by rw [onces_nil h]; exact ⟨rfl, fun i hi => by simp [without] at hi⟩
  | l :: L, M, h => by
    obtain ⟨k, N, rfl, hp, hm, hn⟩ := onces_cons h
    have ih := onces_without b L N hn
    by_cases q : b ∈ l
    · have q' : b ∈ k := (hm b).2 q
      have e1 : without b (l :: L) = without b L := by unfold without; rw [List.filter_cons_of_neg (by simp [q])]
      have e2 : without b (k :: N) = without b N := by unfold without; rw [List.filter_cons_of_neg (by simp [q'])]
      rw [e1, e2]; exact ih
    · have q' : b ∉ k := fun e => q ((hm b).1 e)
      have e1 : without b (l :: L) = l :: without b L := by unfold without; rw [List.filter_cons_of_pos (by simp [q])]
      have e2 : without b (k :: N) = k :: without b N := by unfold without; rw [List.filter_cons_of_pos (by simp [q'])]
      rw [e1, e2]; exact onces_mk hp hm ih
theorem flat_nil {L M : List (List Int)} (h : Onces L M) : M.flatten = [] ↔ L.flatten = [] := by
  rw [List.eq_nil_iff_forall_not_mem, List.eq_nil_iff_forall_not_mem]
  exact ⟨fun k x hx => k x ((onces_mem L M h x).2 hx), fun k x hx => k x ((onces_mem L M h x).1 hx)⟩
theorem top_rtop {L M : List (List Int)} {b m : Int} (h : Onces L M) (hn : M.flatten ≠ []) (ht : Top M.flatten b m) : RTop L b := by
  have hi := ht.is hn
  have hb : 0 < M.flatten.count b := by omega
  refine ⟨(onces_mem L M h b).1 (List.count_pos_iff.1 hb), fun k hk => ?_⟩
  have := ht.le k ((onces_mem L M h k).2 hk)
  rw [hi.1, onces_count L M h k, onces_count L M h b] at this
  omega
/-- The program's champions are the document's. -/
theorem champ_rchamp {f : Nat} {M : List (List Int)} {C : List Int} (hc : Champ f M C) : ∀ {L : List (List Int)}, Onces L M → RChamp f L C := by
  induction hc with
  | zero M => intro L _; exact .zero L
  | none f M h => intro L ho; exact .none f L ((flat_nil ho).1 h)
  | one f M b m C h ht hc ih => intro L ho; exact .one f L b C (top_rtop ho h ht) (ih (onces_without b L M ho))
end Go.Proofs.Ytiloclekhddkfaa
