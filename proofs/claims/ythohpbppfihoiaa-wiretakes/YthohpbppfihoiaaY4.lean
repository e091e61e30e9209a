/- The document's Take; what is taken has whole sums. -/
import Derived.Test.YthohpbppfihoiaaGy
namespace Go.Proofs.Ythohpbppfihoiaa
open Go.RowKit Go.Lib

section
variable {w : World}
theorem rtake13 (v : Value) (bs : List Int) (hv : Oct.Bs w v bs) (hby : ∀ x ∈ bs, 0 ≤ x ∧ x < 256) (hl : bs.length ≤ 140737488355328) :
    Calls Try.prog 13 #[v] w fun e w' => TakeP w w' (tkN bs).1 (tkN bs).2 e := by
  obtain ⟨⟨s, a, c⟩, hs⟩ : ∃ r, Oct.tkNum bs 0 = r := ⟨_, rfl⟩
  by_cases hc : c = 0
  · subst hc
    cases h : isS s with
    | false => exact rtake_0 v bs hv hby hl s a hs h
    | true =>
      rcases say7 h with rfl | rfl | rfl | rfl | rfl | rfl | rfl
      · exact rtake_1 v bs hv hby hl a hs
      · exact rtake_2 v bs hv hby hl a hs
      · exact rtake_3 v bs hv hby hl a hs
      · exact rtake_4 v bs hv hby hl a hs
      · exact rtake_5 v bs hv hby hl a hs
      · exact rtake_6 v bs hv hby hl a hs
      · exact rtake_7 v bs hv hby hl a hs
  · exact rtake_e v bs hv hby hl c s a hs hc
end
theorem rep_all {α : Type} {bs : List Int} {Q : α → Prop} (f : St → α × St) (hf : ∀ st, InS bs st → InS bs (f st).2 ∧ Q (f st).1) : ∀ (k : Nat) (st : St), InS bs st → ∀ x ∈ (rep f k st).1, Q x
  | 0, _, _, x, hx => by cases hx
  | k + 1, st, h, x, hx => by
    by_cases h0 : st.2 = 0
    · rw [rep_ok f k st h0] at hx
      rcases List.mem_cons.1 hx with rfl | hx
      · exact (hf st h).2
      · exact rep_all f hf k _ (hf st h).1 x hx
    · rw [rep_stop f _ st h0] at hx
      cases hx
theorem sS_sum {bs : List Int} {st : St} (hb : ∀ x ∈ bs, 0 ≤ x ∧ x < 256) (h : InS bs st) : Sum32 (sS bs st).1 := by
  refine ⟨sS_len bs st h, fun x hx => ?_⟩
  unfold sS at hx
  split at hx
  · have := List.eq_of_mem_replicate hx; omega
  · exact hb x (List.mem_of_mem_drop (List.mem_of_mem_take hx))
theorem pL_sum {bs : List Int} {st : St} (hb : ∀ x ∈ bs, 0 ≤ x ∧ x < 256) (h : InS bs st) : ∀ p ∈ (lS bs 256 (pS bs) st).1, Sum32 p.1 := by
  unfold lS
  refine rep_all (Q := fun p : Pt => Sum32 p.1) (pS bs) (fun st h => ⟨pS_in hb h, sS_sum hb h⟩) _ _ ?_
  split
  · exact flS_in (nS_in hb h) 6
  · exact nS_in hb h
theorem noteK_sum {bs : List Int} {m : Nm} {s : Int} {s1 : St} (hb : ∀ x ∈ bs, 0 ≤ x ∧ x < 256) (h : InS bs s1) : ∀ p ∈ (noteK m bs s s1).1.P, Sum32 p.1 := by
  obtain ⟨m1, m2, m3, m4, m5⟩ := m
  have c1 : ∀ (x : Bool) (st : St), InS bs st → InS bs (cond x (nS bs st) (0, st)).2 := fun x st h => by cases x <;> first | exact h | exact nS_in hb h
  have c2 : ∀ (x : Bool) (k : Int) (st : St), InS bs st → InS bs (cond x (xS bs k st) ([], st)).2 := fun x k st h => by cases x <;> first | exact h | exact xS_in hb k h
  have c3 : ∀ (x : Bool) (st : St), InS bs st → InS bs (cond x (lS bs 64 (hS bs) st) ([], st)).2 := fun x st h => by cases x <;> first | exact h | exact lS_in hb _ _ (fun st h => hS_in hb h) h
  have c4 : ∀ (x : Bool) (st : St), InS bs st → ∀ p ∈ (cond x (lS bs 256 (pS bs) st) ([], st)).1, Sum32 p.1 := fun x st h => by
    cases x
    · exact fun p hp => by cases hp
    · exact pL_sum hb h
  exact c4 _ _ (c3 _ _ (c1 _ _ (c1 _ _ (c2 _ _ _ h))))
theorem tkN_sum {bs : List Int} (hb : ∀ x ∈ bs, 0 ≤ x ∧ x < 256) : ∀ p ∈ (tkN bs).1.P, Sum32 p.1 := by
  have h0 : InS bs (0, 0) := ⟨Int.le_refl 0, by simp⟩
  have hn : ∀ p ∈ (noteS bs (0, 0)).1.P, Sum32 p.1 := by
    unfold noteS
    split
    · exact noteK_sum hb (nS_in hb h0)
    · exact noteK_sum hb (flS_in (nS_in hb h0) 4)
  have ht : (tkN bs).1 = (noteS bs (0, 0)).1 ∨ (tkN bs).1 = zN := by
    unfold tkN
    simp only
    repeat' split
    all_goals first | exact .inl rfl | exact .inr rfl
  rcases ht with e | e
  · rw [e]; exact hn
  · rw [e]; exact fun p hp => by cases hp
end Go.Proofs.Ythohpbppfihoiaa
