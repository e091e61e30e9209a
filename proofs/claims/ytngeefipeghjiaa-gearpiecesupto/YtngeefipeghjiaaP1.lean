/- How long chunks are. -/
import Derived.Test.YtngeefipeghjiaaR5
namespace Go.Proofs.Ytngeefipeghjiaa
open Go.RowKit

section
variable {mn av mx : Int} {T : Nat → Int}
theorem endB_no {l : List Int} (h : endB mn av mx T l = false) : (l.length : Int) < mx := by
  have := of_decide_eq_false h
  omega
theorem endB_min (hok : okC mn av mx) {l : List Int} (h : endB mn av mx T l = true) : mn ≤ (l.length : Int) := by
  have h1 := of_decide_eq_true h
  have := hok.2.1
  omega
theorem feed_max (ps : List Int) : ∀ l : List Int, (l.length : Int) < mx → (∀ c ∈ (feed (endB mn av mx T) l ps).1, (c.length : Int) ≤ mx) ∧ ((feed (endB mn av mx T) l ps).2.length : Int) < mx := by
  induction ps with
  | nil => intro l h; rw [feed_nil]; exact ⟨fun c hc => (nomatch hc), h⟩
  | cons x ps ih =>
    intro l h
    have hl : ((l ++ [x]).length : Int) ≤ mx := by simp; omega
    rw [feed_cons]
    split
    · have := ih [] (by simp; omega)
      refine ⟨fun c hc => ?_, this.2⟩
      rcases List.mem_cons.1 hc with rfl | hc
      · exact hl
      · exact this.1 c hc
    · rename_i hE
      exact ih _ (endB_no (by simpa using hE))
theorem allL_flat (E : List Int → Bool) (ps : List Int) : (allL E ps).flatten = ps := by
  have h := feed_flat E ps []
  unfold allL more
  split
  · rename_i hz
    rw [List.length_eq_zero_iff.1 hz] at h
    simpa using h
  · simpa using h
theorem allL_ok (hok : okC mn av mx) (ps : List Int) {i : Nat} (hi : i < (allL (endB mn av mx T) ps).length) :
    1 ≤ ((allL (endB mn av mx T) ps).getD i []).length ∧ (((allL (endB mn av mx T) ps).getD i []).length : Int) ≤ mx ∧ (i + 1 < (allL (endB mn av mx T) ps).length → mn ≤ (((allL (endB mn av mx T) ps).getD i []).length : Int)) := by
  have hm := feed_max (mn := mn) (av := av) (mx := mx) (T := T) ps [] (by have := hok.1; have := hok.2.1; simp; omega)
  have he := feed_ends (endB mn av mx T) ps []
  unfold allL more at hi ⊢
  generalize feed (endB mn av mx T) [] ps = R at hi hm he ⊢
  have hin : ∀ j, j < R.1.length → 1 ≤ (R.1.getD j []).length ∧ ((R.1.getD j []).length : Int) ≤ mx ∧ mn ≤ ((R.1.getD j []).length : Int) := fun j hj => by
    have hmem : R.1.getD j [] ∈ R.1 := by simp only [List.getD, List.getElem?_eq_getElem hj, Option.getD_some]; exact List.getElem_mem hj
    have h1 := he _ hmem
    refine ⟨List.length_pos_iff.2 h1.2, hm.1 _ hmem, endB_min hok h1.1⟩
  by_cases hz : R.2.length = 0
  · simp only [hz, if_true] at hi ⊢
    obtain ⟨a, b, c⟩ := hin i hi
    exact ⟨a, b, fun _ => c⟩
  · rw [if_neg hz] at hi ⊢
    by_cases hj : i < R.1.length
    · have e : (R.1 ++ [R.2]).getD i [] = R.1.getD i [] := by simp only [List.getD]; rw [List.getElem?_append_left hj]
      rw [e]
      obtain ⟨a, b, c⟩ := hin i hj
      exact ⟨a, b, fun _ => c⟩
    · have hi' : i = R.1.length := by simp at hi; omega
      subst hi'
      have e : (R.1 ++ [R.2]).getD R.1.length [] = R.2 := by simp [List.getD]
      rw [e]
      refine ⟨by omega, by omega, fun h => by simp at h⟩
end
theorem flat_take_snoc (L : List (List Int)) {i : Nat} (hi : i < L.length) : (L.take (i + 1)).flatten = (L.take i).flatten ++ L.getD i [] := by
  rw [List.take_add_one, List.flatten_append, List.getElem?_eq_getElem hi]
  simp [List.getD, List.getElem?_eq_getElem hi]
end Go.Proofs.Ytngeefipeghjiaa
