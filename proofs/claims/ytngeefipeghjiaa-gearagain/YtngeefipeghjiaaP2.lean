/- Whole chunks, cut again; rows of bytes from a place on. -/
import Derived.Test.YtngeefipeghjiaaL5
namespace Go.Proofs.Ytngeefipeghjiaa
open Go.RowKit

theorem feed_back (E : List Int → Bool) (ps : List Int) : ∀ held, NoEnd E held → feed E [] ((feed E held ps).1.flatten) = ((feed E held ps).1, []) := by
  induction ps with
  | nil => intro held _; simp [feed_nil]
  | cons x ps ih =>
    intro held h
    rw [feed_cons]
    split
    · rename_i hx
      have e1 : feed E [] (held ++ [x]) = ([held ++ [x]], []) := by
        rw [feed_snoc, feed_none E held [] (by simpa using h)]
        simp [hx]
      simp only [List.flatten_cons]
      rw [feed_append, e1]
      simp only
      rw [ih [] (noEnd_nil E)]
      simp
    · rename_i hx
      exact ih _ (noEnd_snoc E h (by simpa using hx))
theorem allL_again (E : List Int → Bool) (ps t : List Int) : allL E ((feed E [] ps).1.flatten ++ t) = (feed E [] ps).1 ++ allL E t := by
  unfold allL
  rw [feed_append, feed_back E ps [] (noEnd_nil E)]
  simp only
  unfold more
  split
  · rfl
  · simp
theorem OwnR.dropG {w : World} {S : Nat → Prop} {a : Option Addr} {n cap k : Nat} {L : List (List Int)} (h : OwnR w S 0 (.slice a n cap) L) (hk : k ≤ n) : RowsB w S (.slice (if cap = k then a else Option.map (fun x => x.add k) a) (n - k) (cap - k)) (L.drop k) := by
  have hr := h.rows
  obtain ⟨_, _, e, hl, _⟩ := hr.shape
  simp at e
  by_cases hc : cap = k
  · rw [if_pos hc, show n - k = 0 by omega, show cap - k = 0 by omega, List.drop_eq_nil_of_le (by omega)]
    exact RowsB.none S a
  · rw [if_neg hc]
    obtain ⟨vs, ⟨_, q⟩, _⟩ := h
    rcases q with ⟨q, q2⟩ | ⟨g, cap', cur, q, _⟩
    · simp at q; omega
    · simp at q
      obtain ⟨rfl, _, rfl⟩ := q
      rw [Option.map_some, add_plain, Nat.zero_add]
      exact hr.drop hk
end Go.Proofs.Ytngeefipeghjiaa
