/- Plain: canonical spans are one. -/
import Derived.Test.YtcmibcmndiplbabR14
namespace Go.Proofs.Ytcmibcmndiplbab
open Go.RowKit Go.Lib Go.Shelf

theorem can_one {B : Int} : ∀ (l l' : List (Int × Int)) (lo lo' : Int), Can B lo l → Can B lo' l' → (∀ k, cov l k ↔ cov l' k) → l = l'
  | [], [], _, _, _, _, _ => rfl
  | [], x :: r, _, _, _, h, hc => absurd ((hc x.1).2 ((cov_cons x r x.1).2 (.inl ⟨Int.le_refl _, h.2.1⟩))) (cov_nil _)
  | x :: r, [], _, _, h, _, hc => absurd ((hc x.1).1 ((cov_cons x r x.1).2 (.inl ⟨Int.le_refl _, h.2.1⟩))) (cov_nil _)
  | x :: r, y :: s, lo, lo', h, h', hc => by
    have hx := h.2.1
    have hy := h'.2.1
    have hr := h.2.2.2
    have hs := h'.2.2.2
    have e1 : x.1 = y.1 := by
      have a := (hc x.1).1 ((cov_cons x r x.1).2 (.inl ⟨Int.le_refl _, hx⟩))
      have b := (hc y.1).2 ((cov_cons y s y.1).2 (.inl ⟨Int.le_refl _, hy⟩))
      have a' : y.1 ≤ x.1 := by
        rcases (cov_cons y s x.1).1 a with h1 | h1
        · omega
        · have := cov_lo hs h1; omega
      have b' : x.1 ≤ y.1 := by
        rcases (cov_cons x r y.1).1 b with h1 | h1
        · omega
        · have := cov_lo hr h1; omega
      omega
    have e2 : x.2 = y.2 := by
      by_cases h1 : x.2 < y.2
      · rcases (cov_cons x r x.2).1 ((hc x.2).2 ((cov_cons y s x.2).2 (.inl ⟨by omega, h1⟩))) with h2 | h2
        · omega
        · have := cov_lo hr h2; omega
      · by_cases h3 : y.2 < x.2
        · rcases (cov_cons y s y.2).1 ((hc y.2).1 ((cov_cons x r y.2).2 (.inl ⟨by omega, h3⟩))) with h2 | h2
          · omega
          · have := cov_lo hs h2; omega
        · omega
    have e3 := can_one r s _ _ hr hs (fun k => by
      have hk := hc k
      rw [cov_cons, cov_cons] at hk
      constructor
      · intro h1
        have := cov_lo hr h1
        rcases hk.1 (.inr h1) with h2 | h2
        · omega
        · exact h2
      · intro h1
        have := cov_lo hs h1
        rcases hk.2 (.inr h1) with h2 | h2
        · omega
        · exact h2)
    rw [e3, Prod.ext e1 e2]

theorem own2_kept {w w' : World} {base : Nat} {e : TypeId} {v : Value} {l : List (Int × Int)} (h : Own2 w base e v l) (hb : ∀ g, base ≤ g → g < w.heap.size → w'.heap[g]? = w.heap[g]?) : Own2 w' base e v l := by
  refine ⟨h.1, ?_⟩
  rcases h.2 with h0 | ⟨g, cap, cur, e1, e2, hh, r⟩
  · exact .inl h0
  · exact .inr ⟨g, cap, cur, e1, e2, by rw [hb g e2 (Array.getElem?_eq_some_iff.1 hh).1]; exact hh, r⟩

theorem max_lt (n : Int) (hn : 1 ≤ n) : ∀ (l : List Int) (a : Int), a < n → (∀ y ∈ l, y < n) → l.foldl max a < n
  | [], a, h, _ => by simpa using h
  | x :: r, a, h, hl => by
    rw [List.foldl_cons]
    exact max_lt n hn r (max a x) (by have := hl x (by simp); omega) (fun y hy => hl y (by simp [hy]))

theorem can_mono {B lo : Int} : ∀ (l : List (Int × Int)) (i j : Nat), Can B lo l → i ≤ j → j < l.length → (l.getD i default).1 ≤ (l.getD j default).1
  | [], _, _, _, _, h => by simp at h
  | x :: r, 0, 0, _, _, _ => by simp
  | x :: r, 0, j + 1, h, _, hj => by
    have hj' : j < r.length := by simpa using hj
    have hm : r.getD j default ∈ r := by simp [List.getD, List.getElem?_eq_getElem hj']
    have := h.2.2.2.ge _ hm
    have := h.2.1
    simp only [List.getD_cons_zero, List.getD_cons_succ]
    omega
  | x :: r, i + 1, 0, _, h, _ => by omega
  | x :: r, i + 1, j + 1, h, hij, hj => by
    simp only [List.getD_cons_succ]
    exact can_mono r i j h.2.2.2 (by omega) (by simpa using hj)
end Go.Proofs.Ytcmibcmndiplbab
