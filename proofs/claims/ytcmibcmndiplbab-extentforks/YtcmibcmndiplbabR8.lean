/- Both maps side by side: plain facts. -/
import Derived.Test.YtcmibcmndiplbabR3
import Derived.Test.YtcmibcmndiplbabR1
namespace Go.Proofs.Ytcmibcmndiplbab
open Go.RowKit Go.Lib Go.Shelf

theorem within_of_cov {B : Int} : ∀ (l : List (Int × Int)) (lo a c : Int), Can B lo l → a < c → (∀ k, a ≤ k → k < c → cov l k) → ∃ x ∈ l, x.1 ≤ a ∧ c ≤ x.2
  | [], _, a, _, _, h, hc => absurd (hc a (Int.le_refl _) h) (cov_nil _)
  | x :: r, lo, a, c, h, hac, hc => by
    have h2 := h.2.1
    have h4 := h.2.2.2
    have ha := (cov_cons x r a).1 (hc a (Int.le_refl _) hac)
    rcases ha with ha | ha
    · by_cases hx : c ≤ x.2
      · exact ⟨x, by simp, ha.1, hx⟩
      · have := (cov_cons x r x.2).1 (hc x.2 (by omega) (by omega))
        rcases this with h' | h'
        · omega
        · have := cov_lo h4 h'; omega
    · have hlo := cov_lo h4 ha
      obtain ⟨y, hy, h5⟩ := within_of_cov r (x.2 + 1) a c h4 hac (fun k h6 h7 => by
        rcases (cov_cons x r k).1 (hc k h6 h7) with h' | h'
        · omega
        · exact h')
      exact ⟨y, by simp [hy], h5⟩

theorem allB_iff (T : List Bool) (a m : Nat) (tk : Bool) : allB T a m tk = true ↔ ∀ j, j < m → T.getD (a + j) false = tk := by
  unfold allB
  rw [List.all_eq_true]
  constructor
  · intro h j hj
    have := h j (by simpa using hj)
    simpa using this
  · intro h j hj
    have := h j (by simpa using hj)
    simpa using this

theorem says_set {A B : Int} {l l' : List (Int × Int)} {T : List Bool} (h : Says A B l T) (a m : Nat) (tk : Bool) (ham : a + m ≤ T.length) (hc : Can B A l') (hcov : ∀ k, cov l' k ↔ (if A + (a : Int) ≤ k ∧ k < A + (a : Int) + (m : Int) then tk = false else cov l k)) : Says A B l' (setB T a m tk) := by
  have hlen := h.len
  refine ⟨hc, by rw [setB_length]; exact hlen, fun k => ?_⟩
  rw [hcov k]
  by_cases hin : A ≤ k ∧ k < B
  · have hk : (k - A).toNat < T.length := by omega
    rw [setB_get T a m tk _ hk]
    unfold setF
    by_cases hr : A + (a : Int) ≤ k ∧ k < A + (a : Int) + (m : Int)
    · rw [if_pos hr, if_pos (by omega)]
      constructor
      · intro e; exact ⟨hin, e⟩
      · intro e; exact e.2
    · rw [if_neg hr, if_neg (by omega), h.cov k]
  · constructor
    · intro hh
      by_cases hr : A + (a : Int) ≤ k ∧ k < A + (a : Int) + (m : Int)
      · omega
      · rw [if_neg hr, h.cov k] at hh; exact absurd hh.1 hin
    · intro hh; exact absurd hh.1 hin

theorem says_free {A B : Int} {l : List (Int × Int)} {T : List Bool} (h : Says A B l T) (a m : Nat) (ham : a + m ≤ T.length) (tk : Bool) : (∀ j, j < m → T.getD (a + j) false = tk) ↔ ∀ k, A + (a : Int) ≤ k → k < A + (a : Int) + (m : Int) → (cov l k ↔ tk = false) := by
  have hlen := h.len
  constructor
  · intro hh k h1 h2
    have hj := hh (k - A - (a : Int)).toNat (by omega)
    rw [show a + (k - A - (a : Int)).toNat = (k - A).toNat by omega] at hj
    rw [h.cov k, hj]
    constructor
    · intro e; exact e.2
    · intro e; exact ⟨by omega, e⟩
  · intro hh j hj
    have := hh (A + (a : Int) + (j : Int)) (by omega) (by omega)
    rw [h.cov, show (A + (a : Int) + (j : Int) - A).toNat = a + j by omega] at this
    cases hT : T.getD (a + j) false <;> cases tk
    · rfl
    · rw [hT] at this; simp at this; omega
    · rw [hT] at this; simp at this
    · rfl
end Go.Proofs.Ytcmibcmndiplbab
