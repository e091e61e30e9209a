/- Spans clipped at a sector. -/
import Derived.Test.YtcmibcmndiplbabR2
namespace Go.Proofs.Ytcmibcmndiplbab
open Go.RowKit Go.Lib Go.Shelf

def clip1 (e : Int) (x : Int × Int) : List (Int × Int) := if x.1 < e then [(x.1, min x.2 e)] else []
def clip (l : List (Int × Int)) (e : Int) : List (Int × Int) := l.flatMap (clip1 e)
theorem clip_cons (x : Int × Int) (r : List (Int × Int)) (e : Int) : clip (x :: r) e = clip1 e x ++ clip r e := by simp [clip]
theorem clip_nil (e : Int) : clip [] e = [] := rfl
theorem clip_far {B : Int} : ∀ (l : List (Int × Int)) (lo e : Int), Can B lo l → e ≤ lo → clip l e = []
  | [], _, _, _, _ => rfl
  | x :: r, lo, e, h, he => by
    have h1 := h.1
    have h2 := h.2.1
    rw [clip_cons, clip_far r (x.2 + 1) e h.2.2.2 (by omega), clip1, if_neg (by omega)]
    rfl
theorem clip_all {B : Int} : ∀ (l : List (Int × Int)) (lo : Int), Can B lo l → clip l B = l
  | [], _, _ => rfl
  | x :: r, lo, h => by
    have h2 := h.2.1
    have h3 := h.2.2.1
    rw [clip_cons, clip_all r (x.2 + 1) h.2.2.2, clip1, if_pos (by omega), show min x.2 B = x.2 by omega]
    rfl
theorem cov_lo {B : Int} {l : List (Int × Int)} {lo k : Int} (h : Can B lo l) (hc : cov l k) : lo ≤ k := by
  obtain ⟨x, hx, h1, h2⟩ := hc
  have := h.ge x hx
  omega
theorem clip_no {B : Int} : ∀ (l : List (Int × Int)) (lo e : Int), Can B lo l → ¬ cov l e → clip l (e + 1) = clip l e
  | [], _, _, _, _ => rfl
  | x :: r, lo, e, h, hc => by
    rw [cov_cons] at hc
    have h2 := h.2.1
    rw [clip_cons, clip_cons, clip_no r (x.2 + 1) e h.2.2.2 (fun hh => hc (.inr hh))]
    congr 1
    unfold clip1
    by_cases hx : x.1 < e
    · rw [if_pos (by omega), if_pos hx, show min x.2 (e + 1) = min x.2 e by
        have : x.2 ≤ e := by
          rcases Int.lt_or_le e x.2 with h | h
          · exact absurd (.inl ⟨by omega, h⟩) hc
          · exact h
        omega]
    · rw [if_neg hx, if_neg (by
        intro hh
        exact hc (.inl ⟨by omega, by omega⟩))]
theorem clip_on {B : Int} : ∀ (l : List (Int × Int)) (lo e : Int), Can B lo l → cov l e → cov l (e - 1) → ∃ pre x, clip l e = pre ++ [(x, e)] ∧ clip l (e + 1) = pre ++ [(x, e + 1)]
  | [], _, _, _, hc, _ => absurd hc (cov_nil _)
  | x :: r, lo, e, h, hc, hd => by
    rw [cov_cons] at hc hd
    have h2 := h.2.1
    have h4 := h.2.2.2
    by_cases hx : x.1 ≤ e ∧ e < x.2
    · have hx1 : x.1 ≤ e - 1 := by
        rcases hd with hd | hd
        · omega
        · have := cov_lo h4 hd; omega
      refine ⟨[], x.1, ?_, ?_⟩
      · rw [clip_cons, clip_far r (x.2 + 1) e h4 (by omega), clip1, if_pos (by omega), show min x.2 e = e by omega]; rfl
      · rw [clip_cons, clip_far r (x.2 + 1) (e + 1) h4 (by omega), clip1, if_pos (by omega), show min x.2 (e + 1) = e + 1 by omega]; rfl
    · have hr : cov r e := by
        rcases hc with hc | hc
        · exact absurd hc hx
        · exact hc
      have hlo := cov_lo h4 hr
      have hr' : cov r (e - 1) := by
        rcases hd with hd | hd
        · omega
        · exact hd
      obtain ⟨pre, y, e1, e2⟩ := clip_on r (x.2 + 1) e h4 hr hr'
      refine ⟨clip1 e x ++ pre, y, ?_, ?_⟩
      · rw [clip_cons, e1, List.append_assoc]
      · rw [clip_cons, e2, List.append_assoc]
        congr 1
        unfold clip1
        rw [if_pos (by omega), if_pos (by omega), show min x.2 (e + 1) = min x.2 e by omega]
theorem clip_new {B : Int} : ∀ (l : List (Int × Int)) (lo e : Int), Can B lo l → cov l e → ¬ cov l (e - 1) → clip l (e + 1) = clip l e ++ [(e, e + 1)]
  | [], _, _, _, hc, _ => absurd hc (cov_nil _)
  | x :: r, lo, e, h, hc, hd => by
    rw [cov_cons] at hc hd
    have h2 := h.2.1
    have h4 := h.2.2.2
    by_cases hx : x.1 ≤ e ∧ e < x.2
    · have hx1 : x.1 = e := by
        rcases Int.lt_or_le x.1 e with h | h
        · exact absurd (.inl ⟨by omega, by omega⟩) hd
        · omega
      rw [clip_cons, clip_cons, clip_far r (x.2 + 1) e h4 (by omega), clip_far r (x.2 + 1) (e + 1) h4 (by omega), clip1, clip1, if_pos (by omega), if_neg (by omega), show min x.2 (e + 1) = e + 1 by omega, hx1]
      rfl
    · have hr : cov r e := by
        rcases hc with hc | hc
        · exact absurd hc hx
        · exact hc
      have hlo := cov_lo h4 hr
      rw [clip_cons, clip_cons, clip_new r (x.2 + 1) e h4 hr (fun hh => hd (.inr hh)), List.append_assoc]
      congr 1
      unfold clip1
      rw [if_pos (by omega), if_pos (by omega), show min x.2 (e + 1) = min x.2 e by omega]

/-- The spans l are just the sectors that are not taken. -/
structure Says (A B : Int) (l : List (Int × Int)) (T : List Bool) : Prop where
  can : Can B A l
  len : (T.length : Int) = B - A
  cov : ∀ k, cov l k ↔ (A ≤ k ∧ k < B) ∧ T.getD (k - A).toNat false = false
def rn (x : Int × Int) : Int × Int := (x.1, siz x)
end Go.Proofs.Ytcmibcmndiplbab
