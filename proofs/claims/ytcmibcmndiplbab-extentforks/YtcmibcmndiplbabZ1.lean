/- Free spans, as plain lists: what a cut and a joining do. -/
import Derived.Test.YtcmibcmndiplbabY14
namespace Go.Proofs.Ytcmibcmndiplbab
open Go.RowKit Go.Lib Go.Shelf

/-- The spans rise from lo on up to B; none is empty; no two touch. -/
def Can (B : Int) : Int → List (Int × Int) → Prop
  | _, [] => True
  | lo, x :: r => lo ≤ x.1 ∧ x.1 < x.2 ∧ x.2 ≤ B ∧ Can B (x.2 + 1) r
/-- A sector is free. -/
def cov (l : List (Int × Int)) (k : Int) : Prop := ∃ x ∈ l, x.1 ≤ k ∧ k < x.2

theorem cov_nil (k : Int) : ¬ cov [] k := by simp [cov]
theorem cov_cons (x : Int × Int) (l : List (Int × Int)) (k : Int) : cov (x :: l) k ↔ (x.1 ≤ k ∧ k < x.2) ∨ cov l k := by simp [cov]
theorem Can.mono {B lo lo' : Int} {l : List (Int × Int)} (h : Can B lo l) (hl : lo' ≤ lo) : Can B lo' l := by
  cases l with
  | nil => trivial
  | cons x r => exact ⟨by have := h.1; omega, h.2⟩
theorem Can.ge {B : Int} : ∀ {l : List (Int × Int)} {lo : Int}, Can B lo l → ∀ x ∈ l, lo ≤ x.1 ∧ x.1 < x.2 ∧ x.2 ≤ B
  | [], _, _, x, hx => by simp at hx
  | y :: r, lo, h, x, hx => by
    rcases List.mem_cons.1 hx with rfl | hx
    · exact ⟨h.1, h.2.1, h.2.2.1⟩
    · have := Can.ge h.2.2.2 x hx
      have h1 := h.1
      have h2 := h.2.1
      exact ⟨by omega, this.2⟩
theorem Can.fine {B : Int} {l : List (Int × Int)} {lo : Int} (h : Can B lo l) (h0 : 0 ≤ lo) (hB : B ≤ 4096) : Fine l := fun x hx => by
  have := h.ge x hx; omega
theorem Can.length {B : Int} : ∀ {l : List (Int × Int)} {lo : Int}, Can B lo l → (l.length : Int) ≤ max 0 (B - lo)
  | [], _, _ => by simp; omega
  | x :: r, lo, h => by
    have := Can.length h.2.2.2
    have h1 := h.1
    have h2 := h.2.1
    have h3 := h.2.2.1
    simp only [List.length_cons]
    omega

/-- The cut, by recursion. -/
def cutAt : List (Int × Int) → Nat → Int → Int → List (Int × Int)
  | [], _, _, _ => []
  | x :: r, 0, s1, s2 => ne2 (x.1, s1) (s2, x.2) ++ r
  | x :: r, i + 1, s1, s2 => x :: cutAt r i s1 s2
theorem cutAt_eq : ∀ (l : List (Int × Int)) (i : Nat) (s1 s2 : Int), i < l.length → l.take i ++ ne2 ((l.getD i default).1, s1) (s2, (l.getD i default).2) ++ l.drop (i + 1) = cutAt l i s1 s2
  | [], i, _, _, h => by simp at h
  | x :: r, 0, s1, s2, _ => by simp [cutAt]
  | x :: r, i + 1, s1, s2, h => by
    have := cutAt_eq r i s1 s2 (by simpa using h)
    simp only [cutAt, ← this]
    simp

def sumS (l : List (Int × Int)) : Int := (l.map siz).foldl (· + ·) 0
theorem foldl_add (l : List Int) : ∀ a, l.foldl (· + ·) a = a + l.foldl (· + ·) 0 := by
  induction l with
  | nil => intro a; simp
  | cons x l ih => intro a; simp only [List.foldl_cons]; rw [ih (a + x), ih (0 + x)]; omega
theorem sumS_nil : sumS [] = 0 := rfl
theorem sumS_cons (x : Int × Int) (l : List (Int × Int)) : sumS (x :: l) = siz x + sumS l := by
  unfold sumS
  rw [List.map_cons, List.foldl_cons, foldl_add]; omega
theorem sumS_append (l m : List (Int × Int)) : sumS (l ++ m) = sumS l + sumS m := by
  induction l with
  | nil => simp [sumS_nil]
  | cons x l ih => rw [List.cons_append, sumS_cons, sumS_cons, ih]; omega

theorem ne2_can {B lo hi a s1 s2 c : Int} {r : List (Int × Int)} (h1 : lo ≤ a) (h2 : a ≤ s1) (h3 : s1 < s2) (h4 : s2 ≤ c) (h5 : c ≤ B) (hr : Can B hi r) (hh : c + 1 ≤ hi) : Can B lo (ne2 (a, s1) (s2, c) ++ r) := by
  unfold ne2
  by_cases e1 : a = s1
  · by_cases e2 : s2 = c
    · simp [e1, e2]; exact hr.mono (by omega)
    · simp [e1, e2, Can]; exact ⟨by omega, by omega, h5, hr.mono (by omega)⟩
  · by_cases e2 : s2 = c
    · simp [e1, e2, Can]; exact ⟨h1, by omega, by omega, hr.mono (by omega)⟩
    · simp [e1, e2, Can]; exact ⟨h1, by omega, by omega, by omega, by omega, h5, hr.mono (by omega)⟩
theorem ne2_cov {a s1 s2 c : Int} (h2 : a ≤ s1) (h3 : s1 < s2) (h4 : s2 ≤ c) (k : Int) : cov (ne2 (a, s1) (s2, c)) k ↔ (a ≤ k ∧ k < c) ∧ ¬ (s1 ≤ k ∧ k < s2) := by
  unfold ne2
  by_cases e1 : a = s1
  · by_cases e2 : s2 = c
    · simp [e1, e2, cov] <;> omega
    · simp [e1, e2, cov] <;> omega
  · by_cases e2 : s2 = c
    · simp [e1, e2, cov] <;> omega
    · simp [e1, e2, cov] <;> omega
theorem ne2_sum (a s1 s2 c : Int) : sumS (ne2 (a, s1) (s2, c)) = (s1 - a) + (c - s2) := by
  unfold ne2
  by_cases e1 : a = s1
  · by_cases e2 : s2 = c
    · simp [e1, e2, sumS]
    · simp [e1, e2, sumS, siz]
  · by_cases e2 : s2 = c
    · simp [e1, e2, sumS, siz]
    · simp [e1, e2, sumS, siz]

theorem cov_append (l m : List (Int × Int)) (k : Int) : cov (l ++ m) k ↔ cov l k ∨ cov m k := by
  simp only [cov, List.mem_append]
  constructor
  · rintro ⟨x, h | h, hx⟩
    · exact .inl ⟨x, h, hx⟩
    · exact .inr ⟨x, h, hx⟩
  · rintro (⟨x, h, hx⟩ | ⟨x, h, hx⟩)
    · exact ⟨x, .inl h, hx⟩
    · exact ⟨x, .inr h, hx⟩

theorem cut_can {B : Int} : ∀ (l : List (Int × Int)) (i : Nat) (lo s1 s2 : Int), Can B lo l → i < l.length → (l.getD i default).1 ≤ s1 → s1 < s2 → s2 ≤ (l.getD i default).2 →
    Can B lo (cutAt l i s1 s2) ∧ (∀ k, cov (cutAt l i s1 s2) k ↔ cov l k ∧ ¬ (s1 ≤ k ∧ k < s2)) ∧ sumS (cutAt l i s1 s2) = sumS l - (s2 - s1)
  | [], i, _, _, _, _, h, _, _, _ => by simp at h
  | x :: r, 0, lo, s1, s2, h, _, h1, h2, h3 => by
    have h1' : x.1 ≤ s1 := h1
    have h3' : s2 ≤ x.2 := h3
    refine ⟨ne2_can h.1 h1' h2 h3' h.2.2.1 h.2.2.2 (Int.le_refl _), fun k => ?_, ?_⟩
    · rw [cutAt, cov_append, ne2_cov h1' h2 h3', cov_cons]
      constructor
      · rintro (⟨h5, h6⟩ | ⟨y, hy, hk⟩)
        · exact ⟨.inl h5, h6⟩
        · have := h.2.2.2.ge y hy
          exact ⟨.inr ⟨y, hy, hk⟩, by omega⟩
      · rintro ⟨h5 | h5, h6⟩
        · exact .inl ⟨h5, h6⟩
        · exact .inr h5
    · rw [cutAt, sumS_append, ne2_sum, sumS_cons]; unfold siz; omega
  | x :: r, i + 1, lo, s1, s2, h, hi, h1, h2, h3 => by
    obtain ⟨a1, a2, a3⟩ := cut_can r i (x.2 + 1) s1 s2 h.2.2.2 (by simpa using hi) (by simpa using h1) h2 (by simpa using h3)
    have hi' : i < r.length := by simpa using hi
    have hm : r.getD i default ∈ r := by simp [List.getD, List.getElem?_eq_getElem hi']
    have hg := h.2.2.2.ge _ hm
    have h1' : (r.getD i default).1 ≤ s1 := by simpa using h1
    refine ⟨⟨h.1, h.2.1, h.2.2.1, a1⟩, fun k => ?_, ?_⟩
    · rw [cutAt, cov_cons, cov_cons, a2]
      constructor
      · rintro (h5 | ⟨h5, h6⟩)
        · exact ⟨.inl h5, by omega⟩
        · exact ⟨.inr h5, h6⟩
      · rintro ⟨h5 | h5, h6⟩
        · exact .inl h5
        · exact .inr ⟨h5, h6⟩
    · rw [cutAt, sumS_cons, sumS_cons, a3]; omega

theorem joined_nil (s : Int × Int) : joined [] s = [s] := by simp [joined, jfrom, jgo]
theorem joined_lt (x : Int × Int) (r : List (Int × Int)) (s : Int × Int) (h : x.2 < s.1) : joined (x :: r) s = x :: joined r s := by
  have e : jfrom (x :: r) s.1 = jfrom r s.1 + 1 := by
    unfold jfrom
    rw [List.findIdx_cons, show decide (s.1 ≤ x.2) = false by simp; omega]
    rfl
  unfold joined
  rw [e, List.take_succ_cons, List.drop_succ_cons, show jfrom r s.1 + 1 + (jgo (List.drop (jfrom r s.1) r) s).1 = (jfrom r s.1 + (jgo (List.drop (jfrom r s.1) r) s).1) + 1 by omega, List.drop_succ_cons]
  simp
theorem joined_ge (x : Int × Int) (r : List (Int × Int)) (s : Int × Int) (h : s.1 ≤ x.2) : joined (x :: r) s = (jgo (x :: r) s).2 :: (x :: r).drop (jgo (x :: r) s).1 := by
  have e : jfrom (x :: r) s.1 = 0 := by
    unfold jfrom
    rw [List.findIdx_cons, show decide (s.1 ≤ x.2) = true by simp; omega]
    rfl
  unfold joined
  rw [e]
  simp
theorem jgo_far (l : List (Int × Int)) (B lo : Int) (s : Int × Int) (h : Can B lo l) (hl : s.2 < lo) : jgo l s = (0, s) := by
  cases l with
  | nil => rfl
  | cons x r => rw [jgo, if_neg (by have := h.1; omega)]

theorem join_can {B : Int} : ∀ (l : List (Int × Int)) (lo s1 s2 : Int), Can B lo l → lo ≤ s1 → s1 < s2 → s2 ≤ B → (∀ x ∈ l, ¬ (s1 < x.2 ∧ x.1 < s2)) →
    Can B lo (joined l (s1, s2)) ∧ (∀ k, cov (joined l (s1, s2)) k ↔ cov l k ∨ (s1 ≤ k ∧ k < s2)) ∧ sumS (joined l (s1, s2)) = sumS l + (s2 - s1)
  | [], lo, s1, s2, _, h1, h2, h3, _ => by
    rw [joined_nil]
    refine ⟨⟨h1, h2, h3, trivial⟩, fun k => by simp [cov], ?_⟩
    rw [sumS_cons]; unfold siz; omega
  | x :: r, lo, s1, s2, h, h1, h2, h3, hm => by
    have hx := hm x (by simp)
    have c1 := h.1
    have c2 := h.2.1
    have c3 := h.2.2.1
    have c4 := h.2.2.2
    by_cases hlt : x.2 < s1
    · obtain ⟨a1, a2, a3⟩ := join_can r (x.2 + 1) s1 s2 c4 (by omega) h2 h3 (fun y hy => hm y (by simp [hy]))
      rw [joined_lt _ _ _ hlt]
      refine ⟨⟨c1, c2, c3, a1⟩, fun k => ?_, ?_⟩
      · rw [cov_cons, cov_cons, a2]
        constructor
        · rintro (h | h | h)
          · exact .inl (.inl h)
          · exact .inl (.inr h)
          · exact .inr h
        · rintro ((h | h) | h)
          · exact .inl h
          · exact .inr (.inl h)
          · exact .inr (.inr h)
      · rw [sumS_cons, sumS_cons, a3]; omega
    · rw [joined_ge _ _ _ (by show s1 ≤ x.2; omega)]
      by_cases hgt : s2 < x.1
      · have e : jgo (x :: r) (s1, s2) = (0, (s1, s2)) := by rw [jgo, if_neg (by simp; omega)]
        rw [e]
        refine ⟨⟨h1, h2, h3, by show s2 + 1 ≤ x.1; omega, c2, c3, c4⟩, fun k => ?_, ?_⟩
        · show cov ((s1, s2) :: (x :: r)) k ↔ _
          rw [cov_cons]
          constructor
          · rintro (h | h)
            · exact .inr h
            · exact .inl h
          · rintro (h | h)
            · exact .inr h
            · exact .inl h
        · show sumS ((s1, s2) :: (x :: r)) = _
          rw [sumS_cons]; unfold siz; simp only; omega
      · by_cases heq : s2 = x.1
        · -- it touches what stands behind
          have e : jgo (x :: r) (s1, s2) = (1, (s1, x.2)) := by
            rw [jgo, if_pos (by simp; omega)]
            simp only
            rw [show min s1 x.1 = s1 by omega, show max s2 x.2 = x.2 by omega, jgo_far r B (x.2 + 1) (s1, x.2) c4 (by simp; omega)]
          rw [e]
          refine ⟨⟨h1, by show s1 < x.2; omega, c3, c4⟩, fun k => ?_, ?_⟩
          · show cov ((s1, x.2) :: r) k ↔ _
            rw [cov_cons, cov_cons]
            simp only
            constructor
            · rintro (h | h)
              · by_cases hk : k < s2
                · exact .inr (by omega)
                · exact .inl (.inl (by omega))
              · exact .inl (.inr h)
            · rintro ((h | h) | h)
              · exact .inl (by omega)
              · exact .inr h
              · exact .inl (by omega)
          · show sumS ((s1, x.2) :: r) = _
            rw [sumS_cons, sumS_cons]; unfold siz; simp only; omega
        · -- it touches what stands ahead
          have hs : s1 = x.2 := by omega
          have hstep : jgo (x :: r) (s1, s2) = ((jgo r (x.1, s2)).1 + 1, (jgo r (x.1, s2)).2) := by
            rw [jgo, if_pos (by simp; omega)]
            simp only
            rw [show min s1 x.1 = x.1 by omega, show max s2 x.2 = s2 by omega]
          cases r with
          | nil =>
            rw [hstep]
            refine ⟨⟨c1, by show x.1 < s2; omega, h3, trivial⟩, fun k => ?_, ?_⟩
            · show cov [(x.1, s2)] k ↔ _
              rw [cov_cons, cov_cons]
              simp only [cov_nil, or_false]
              omega
            · show sumS [(x.1, s2)] = _
              rw [sumS_cons, sumS_cons, sumS_nil]; unfold siz; simp only; omega
          | cons y q =>
            have hy := hm y (by simp)
            have b1 := c4.1
            have b2 := c4.2.1
            have b3 := c4.2.2.1
            have b4 := c4.2.2.2
            by_cases hy2 : s2 = y.1
            · have e : jgo (y :: q) (x.1, s2) = (1, (x.1, y.2)) := by
                rw [jgo, if_pos (by simp; omega)]
                simp only
                rw [show min x.1 y.1 = x.1 by omega, show max s2 y.2 = y.2 by omega, jgo_far q B (y.2 + 1) (x.1, y.2) b4 (by simp; omega)]
              rw [hstep, e]
              refine ⟨⟨c1, by show x.1 < y.2; omega, b3, b4⟩, fun k => ?_, ?_⟩
              · show cov ((x.1, y.2) :: q) k ↔ _
                rw [cov_cons, cov_cons, cov_cons]
                simp only
                constructor
                · rintro (h | h)
                  · by_cases hk : k < x.2
                    · exact .inl (.inl (by omega))
                    · by_cases hk2 : k < s2
                      · exact .inr (by omega)
                      · exact .inl (.inr (.inl (by omega)))
                  · exact .inl (.inr (.inr h))
                · rintro ((h | h | h) | h)
                  · exact .inl (by omega)
                  · exact .inl (by omega)
                  · exact .inr h
                  · exact .inl (by omega)
              · show sumS ((x.1, y.2) :: q) = _
                rw [sumS_cons, sumS_cons, sumS_cons]; unfold siz; simp only; omega
            · have e : jgo (y :: q) (x.1, s2) = (0, (x.1, s2)) := by rw [jgo, if_neg (by simp; omega)]
              rw [hstep, e]
              refine ⟨⟨c1, by show x.1 < s2; omega, h3, by show s2 + 1 ≤ y.1; omega, b2, b3, b4⟩, fun k => ?_, ?_⟩
              · show cov ((x.1, s2) :: (y :: q)) k ↔ _
                rw [cov_cons (x.1, s2), cov_cons x]
                simp only
                constructor
                · rintro (h | h)
                  · by_cases hk : k < x.2
                    · exact .inl (.inl (by omega))
                    · exact .inr (by omega)
                  · exact .inl (.inr h)
                · rintro ((h | h) | h)
                  · exact .inl (by omega)
                  · exact .inr h
                  · exact .inl (by omega)
              · show sumS ((x.1, s2) :: (y :: q)) = _
                rw [sumS_cons, sumS_cons x]; unfold siz; simp only; omega
end Go.Proofs.Ytcmibcmndiplbab
