/- Package extent's join. -/
import Derived.Test.YtcmibcmndiplbabY13
namespace Go.Proofs.Ytcmibcmndiplbab
open Go.RowKit Go.Lib Go.Shelf

theorem with_any (x y : Int × Int) (W : World) : Calls Try.prog 45 #[sp x, sp y] W fun e w' => e = .returned (sp (min x.1 y.1, max x.2 y.2)) ∧ Below W.heap.size W w' := by
  obtain ⟨a, c⟩ := x
  obtain ⟨d, f⟩ := y
  unfold sp
  by_cases h1 : d < a <;> by_cases h2 : c < f
  · have e1 : min a d = d := by omega
    have e2 : max c f = f := by omega
    simp only [e1, e2]
    go_enter Try.func45, Try.ntmps45
    go_wp2
    go_returns
    exact ⟨rfl, (((Below.refl _ W).alloc (Nat.le_refl _) _).alloc (by simp) _).alloc (by simp; omega) _⟩
  · have e1 : min a d = d := by omega
    have e2 : max c f = c := by omega
    simp only [e1, e2]
    go_enter Try.func45, Try.ntmps45
    go_wp2
    go_returns
    exact ⟨rfl, (((Below.refl _ W).alloc (Nat.le_refl _) _).alloc (by simp) _).alloc (by simp; omega) _⟩
  · have e1 : min a d = a := by omega
    have e2 : max c f = f := by omega
    simp only [e1, e2]
    go_enter Try.func45, Try.ntmps45
    go_wp2
    go_returns
    exact ⟨rfl, (((Below.refl _ W).alloc (Nat.le_refl _) _).alloc (by simp) _).alloc (by simp; omega) _⟩
  · have e1 : min a d = a := by omega
    have e2 : max c f = c := by omega
    simp only [e1, e2]
    go_enter Try.func45, Try.ntmps45
    go_wp2
    go_returns
    exact ⟨rfl, (((Below.refl _ W).alloc (Nat.le_refl _) _).alloc (by simp) _).alloc (by simp; omega) _⟩

theorem touch_any (a : Int) (B : Nat) (x : Int × Int) (W : World) (hB : B < W.heap.size) (hc : W.cell? ⟨B, 0, none⟩ = some (.int .i64 a)) : Calls Try.prog 44 #[sp x, .pointer (some ⟨B, 0, none⟩)] W fun e w' => e = .returned (.bool (decide (a ≤ x.2))) ∧ Below W.heap.size W w' := by
  unfold sp
  have hne : B ≠ W.heap.size := by omega
  go_enter Try.func44, Try.ntmps44
  go_wp2
  go_ret
  exact ⟨rfl, (Below.refl _ W).alloc (Nat.le_refl _) _⟩
theorem pred_touch (a : Int) (B : Nat) (w : World) (hB : B < w.heap.size) (hc : w.cell? ⟨B, 0, none⟩ = some (.int .i64 a)) : Pred 44 #[] #[.pointer (some ⟨B, 0, none⟩)] (fun x => decide (a ≤ x.2)) w := fun W x hb => by
  have hc' : W.cell? ⟨B, 0, none⟩ = some (.int .i64 a) := (hb.cell (p := ⟨B, 0, none⟩) hB).trans hc
  refine (touch_any a B x W (Nat.lt_of_lt_of_le hB hb.size) hc').mono ?_
  rintro e w' ⟨rfl, hb'⟩
  exact ⟨rfl, hb.trans (hb'.mono hb.size)⟩
theorem pred_meets (s : Int × Int) (w : World) : Pred 33 #[sp s] #[] (fun x => decide (s.1 < x.2 ∧ x.1 < s.2)) w := fun W x hb => by
  refine (meets_any s x W).mono ?_
  rintro e w' ⟨rfl, hb'⟩
  exact ⟨rfl, hb.trans (hb'.mono hb.size)⟩

/-- How many spans from here on are joined, and with what they make. -/
def jgo : List (Int × Int) → Int × Int → Nat × (Int × Int)
  | [], s => (0, s)
  | x :: r, s => if x.1 ≤ s.2 then ((jgo r (min s.1 x.1, max s.2 x.2)).1 + 1, (jgo r (min s.1 x.1, max s.2 x.2)).2) else (0, s)
theorem jgo_le : ∀ (l : List (Int × Int)) (s : Int × Int), (jgo l s).1 ≤ l.length
  | [], s => by simp [jgo]
  | x :: r, s => by
    unfold jgo
    split
    · have := jgo_le r (min s.1 x.1, max s.2 x.2)
      simp; exact this
    · simp
/-- Where the joining begins. -/
def jfrom (l : List (Int × Int)) (a : Int) : Nat := l.findIdx fun x => decide (a ≤ x.2)
theorem jfrom_idx (l : List (Int × Int)) (a : Int) : (idx (fun x => decide (a ≤ x.2)) l = -1 ∧ jfrom l a = l.length) ∨ (idx (fun x => decide (a ≤ x.2)) l = jfrom l a ∧ jfrom l a < l.length) := by
  unfold idx jfrom
  cases h : l.findIdx? fun x => decide (a ≤ x.2) with
  | none =>
    left
    refine ⟨rfl, ?_⟩
    rw [List.findIdx?_eq_none_iff] at h
    exact List.findIdx_eq_length.2 h
  | some k =>
    right
    have hk := List.findIdx?_eq_some_iff_findIdx_eq.1 h
    exact ⟨by rw [hk.2], by rw [hk.2]; exact hk.1⟩
/-- The joined list. -/
def joined (l : List (Int × Int)) (s : Int × Int) : List (Int × Int) := l.take (jfrom l s.1) ++ [(jgo (l.drop (jfrom l s.1)) s).2] ++ l.drop (jfrom l s.1 + (jgo (l.drop (jfrom l s.1)) s).1)
end Go.Proofs.Ytcmibcmndiplbab
