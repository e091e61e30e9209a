/- Take and Give over lists of spans that rise. -/
import Derived.Test.YtcmibcmndiplbabY17
import Derived.Test.YtcmibcmndiplbabZ1
namespace Go.Proofs.Ytcmibcmndiplbab
open Go.RowKit Go.Lib Go.Shelf

theorem idx_cases (p : Int × Int → Bool) (l : List (Int × Int)) : (idx p l = -1 ∧ ∀ x ∈ l, p x = false) ∨ ∃ i : Nat, idx p l = i ∧ i < l.length ∧ p (l.getD i default) = true ∧ ∀ j, j < i → p (l.getD j default) = false := by
  unfold idx
  cases h : l.findIdx? p with
  | none => left; exact ⟨rfl, by simpa using List.findIdx?_eq_none_iff.1 h⟩
  | some k =>
    right
    obtain ⟨h1, h2, h3⟩ := List.findIdx?_eq_some_iff_getElem.1 h
    refine ⟨k, rfl, h1, by simpa [List.getD, List.getElem?_eq_getElem h1] using h2, fun j hj => ?_⟩
    have := h3 j hj
    simpa [List.getD, List.getElem?_eq_getElem (show j < l.length by omega)] using this

/-- What a map is: its row in memory, and its spans. -/
structure Live (w : World) (p : Nat) (A B : Int) (base b : Nat) (l : List (Int × Int)) : Prop where
  at' : ∃ cap, MapAt w p A B base b cap l
  can : Can B A l

theorem Live.small {w : World} {p : Nat} {A B : Int} {base b : Nat} {l : List (Int × Int)} (h : Live w p A B base b l) (hA : 0 ≤ A) (hB : B ≤ 4096) : l.length ≤ 99000 := by
  have := h.can.length; omega

theorem take_can (A B n : Int) (p b base : Nat) (l : List (Int × Int)) (w : World) (h : Live w p A B base b l) (hA : 0 ≤ A) (hB : B ≤ 4096) (hbs : base ≤ w.heap.size) (hn : 1 ≤ n) :
    Calls Try.prog 14 #[.pointer (some ⟨p, 0, none⟩), .int .i64 n] w fun e w' => (e = .returned (.tuple #[.int .i64 0, .int .i64 8]) ∧ Below w.heap.size w w') ∨
      ∃ x b' l', e = .returned (.tuple #[.int .i64 x, .int .i64 0]) ∧ Live w' p A B base b' l' ∧ (b' = b ∨ w.heap.size ≤ b') ∧ (∀ k, x ≤ k → k < x + n → cov l k) ∧ (∀ k, cov l' k ↔ cov l k ∧ ¬ (x ≤ k ∧ k < x + n)) ∧ sumS l' = sumS l - n ∧ A ≤ x ∧ x + n ≤ B ∧ Below base w w' ∧ ∀ k, k < w.heap.size → k ≠ p → k ≠ b → w'.heap[k]? = w.heap[k]? := by
  obtain ⟨cap, hM⟩ := h.at'
  have hF := h.can.fine hA hB
  have h5 := h.small hA hB
  rcases idx_cases (fun x => decide (n ≤ wrap64 (x.2 - x.1))) l with ⟨h1, _⟩ | ⟨i, h1, h2, h3, _⟩
  · exact (take_none hM n hn h1).mono fun e w' hh => .inl hh
  · have hm : l.getD i default ∈ l := by simp [List.getD, List.getElem?_eq_getElem h2]
    have hg := h.can.ge _ hm
    have hfx := hF _ hm
    have hfit : n ≤ siz (l.getD i default) := by
      rw [siz_wrap hfx] at h3
      simpa using h3
    have hfit' : n ≤ (l.getD i default).2 - (l.getD i default).1 := hfit
    refine (take_ok A B n p b cap base i l w hM hF hbs hn h2 h5 h1 hfit).mono ?_
    rintro e w' ⟨rfl, ⟨b', cap', hM', hd⟩, hB', hK⟩
    rw [cutAt_eq l i _ _ h2] at hM'
    obtain ⟨a1, a2, a3⟩ := cut_can l i A (l.getD i default).1 ((l.getD i default).1 + n) h.can h2 (Int.le_refl _) (by omega) (by omega)
    refine .inr ⟨_, b', _, rfl, ⟨⟨cap', hM'⟩, a1⟩, hd, fun k h1 h2 => ⟨_, hm, by omega, by omega⟩, a2, by rw [a3]; omega, hg.1, by omega, hB', hK⟩

theorem give_can (A B at' n : Int) (p b base : Nat) (l : List (Int × Int)) (w : World) (h : Live w p A B base b l) (hA : 0 ≤ A) (hB : B ≤ 4096) (hbs : base ≤ w.heap.size) (hn : 1 ≤ n) (h1 : A ≤ at') (h2 : at' + n ≤ B) (hfree : ∀ k, at' ≤ k → k < at' + n → ¬ cov l k) :
    Calls Try.prog 15 #[.pointer (some ⟨p, 0, none⟩), .agg #[.int .i64 at', .int .i64 n]] w fun e w' =>
      ∃ b' l', e = .returned (.int .i64 0) ∧ Live w' p A B base b' l' ∧ (b' = b ∨ w.heap.size ≤ b') ∧ (∀ k, cov l' k ↔ cov l k ∨ (at' ≤ k ∧ k < at' + n)) ∧ sumS l' = sumS l + n ∧ Below base w w' ∧ ∀ k, k < w.heap.size → k ≠ p → k ≠ b → w'.heap[k]? = w.heap[k]? := by
  obtain ⟨cap, hM⟩ := h.at'
  have h5 := h.small hA hB
  have hno : ∀ x ∈ l, ¬ (at' < x.2 ∧ x.1 < at' + n) := by
    intro x hx hc
    have hg := h.can.ge x hx
    by_cases hk : x.1 ≤ at'
    · exact hfree at' (by omega) (by omega) ⟨x, hx, by omega, by omega⟩
    · exact hfree x.1 (by omega) (by omega) ⟨x, hx, by omega, by omega⟩
  have hidx : idx (fun x => decide (at' < x.2 ∧ x.1 < at' + n)) l = -1 := by
    rcases idx_cases (fun x => decide (at' < x.2 ∧ x.1 < at' + n)) l with ⟨e, _⟩ | ⟨i, _, h2, h3, _⟩
    · exact e
    · exact absurd (by simpa using h3) (hno (l.getD i default) (by simp [List.getD, List.getElem?_eq_getElem h2]))
  refine (give_ok A B at' n p b cap base l w hM hbs hA hB (by unfold NotMine; omega) h5 (-1) hidx).mono ?_
  rintro e w' (⟨h0, _⟩ | ⟨_, rfl, ⟨b', cap', hM', hd⟩, hB', hK⟩)
  · omega
  · obtain ⟨a1, a2, a3⟩ := join_can l A at' (at' + n) h.can h1 (by omega) h2 hno
    exact ⟨b', _, rfl, ⟨⟨cap', hM'⟩, a1⟩, hd, a2, by rw [a3]; omega, hB', hK⟩
end Go.Proofs.Ytcmibcmndiplbab
