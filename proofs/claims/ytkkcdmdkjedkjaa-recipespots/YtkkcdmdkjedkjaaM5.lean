/- A ref of a row is changed in place. -/
import Derived.Test.YtkkcdmdkjedkjaaM3
namespace Go.Proofs.Ytkkcdmdkjedkjaa
open Go.RowKit Go.Lib

theorem own_setCell {w : World} {base : Nat} {e : TypeId} {k n : Nat} {xs : List Value} {g cap : Nat} (h : w.ownsRow base e k (.slice (some ⟨g, 0, none⟩) n cap) n xs) (j : Nat) (u : Value) : (w.setCell ⟨g, j, none⟩ u).ownsRow base e k (.slice (some ⟨g, 0, none⟩) n cap) n (xs.set j u) := by
  refine ⟨by rw [List.length_set]; exact h.1, ?_⟩
  rcases h.2 with ⟨hn, _⟩ | ⟨g', cap', cur, e', hb, hh, h1, h2, h3, h4⟩
  · cases hn
  · simp at e'
    obtain ⟨rfl, rfl⟩ := e'
    have hs := heap_setCell_same w g j cur e u hh
    refine .inr ⟨g, cap, _, rfl, hb, hs, h1, h2, by simpa using h3, ?_⟩
    rw [← h4]
    have hlen : xs.length = n * k := h.1
    rw [Array.toList_setIfInBounds, List.take_set]
theorem own_row {w : World} {base : Nat} {e : TypeId} {k n : Nat} {xs : List Value} {a : Option Addr} {cap : Nat} (h : w.ownsRow base e k (.slice a n cap) n xs) (h0 : 0 < n) : ∃ g cur, a = some ⟨g, 0, none⟩ ∧ base ≤ g ∧ w.heap[g]? = some (.cells cur e (0, 0)) := by
  rcases h.2 with ⟨hn, hz⟩ | ⟨g', cap', cur, e', hb, hh, _⟩
  · omega
  · simp at e'
    exact ⟨g', cur, e'.1, hb, hh⟩
/-- A ref that lies elsewhere, in cells. -/
theorem rc_moved (r : Rf) (hs : Sm r.s) (x y : Int) : rc { r with b := x, o := y } = ((rc r).set 33 (.int .i64 x)).set 34 (.int .i64 y) := by
  have hl : (r.s.map (Value.int .u8)).length = 32 := by rw [List.length_map, hs.len]
  unfold rc
  simp only
  rw [List.set_append_right _ _ (by omega), List.set_append_right _ _ (by omega), hl]
  rfl
theorem fl_set {α : Type} (f : α → List Value) (k : Nat) (d : α) (L : List α) (h : ∀ x ∈ L, (f x).length = k) (i : Nat) (hi : i < L.length) (y : α) (hy : (f y).length = k) (p : Nat) : (fl f (L.set i y))[p]? = if p / k = i ∧ 0 < k then (f y)[p % k]? else (fl f L)[p]? := by
  have hL' : ∀ x ∈ L.set i y, (f x).length = k := fun x hx => by
    rcases List.mem_or_eq_of_mem_set hx with q | q
    · exact h x q
    · rw [q]; exact hy
  have l1 := fl_len f k L h
  have l2 := fl_len f k (L.set i y) hL'
  rw [List.length_set] at l2
  by_cases hk : 0 < k
  · by_cases hp : p < L.length * k
    · have hq : p / k < L.length := (Nat.div_lt_iff_lt_mul hk).2 hp
      have e1 := fl_get f k d L h (p / k) (p % k) hq (Nat.mod_lt _ hk)
      have e2 := fl_get f k d (L.set i y) hL' (p / k) (p % k) (by rw [List.length_set]; exact hq) (Nat.mod_lt _ hk)
      rw [show p / k * k + p % k = p by rw [Nat.mul_comm]; exact Nat.div_add_mod p k] at e1 e2
      rw [e2, e1]
      by_cases hpi : p / k = i
      · rw [if_pos ⟨hpi, hk⟩, hpi]
        simp [List.getD, hi]
      · rw [if_neg (fun c => hpi c.1)]
        simp only [List.getD]
        rw [List.getElem?_set_ne (by omega)]
    · rw [List.getElem?_eq_none (by omega), if_neg, List.getElem?_eq_none (by omega)]
      rintro ⟨c, _⟩
      have : p / k < L.length := by rw [c]; exact hi
      have := (Nat.div_lt_iff_lt_mul hk).1 this
      omega
  · obtain rfl : k = 0 := by omega
    rw [if_neg (fun c => hk c.2), List.getElem?_eq_none (by omega), List.getElem?_eq_none (by omega)]
theorem fl_moved (L : List Rf) (hs : ∀ r ∈ L, Sm r.s) {i : Nat} (hi : i < L.length) (x y : Int) : fl rc (L.set i { L.getD i r0 with b := x, o := y }) = ((fl rc L).set (i * 35 + 33) (.int .i64 x)).set (i * 35 + 34) (.int .i64 y) := by
  have hsm : Sm (L.getD i r0).s := hs _ (getD_mem' hi)
  have hl : ∀ r ∈ L, (rc r).length = 35 := fun r hr => rc_len r (hs r hr)
  have hy : (rc { L.getD i r0 with b := x, o := y }).length = 35 := rc_len _ hsm
  apply List.ext_getElem?
  intro p
  rw [fl_set rc 35 r0 L hl i hi _ hy p, rc_moved _ hsm]
  have ll := fl_len rc 35 L hl
  by_cases hp : p / 35 = i
  · rw [if_pos ⟨hp, by decide⟩]
    have ep : p = i * 35 + p % 35 := by omega
    have hm := Nat.mod_lt p (show 0 < 35 by decide)
    have e1 := fl_get rc 35 r0 L hl i (p % 35) hi hm
    rw [← ep] at e1
    have hrl := rc_len (L.getD i r0) hsm
    have hlt : i * 35 + 34 < L.length * 35 := by omega
    simp only [List.getElem?_set, List.length_set, hrl, ll]
    by_cases h34 : p % 35 = 34
    · rw [if_pos (by omega), if_pos (by omega), if_pos (by omega), if_pos (by omega)]
    · rw [if_neg (by omega), if_neg (show ¬ i * 35 + 34 = p by omega)]
      by_cases h33 : p % 35 = 33
      · rw [if_pos (by omega), if_pos (by omega), if_pos (by omega), if_pos (by omega)]
      · rw [if_neg (by omega), if_neg (by omega), e1]
  · rw [if_neg (fun c => hp c.1)]
    simp only [List.getElem?_set]
    rw [if_neg (by omega), if_neg (by omega)]
theorem keeps_of {M : Nat} {X : List Nat} {A B : World} (h : Chg X A B) (hx : ∀ k ∈ X, A.heap.size ≤ k ∨ ∃ cs t, A.heap[k]? = some (.cells cs t (0, 0))) : KeepsFrom M A B :=
  ⟨h.size, fun k o _ hk ho => (h.block k (Array.getElem?_eq_some_iff.1 hk).1 (fun hm => by
    have hl := (Array.getElem?_eq_some_iff.1 hk).1
    rcases hx k hm with q | ⟨cs, t, q⟩
    · omega
    · rw [hk] at q; cases q; cases ho)).trans hk⟩
end Go.Proofs.Ytkkcdmdkjedkjaa
