/- Owned rows of elements with several cells: an element set, the row cut short. -/
import Derived.Test.YthohpbppfihoiaaMultiB
import Derived.Laws.CopyRow
import Derived.Laws.Tables
namespace Go.Proofs.Ythohpbppfihoiaa
open Go.RowKit

theorem own_setCell {w : World} {base : Nat} {e : TypeId} {k n : Nat} {xs : List Value} {g cap : Nat} (h : w.ownsRow base e k (.slice (some ⟨g, 0, none⟩) n cap) n xs) (j : Nat) (u : Value) : (w.setCell ⟨g, j, none⟩ u).ownsRow base e k (.slice (some ⟨g, 0, none⟩) n cap) n (xs.set j u) := by
  refine ⟨by rw [List.length_set]; exact h.1, ?_⟩
  rcases h.2 with ⟨hn, _⟩ | ⟨g', cap', cur, e', hb, hh, h1, h2, h3, h4⟩
  · cases hn
  · simp at e'
    obtain ⟨rfl, rfl⟩ := e'
    have hs := heap_setCell_same w g j cur e u hh
    refine .inr ⟨g, cap, _, rfl, hb, hs, h1, h2, by simpa using h3, ?_⟩
    rw [← h4]
    have hlen : xs.length = n * k := h.1
    rw [Array.toList_setIfInBounds, List.take_set]
theorem own_row {w : World} {base : Nat} {e : TypeId} {k n : Nat} {xs : List Value} {a : Option Addr} {cap : Nat} (h : w.ownsRow base e k (.slice a n cap) n xs) (h0 : 0 < n) : ∃ g cur, a = some ⟨g, 0, none⟩ ∧ base ≤ g ∧ w.heap[g]? = some (.cells cur e (0, 0)) := by
  rcases h.2 with ⟨hn, hz⟩ | ⟨g', cap', cur, e', hb, hh, _⟩
  · omega
  · simp at e'
    exact ⟨g', cur, e'.1, hb, hh⟩
theorem fl_set {α : Type} (f : α → List Value) (k : Nat) (d : α) (L : List α) (h : ∀ x ∈ L, (f x).length = k) (i : Nat) (hi : i < L.length) (y : α) (hy : (f y).length = k) (p : Nat) : (fl f (L.set i y))[p]? = if p / k = i ∧ 0 < k then (f y)[p % k]? else (fl f L)[p]? := by
  have hL' : ∀ x ∈ L.set i y, (f x).length = k := fun x hx => by
    rcases List.mem_or_eq_of_mem_set hx with q | q
    · exact h x q
    · rw [q]; exact hy
  have l1 := fl_len f k L h
  have l2 := fl_len f k (L.set i y) hL'
  rw [List.length_set] at l2
  by_cases hk : 0 < k
  · by_cases hp : p < L.length * k
    · have hq : p / k < L.length := (Nat.div_lt_iff_lt_mul hk).2 hp
      have e1 := fl_get f k d L h (p / k) (p % k) hq (Nat.mod_lt _ hk)
      have e2 := fl_get f k d (L.set i y) hL' (p / k) (p % k) (by rw [List.length_set]; exact hq) (Nat.mod_lt _ hk)
      rw [show p / k * k + p % k = p by rw [Nat.mul_comm]; exact Nat.div_add_mod p k] at e1 e2
      rw [e2, e1]
      by_cases hpi : p / k = i
      · rw [if_pos ⟨hpi, hk⟩, hpi]
        simp [List.getD, hi]
      · rw [if_neg (fun c => hpi c.1)]
        simp only [List.getD]
        rw [List.getElem?_set_ne (by omega)]
    · rw [List.getElem?_eq_none (by omega), if_neg, List.getElem?_eq_none (by omega)]
      rintro ⟨c, _⟩
      have : p / k < L.length := by rw [c]; exact hi
      have := (Nat.div_lt_iff_lt_mul hk).1 this
      omega
  · obtain rfl : k = 0 := by omega
    rw [if_neg (fun c => hk c.2), List.getElem?_eq_none (by omega), List.getElem?_eq_none (by omega)]
theorem own_cellE {α : Type} {f : α → List Value} {k : Nat} {e : TypeId} {w : World} {base g n cap : Nat} {L : List α} (h : OwnE f k e w base (.slice (some ⟨g, 0, none⟩) n cap) L) (d : α) {i j : Nat} (hi : i < L.length) (hj : j < k) : w.cell? ⟨g, i * k + j, none⟩ = (f (L.getD i d))[j]? := by
  obtain ⟨b, o, c, e, hc⟩ := (h.rd d).at' i hi
  simp at e
  obtain ⟨⟨rfl, rfl⟩, _, rfl⟩ := e
  have := hc j hj
  rw [Nat.zero_add] at this
  exact this
theorem own_cut {α : Type} {f : α → List Value} {k : Nat} {e : TypeId} {w : World} {base g n cap : Nat} {L : List α} (h : OwnE f k e w base (.slice (some ⟨g, 0, none⟩) n cap) L) (hn : L.length = n) {j : Nat} (hj : j ≤ n) : OwnE f k e w base (.slice (some ⟨g, 0, none⟩) j cap) (L.take j) := by
  have h0 := h.own
  rw [hn] at h0
  have hl : (L.take j).length = j := by rw [List.length_take]; omega
  have hfl : fl f (L.take j) = (fl f L).take (j * k) := by
    have e1 : fl f L = fl f (L.take j) ++ fl f (L.drop j) := by rw [← fl_app, List.take_append_drop]
    have e2 : (fl f (L.take j)).length = j * k := by rw [fl_len f k _ (fun x hx => (h.each x (List.mem_of_mem_take hx)).1), hl]
    rw [e1, ← e2, List.take_left]
  refine ⟨⟨by rw [fl_len f k _ (fun x hx => (h.each x (List.mem_of_mem_take hx)).1)], ?_⟩, fun x hx => h.each x (List.mem_of_mem_take hx)⟩
  rcases h0.2 with ⟨hz, _⟩ | ⟨g', cap', cur, e', hb, hh, h1, h2, h3, h4⟩
  · cases hz
  simp at e'
  obtain ⟨rfl, rfl⟩ := e'
  refine .inr ⟨g, cap, cur, by rw [hl], hb, hh, by omega, h2, h3, ?_⟩
  rw [hl, hfl, ← h4, List.take_take, Nat.min_eq_left (Nat.mul_le_mul_right k hj)]
theorem own_rowE {α : Type} {f : α → List Value} {k : Nat} {e : TypeId} {w : World} {base g n cap : Nat} {L : List α} (h : OwnE f k e w base (.slice (some ⟨g, 0, none⟩) n cap) L) : ∃ cur, w.heap[g]? = some (.cells cur e (0, 0)) ∧ cur.size = cap * k ∧ L.length ≤ cap ∧ base ≤ g ∧ cur.toList.take (L.length * k) = fl f L ∧ cap ≤ maxLen := by
  rcases h.own.2 with ⟨hz, _⟩ | ⟨g', cap', cur, e', hb, hh, h1, h2, h3, h4⟩
  · cases hz
  simp at e'
  obtain ⟨rfl, _, rfl⟩ := e'
  exact ⟨cur, hh, h3, h1, hb, h4, h2⟩
/-- What lies behind the row's end is turned, the row stays. -/
theorem own_behind {α : Type} {f : α → List Value} {k : Nat} {e : TypeId} {w : World} {base g n cap : Nat} {L : List α} (h : OwnE f k e w base (.slice (some ⟨g, 0, none⟩) n cap) L) (hn : L.length = n) {C : Array Value} (hC : w.heap[g]? = some (.cells C e (0, 0))) {D : Array Value} (hs : D.size = C.size) (ht : D.toList.take (n * k) = C.toList.take (n * k)) : OwnE f k e (w.setRow g D) base (.slice (some ⟨g, 0, none⟩) n cap) L := by
  obtain ⟨cur, h1, h2, h3, h4, h5, h6⟩ := own_rowE h
  rw [h1] at hC
  cases hC
  refine ⟨⟨h.own.1, .inr ⟨g, cap, D, by rw [hn], h4, setRow_heap _ _ _ _ e (0, 0) h1, h3, h6, by rw [hs]; exact h2, ?_⟩⟩, h.each⟩
  rw [hn, ht, ← hn, h5]
end Go.Proofs.Ythohpbppfihoiaa
