/- A hash in memory, and what Write does to it. -/
import Derived.Test.YthfikoghbnicoabDoorD4
namespace Go.Proofs.YthfikoghbnicoabDoor
open Go.RowKit

/-- n cells. -/
def va (n : Nat) (C : Nat → Value) : Array Value := ((List.range n).map C).toArray
theorem va_size (n : Nat) (C : Nat → Value) : (va n C).size = n := by simp [va]
theorem va_get (n : Nat) (C : Nat → Value) (j : Nat) (h : j < n) : (va n C)[j]? = some (C j) := by simp [va, h]
theorem va_set (n : Nat) (C : Nat → Value) (j : Nat) (u : Value) : (va n C).setIfInBounds j u = va n (fun i => if i = j then u else C i) := by
  apply Array.ext_getElem?
  intro i
  by_cases hi : i < n
  · rw [va_get n _ i hi, Array.getElem?_setIfInBounds]
    by_cases hij : j = i
    · subst hij; simp [va_size, hi]
    · rw [if_neg hij, va_get n C i hi]; simp [Ne.symm hij]
  · simp [va, hi]

/-- A hash's cells: its state, its block, how many bytes. -/
def HC (s b : Nat → Int) (n : Int) : Nat → Value := fun j => if j < 8 then .int .u32 (s j) else if j < 72 then .int .u8 (b (j - 8)) else .int .i64 n

/-- A hash lies in block g. -/
def Hat (w : World) (g : Nat) (s b : Nat → Int) (n : Int) : Prop := w.heap[g]? = some (.cells (va 73 (HC s b n)) 52 (0, 0))

section
variable {w w' : World} {g : Nat} {s b : Nat → Int} {n : Int}
theorem Hat.lt (h : Hat w g s b n) : g < w.heap.size := (Array.getElem?_eq_some_iff.1 h).1
theorem Hat.cell (h : Hat w g s b n) (j : Nat) (hj : j < 73) : w.cell? ⟨g, j, none⟩ = some (HC s b n j) := by
  rw [cell_of_row w g j _ 52 (0, 0) h]; exact va_get 73 _ j hj
theorem Hat.frozen (h : Hat w g s b n) (j : Nat) : w.frozen? ⟨g, j, none⟩ = false := frozen_of_row w g j _ 52 h
theorem Hat.cellN (h : Hat w g s b n) : w.cell? ⟨g, 72, none⟩ = some (.int .i64 n) := h.cell 72 (by decide)
theorem Hat.cellB (h : Hat w g s b n) (j : Nat) (hj : j < 64) : w.cell? ⟨g, 8 + j, none⟩ = some (.int .u8 (b j)) := by
  rw [h.cell (8 + j) (by omega)]
  simp [HC, show ¬ 8 + j < 8 by omega, show 8 + j < 72 by omega]
theorem Hat.cellS (h : Hat w g s b n) (j : Nat) (hj : j < 8) : w.cell? ⟨g, j, none⟩ = some (.int .u32 (s j)) := by
  rw [h.cell j (by omega)]; simp [HC, hj]
theorem Hat.drew (h : Hat w g s b n) : Hat w.drew g s b n := h
theorem Hat.block (h : Hat w g s b n) (hb : w'.heap[g]? = w.heap[g]?) : Hat w' g s b n := hb.trans h
theorem Hat.below (h : Hat w g s b n) (hb : Below w.heap.size w w') : Hat w' g s b n := (hb.block g h.lt).trans h
theorem Hat.setN (h : Hat w g s b n) (m : Int) : Hat (w.setCell ⟨g, 72, none⟩ (.int .i64 m)) g s b m := by
  have := heap_setCell_same w g 72 _ 52 (.int .i64 m) h
  rw [va_set] at this
  unfold Hat
  rw [this]
  congr 2
theorem Hat.setB (h : Hat w g s b n) (j : Nat) (hj : j < 64) (x : Int) : Hat (w.setCell ⟨g, 8 + j, none⟩ (.int .u8 x)) g s (upd b j x) n := by
  have := heap_setCell_same w g (8 + j) _ 52 (.int .u8 x) h
  rw [va_set] at this
  unfold Hat
  rw [this]
  congr 2
  unfold va
  congr 1
  refine List.map_congr_left (fun i hi => ?_)
  have hi' : i < 73 := by simpa using hi
  unfold HC upd
  by_cases hq : i = 8 + j
  · subst hq; simp [show ¬ 8 + j < 8 by omega, show 8 + j < 72 by omega]
  · by_cases h8 : i < 8
    · simp [hq, h8]
    · by_cases h72 : i < 72
      · simp [hq, h8, h72, show i - 8 ≠ j by omega]
      · simp [hq, h8, h72]
theorem Hat.setS1 (h : Hat w g s b n) (j : Nat) (hj : j < 8) (x : Int) : Hat (w.setCell ⟨g, j, none⟩ (.int .u32 x)) g (upd s j x) b n := by
  have := heap_setCell_same w g j _ 52 (.int .u32 x) h
  rw [va_set] at this
  unfold Hat
  rw [this]
  congr 2
  unfold va
  congr 1
  refine List.map_congr_left (fun i hi => ?_)
  have hi' : i < 73 := by simpa using hi
  unfold HC upd
  by_cases hq : i = j
  · subst hq; simp [hj]
  · by_cases h8 : i < 8
    · simp [hq, h8]
    · simp [hq, h8]
theorem Hat.congr {s' : Nat → Int} (h : Hat w g s b n) (hs : ∀ j, j < 8 → s j = s' j) : Hat w g s' b n := by
  have e : va 73 (HC s b n) = va 73 (HC s' b n) := by
    unfold va
    congr 1
    refine List.map_congr_left (fun i _ => ?_)
    unfold HC
    by_cases h8 : i < 8
    · simp [h8, hs i h8]
    · simp [h8]
  unfold Hat
  rw [← e]
  exact h
/-- The whole state is stored. -/
theorem Hat.setS (h : Hat w g s b n) (s' : Nat → Int) : Hat (w.setCells g 0 (arr .u32 8 s').toList) g s' b n := by
  have := (((((((h.setS1 0 (by decide) (s' 0)).setS1 1 (by decide) (s' 1)).setS1 2 (by decide) (s' 2)).setS1 3 (by decide) (s' 3)).setS1 4 (by decide) (s' 4)).setS1 5 (by decide) (s' 5)).setS1 6 (by decide) (s' 6)).setS1 7 (by decide) (s' 7)
  refine Hat.congr this (fun j hj => ?_)
  unfold upd
  rcases (show j = 0 ∨ j = 1 ∨ j = 2 ∨ j = 3 ∨ j = 4 ∨ j = 5 ∨ j = 6 ∨ j = 7 by omega) with rfl | rfl | rfl | rfl | rfl | rfl | rfl | rfl <;> rfl
theorem Hat.rangeS (h : Hat w g s b n) : w.rangeAt g 0 (arr .u32 8 s).toList := by
  intro j v hv
  have hj : j < 8 := by
    rcases Nat.lt_or_ge j 8 with q | q
    · exact q
    · simp [arr, q] at hv
  rw [Nat.zero_add, h.cellS j hj]
  simp [arr, hj] at hv
  rw [hv]
theorem Hat.rangeB (h : Hat w g s b n) : w.rangeAt g 8 (arr .u8 64 b).toList := by
  intro j v hv
  have hj : j < 64 := by
    rcases Nat.lt_or_ge j 64 with q | q
    · exact q
    · simp [arr, q] at hv
  rw [h.cellB j hj]
  simp [arr, hj] at hv
  rw [hv]
theorem Hat.thereS (h : Hat w g s b n) : w.there g 0 8 := fun j hj => ⟨by rw [Nat.zero_add, h.cellS j hj]; rfl, by rw [Nat.zero_add]; exact h.frozen j⟩
end

/-- A hash, as data. -/
structure HSt where
  s : Nat → Int
  b : Nat → Int
  n : Nat

/-- One byte more. -/
def wstep (K : Nat → Int) (q : HSt) (x : Int) : HSt := { s := if (q.n + 1) % 64 = 0 then mixS K q.s (upd q.b (q.n % 64) x) else q.s, b := upd q.b (q.n % 64) x, n := q.n + 1 }

theorem grown_set (w : World) (g j : Nat) (u : Value) : w.grownBy (w.setCell ⟨g, j, none⟩ u) (some g) := ⟨rfl, rfl, rfl, by simp, fun k _ hk => heap_setCell_other w ⟨g, j, none⟩ k u (fun e => hk (by simp [e]))⟩
theorem grown_trans {w w1 w2 : World} {g : Nat} (h1 : w.grownBy w1 (some g)) (h2 : w1.grownBy w2 (some g)) : w.grownBy w2 (some g) :=
  ⟨h2.os.trans h1.os, h2.tape.trans h1.tape, h2.output.trans h1.output, Nat.le_trans h1.size h2.size, fun k hk hne => (h2.block k (Nat.lt_of_lt_of_le hk h1.size) hne).trans (h1.block k hk hne)⟩
theorem grown_of_below {w w1 : World} {g : Option Nat} (hb : Below w.heap.size w w1) : w.grownBy w1 g := ⟨hb.os, hb.tape, hb.output, hb.size, fun k hk _ => hb.block k hk⟩
theorem grown_setS (w : World) (g : Nat) (s' : Nat → Int) : w.grownBy (w.setCells g 0 (arr .u32 8 s').toList) (some g) :=
  grown_trans (grown_trans (grown_trans (grown_trans (grown_trans (grown_trans (grown_trans (grown_set w g 0 _) (grown_set _ g 1 _)) (grown_set _ g 2 _)) (grown_set _ g 3 _)) (grown_set _ g 4 _)) (grown_set _ g 5 _)) (grown_set _ g 6 _)) (grown_set _ g 7 _)
theorem KeysAt.grown {w w' : World} {K : Nat → Int} {g : Nat} (h : KeysAt w K) (hb : w.grownBy w' (some g)) (hg : g ≠ 2) : KeysAt w' K := fun k hk => hb.cell (h k hk) (by simp; exact Ne.symm hg)
end Go.Proofs.YthfikoghbnicoabDoor
