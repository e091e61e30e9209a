/- Arrays of integers in memory and by value; the words of a block. -/
import Derived.Test.YthfikoghbnicoabDoorD1
namespace Go.Proofs.YthfikoghbnicoabDoor
open Go.RowKit

/-- n integers of kind k, as cells. -/
def arr (k : IntKind) (n : Nat) (f : Nat → Int) : Array Value := ((List.range n).map fun j => Value.int k (f j)).toArray

theorem arr_size (k : IntKind) (n : Nat) (f : Nat → Int) : (arr k n f).size = n := by simp [arr]
theorem arr_get (k : IntKind) (n : Nat) (f : Nat → Int) (j : Nat) (h : j < n) : (arr k n f)[j]? = some (.int k (f j)) := by simp [arr, h]
theorem arr_one (k : IntKind) (n : Nat) (f : Nat → Int) : (arr k n f).all (·.oneCell') = true := by
  unfold arr
  exact all_oneCell_toArray (fun v hv => by simp at hv; obtain ⟨a, _, rfl⟩ := hv; rfl)

def upd (f : Nat → Int) (j : Nat) (v : Int) : Nat → Int := fun i => if i = j then v else f i

theorem arr_set (k : IntKind) (n : Nat) (f : Nat → Int) (j : Nat) (v : Int) : (arr k n f).setIfInBounds j (.int k v) = arr k n (upd f j v) := by
  apply Array.ext_getElem?
  intro i
  by_cases hi : i < n
  · rw [arr_get k n _ i hi, Array.getElem?_setIfInBounds]
    by_cases hij : j = i
    · subst hij; simp [arr_size, hi, upd]
    · rw [if_neg hij, arr_get k n f i hi]; simp [upd, Ne.symm hij]
  · simp [arr, hi]

/-- The block g holds n integers. -/
def Arr (w : World) (g : Nat) (t : TypeId) (k : IntKind) (n : Nat) (f : Nat → Int) : Prop := w.heap[g]? = some (.cells (arr k n f) t (0, 0))

section
variable {w w' : World} {g n : Nat} {t : TypeId} {k : IntKind} {f : Nat → Int}

theorem Arr.lt (h : Arr w g t k n f) : g < w.heap.size := (Array.getElem?_eq_some_iff.1 h).1
theorem Arr.cell (h : Arr w g t k n f) (j : Nat) (hj : j < n) : w.cell? ⟨g, j, none⟩ = some (.int k (f j)) := by
  rw [cell_of_row w g j _ t (0, 0) h]; exact arr_get k n f j hj
theorem Arr.frozen (h : Arr w g t k n f) (j : Nat) : w.frozen? ⟨g, j, none⟩ = false := frozen_of_row w g j _ t h
theorem Arr.store (h : Arr w g t k n f) (j : Nat) (v : Int) : Arr (w.setCell ⟨g, j, none⟩ (.int k v)) g t k n (upd f j v) := by
  have := heap_setCell_same w g j _ t (.int k v) h
  rw [arr_set] at this
  exact this
theorem Arr.block (h : Arr w g t k n f) (hb : w'.heap[g]? = w.heap[g]?) : Arr w' g t k n f := hb.trans h
theorem Arr.below (h : Arr w g t k n f) (hb : Below w.heap.size w w') : Arr w' g t k n f := (hb.block g h.lt).trans h
theorem Arr.drew (h : Arr w g t k n f) : Arr w.drew g t k n f := h
theorem Arr.alloc (h : Arr w g t k n f) (o : Obj) : Arr (w.alloc o) g t k n f := h.below ((Below.refl _ _).alloc (Nat.le_refl _) _)
theorem Arr.setOther (h : Arr w g t k n f) (g' j : Nat) (u : Value) (hne : g ≠ g') : Arr (w.setCell ⟨g', j, none⟩ u) g t k n f := (heap_setCell_other w ⟨g', j, none⟩ g u hne).trans h
theorem Arr.new (w : World) (t : TypeId) (k : IntKind) (n : Nat) (f : Nat → Int) : Arr (w.alloc (.cells (arr k n f) t)) w.heap.size t k n f := heap_alloc_new w _
end

/-- 'x[i]' of an array by value. -/
theorem run_index_arr {P : Program} (w : World) (t e : TypeId) (n : Nat) (k kk : IntKind) (f : Nat → Int) (i : Nat) (h : P.underlying t = some (.array n e)) (he : P.underlying e = some (.int k)) (hz : (P.info? e).map (·.size) = some 1) (hi : i < n) :
    (Instr.index t (.agg (arr k n f)) (.int kk i)).run P w = .ok (.int k (f i)) w := by
  have hb : (0 : Int) ≤ (i : Int) ∧ (i : Int) < (n : Int) := by omega
  cases hq : P.info? e with
  | none => simp [hq] at hz
  | some q =>
    have hs : q.size = 1 := by simp [hq] at hz; exact hz
    have ha : (isAgg e).run P w = .ok false w := by simp [isAgg, run_underlying he]
    simp [Instr.index, run_underlying h, asIntOf, hb, sizeOf, typeInfo, hq, hs, part, ha, arr_get k n f i hi]
    exact fun q => absurd q (by omega)

/-- The next word of a schedule. -/
def nxt (a b c d : Int) : Int := IntKind.u32.wrap (IntKind.u32.wrap (IntKind.u32.wrap (shi a 17 19 10 + b) + shi c 7 18 3) + d)

/-- The words of a block, i of them behind the first sixteen. -/
def ext (f : Nat → Int) : Nat → Nat → Int
  | 0 => f
  | i + 1 => upd (ext f i) (i + 16) (nxt (ext f i (i + 14)) (ext f i (i + 9)) (ext f i (i + 1)) (ext f i i))

/-- The word j of a block of which i bytes were taken. -/
def wrd (b : Nat → Int) (i j : Nat) : Int :=
  if i ≤ 4 * j then 0 else if i = 4 * j + 1 then b (4 * j) else if i = 4 * j + 2 then b (4 * j) * 256 + b (4 * j + 1) else if i = 4 * j + 3 then b (4 * j) * 65536 + b (4 * j + 1) * 256 + b (4 * j + 2) else b (4 * j) * 16777216 + b (4 * j + 1) * 65536 + b (4 * j + 2) * 256 + b (4 * j + 3)

theorem u32_join8 (m x : Int) (h0 : 0 ≤ m) (h1 : m < 16777216) (x0 : 0 ≤ x) (x1 : x < 256) : bits .or .u32 (m * 256) x = m * 256 + x := by
  obtain ⟨M, rfl⟩ := Int.eq_ofNat_of_zero_le h0
  obtain ⟨X, rfl⟩ := Int.eq_ofNat_of_zero_le x0
  have e1 : (M : Int) * 256 = ((M * 256 : Nat) : Int) := by simp
  rw [e1, u32_or_nat _ _ (by omega) (by omega), nat_join 8 _ _ (by omega) (by omega)]
  simp

theorem wrd_low (b : Nat → Int) (i : Nat) (hb : ∀ j, 0 ≤ b j ∧ b j < 256) : 0 ≤ wrd b i (i / 4) ∧ wrd b i (i / 4) < 16777216 := by
  have h0 := hb (4 * (i / 4))
  have h1 := hb (4 * (i / 4) + 1)
  have h2 := hb (4 * (i / 4) + 2)
  unfold wrd
  repeat' split
  all_goals omega

theorem wrd_step (b : Nat → Int) (i : Nat) : upd (wrd b i) (i / 4) (wrd b i (i / 4) * 256 + b i) = wrd b (i + 1) := by
  funext j
  unfold upd
  by_cases hj : j = i / 4
  · rw [if_pos hj]
    subst hj
    have hc : i = 4 * (i / 4) ∨ i = 4 * (i / 4) + 1 ∨ i = 4 * (i / 4) + 2 ∨ i = 4 * (i / 4) + 3 := by omega
    generalize i / 4 = q at hc ⊢
    rcases hc with rfl | rfl | rfl | rfl
    · have e : wrd b (4 * q) q = 0 := by unfold wrd; rw [if_pos (by omega)]
      have e' : wrd b (4 * q + 1) q = b (4 * q) := by unfold wrd; rw [if_neg (by omega), if_pos rfl]
      rw [e, e']; omega
    · have e : wrd b (4 * q + 1) q = b (4 * q) := by unfold wrd; rw [if_neg (by omega), if_pos rfl]
      have e' : wrd b (4 * q + 1 + 1) q = b (4 * q) * 256 + b (4 * q + 1) := by unfold wrd; rw [if_neg (by omega), if_neg (by omega), if_pos (by omega)]
      rw [e, e']
    · have e : wrd b (4 * q + 2) q = b (4 * q) * 256 + b (4 * q + 1) := by unfold wrd; rw [if_neg (by omega), if_neg (by omega), if_pos (by omega)]
      have e' : wrd b (4 * q + 2 + 1) q = b (4 * q) * 65536 + b (4 * q + 1) * 256 + b (4 * q + 2) := by unfold wrd; rw [if_neg (by omega), if_neg (by omega), if_neg (by omega), if_pos (by omega)]
      rw [e, e']; omega
    · have e : wrd b (4 * q + 3) q = b (4 * q) * 65536 + b (4 * q + 1) * 256 + b (4 * q + 2) := by unfold wrd; rw [if_neg (by omega), if_neg (by omega), if_neg (by omega), if_pos (by omega)]
      have e' : wrd b (4 * q + 3 + 1) q = b (4 * q) * 16777216 + b (4 * q + 1) * 65536 + b (4 * q + 2) * 256 + b (4 * q + 3) := by unfold wrd; rw [if_neg (by omega), if_neg (by omega), if_neg (by omega), if_neg (by omega)]
      rw [e, e']; omega
  · rw [if_neg hj]
    unfold wrd
    rcases Nat.lt_or_ge j (i / 4) with q | q
    · have a1 : ¬ i ≤ 4 * j := by omega
      have a2 : ¬ i + 1 ≤ 4 * j := by omega
      have a3 : i ≠ 4 * j + 1 := by omega
      have a4 : i ≠ 4 * j + 2 := by omega
      have a5 : i ≠ 4 * j + 3 := by omega
      have a6 : i + 1 ≠ 4 * j + 1 := by omega
      have a7 : i + 1 ≠ 4 * j + 2 := by omega
      have a8 : i + 1 ≠ 4 * j + 3 := by omega
      simp only [a1, a2, a3, a4, a5, a6, a7, a8, if_false]
    · rw [if_pos (by omega), if_pos (by omega)]
end Go.Proofs.YthfikoghbnicoabDoor
