/- A cutter in memory, as it is made. -/
import Derived.Test.YtngeefipeghjiaaT2
import Derived.Laws.Tables
namespace Go.Proofs.Ytngeefipeghjiaa
open Go.RowKit

/-- The cells of a new cutter, ahead of its fields. -/
def zc55 : Array Value := #[.int .i64 0, .int .i64 0, .int .u64 0] ++ zc27 ++ #[.slice none 0 0, .int .u32 0, .bool false]
set_option maxRecDepth 100000 in
theorem zv55 (w : World) : (zeroValue 55).run Try.prog w = .ok (.agg zc55) w := by kernel_rfl
theorem zc55_size : zc55.size = 262 := by simp [zc55, zc27]
/-- v, laid into cs from off on. -/
def lay (cs : Array Value) (off : Nat) (v : Array Value) : Array Value := v.zipIdx.foldl (fun cs (p : Value × Nat) => cs.setIfInBounds (off + p.2) p.1) cs
theorem lay_list (off i : Nat) (l : List Value) : ∀ (n : Nat) (cs : Array Value), ((l.zipIdx n).foldl (fun cs (p : Value × Nat) => cs.setIfInBounds (off + p.2) p.1) cs)[i]? = if off + n ≤ i ∧ i < off + n + l.length ∧ i < cs.size then l[i - (off + n)]? else cs[i]? := by
  induction l with
  | nil => intro n cs; simp; omega
  | cons x l ih =>
    intro n cs
    rw [List.zipIdx_cons, List.foldl_cons, ih (n + 1)]
    simp only [Array.size_setIfInBounds, List.length_cons]
    by_cases h : i = off + n
    · subst h
      rw [if_neg (by omega)]
      by_cases hs : off + n < cs.size
      · rw [if_pos (by omega), Array.getElem?_setIfInBounds_self_of_lt hs]; simp
      · rw [if_neg (by omega), Array.getElem?_eq_none (by simp; omega), Array.getElem?_eq_none (by omega)]
    · by_cases hc : off + (n + 1) ≤ i ∧ i < off + (n + 1) + l.length ∧ i < cs.size
      · rw [if_pos hc, if_pos (by omega), show i - (off + n) = (i - (off + (n + 1))) + 1 by omega, List.getElem?_cons_succ]
      · rw [if_neg hc, if_neg (by omega), Array.getElem?_setIfInBounds_ne (by omega)]
theorem lay_get (cs v : Array Value) (off i : Nat) : (lay cs off v)[i]? = if off ≤ i ∧ i < off + v.size ∧ i < cs.size then v[i - off]? else cs[i]? := by
  unfold lay
  rw [← Array.foldl_toList, Array.toList_zipIdx, lay_list]
  simp
theorem lay_size (cs v : Array Value) (off : Nat) : (lay cs off v).size = cs.size := by
  unfold lay
  rw [← Array.foldl_toList]
  generalize v.zipIdx.toList = l
  induction l generalizing cs with
  | nil => rfl
  | cons x l ih => rw [List.foldl_cons, ih]; simp
theorem fill_cons {place : Nat → Option (Nat × Nat)} {cells : Array Value} {i : Nat} {v : Value} {rest : List (Nat × Value)} {off size : Nat} (hp : place i = some (off, size)) (hs : v.cells.size = size) (ho : off + v.cells.size ≤ cells.size) : Instr.fill place cells ((i, v) :: rest) = Instr.fill place (lay cells off v.cells) rest := by
  rw [Instr.fill]
  simp only [hp]
  rw [if_neg (by simp [hs] at ho ⊢; omega)]
  rfl
def places55 : Array (Nat × Nat) := #[(0, 1), (1, 1), (2, 1), (3, 256), (259, 1), (260, 1), (261, 1)]
set_option maxRecDepth 100000 in
theorem built55 (parts : List (Nat × Value)) : Try.prog.built 55 parts = Instr.fill (places55[·]?) zc55 parts := by kernel_rfl
/-- The cells of a new cutter. -/
def cutCs (mn mx lo : Int) (ta : Array Value) : Array Value := lay (lay (lay (lay zc55 0 #[.int .i64 mn]) 1 #[.int .i64 mx]) 2 #[.int .u64 lo]) 3 ta
theorem built_cut (mn mx lo : Int) (ta : Array Value) (h : ta.size = 256) : Try.prog.built 55 [(0, .int .i64 mn), (1, .int .i64 mx), (2, .int .u64 lo), (3, .agg ta)] = some (cutCs mn mx lo ta) := by
  rw [built55]
  rw [fill_cons (off := 0) (size := 1) rfl rfl (by simp [zc55_size, Value.cells]), fill_cons (off := 1) (size := 1) rfl rfl (by simp [lay_size, zc55_size, Value.cells]), fill_cons (off := 2) (size := 1) rfl rfl (by simp [lay_size, zc55_size, Value.cells]), fill_cons (v := .agg ta) (off := 3) (size := 256) rfl h (by simp [lay_size, zc55_size, Value.cells, h])]
  rfl
theorem run_build55 (w : World) (mn mx lo : Int) (ta : Array Value) (h : ta.size = 256) : (Instr.build 55 #[(0, .int .i64 mn), (1, .int .i64 mx), (2, .int .u64 lo), (3, .agg ta)]).run Try.prog w = .ok (.agg (cutCs mn mx lo ta)) w :=
  run_build w 55 _ _ (built_cut mn mx lo ta h)
theorem run_box55 (w : World) (cs : Array Value) : (Instr.box 55 (.agg cs)).run Try.prog w = .ok (.pointer (some ⟨w.heap.size, 0, none⟩)) (w.alloc (.cells cs 55)) := by
  simp [Instr.box, newVar, newRow, Value.cells]
theorem cutCs_at (mn mx lo : Int) {ta : Array Value} {T : Nat → Int} (h : Tab ta T) (w : World) : CutAt (w.alloc (.cells (cutCs mn mx lo ta) 55)) w.heap.size 0 mn mx lo T (cutCs mn mx lo ta) (.slice none 0 0) [] 0 false := by
  have hz : zc27.size = 256 := by simp [zc27]
  have g : ∀ i, (cutCs mn mx lo ta)[i]? = if 3 ≤ i ∧ i < 3 + 256 ∧ i < 262 then ta[i - 3]? else if 2 ≤ i ∧ i < 2 + 1 ∧ i < 262 then (#[Value.int .u64 lo])[i - 2]? else if 1 ≤ i ∧ i < 1 + 1 ∧ i < 262 then (#[Value.int .i64 mx])[i - 1]? else if 0 ≤ i ∧ i < 0 + 1 ∧ i < 262 then (#[Value.int .i64 mn])[i - 0]? else zc55[i]? := by
    intro i
    unfold cutCs
    rw [lay_get, lay_get, lay_get, lay_get]
    simp only [lay_size, zc55_size, h.1]
    rfl
  refine ⟨heap_alloc_new w _, by simp [cutCs, lay_size, zc55_size], ?_, ?_, ?_, ?_, ?_, ?_, ?_, World.ownsRow_nil _ _ _ _, Nat.zero_le _⟩
  · rw [g]; rfl
  · rw [g]; rfl
  · rw [g]; rfl
  · intro i hi
    rw [g, if_pos (by omega), show 3 + i - 3 = i by omega]
    exact h.2 i hi
  · rw [g, if_neg (by omega), if_neg (by omega), if_neg (by omega), if_neg (by omega)]
    simp [zc55, hz]
  · rw [g, if_neg (by omega), if_neg (by omega), if_neg (by omega), if_neg (by omega)]
    simp [zc55, hz]
  · rw [g, if_neg (by omega), if_neg (by omega), if_neg (by omega), if_neg (by omega)]
    simp [zc55, hz]
end Go.Proofs.Ytngeefipeghjiaa
