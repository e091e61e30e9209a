/- Sums and refs: their cells; rows of refs that are read. -/
import Derived.Test.YtkkcdmdkjedkjaaMulti
import Derived.Test.YtkkcdmdkjedkjaaInts
import Derived.Laws.Tables
import Derived.Laws.CopyRow
import Derived.Laws.IdiomArrays
namespace Go.Proofs.Ytkkcdmdkjedkjaa
open Go.RowKit Go.Lib

/-- The cells of a sum. -/
def sa (s : List Int) : Array Value := (s.map (Value.int .u8)).toArray
/-- A sum: 32 bytes. -/
structure Sm (s : List Int) : Prop where
  len : s.length = 32
  byte : ∀ x ∈ s, 0 ≤ x ∧ x < 256
theorem Sm.at {s : List Int} (h : Sm s) (j : Nat) (hj : j < 32) : 0 ≤ s.getD j 0 ∧ s.getD j 0 < 256 := h.byte _ (getD_mem' (by rw [h.len]; exact hj))
theorem sa_get {s : List Int} (h : Sm s) (j : Nat) (hj : j < 32) : (sa s)[j]? = some (.int .u8 (s.getD j 0)) := by
  have hl : j < s.length := by rw [h.len]; exact hj
  unfold sa
  simp [List.getD, List.getElem?_eq_getElem hl]
theorem sa_cell {s : List Int} (h : Sm s) (w : World) (j : Nat) (hj : j < 32) : (w.alloc (.cells (sa s) 54)).cell? ⟨w.heap.size, j, none⟩ = some (.int .u8 (s.getD j 0)) := by
  rw [cell_of_row _ _ _ _ _ _ (heap_alloc_new w _)]
  exact sa_get h j hj
theorem run_box25 (w : World) (cs : Array Value) : (Instr.box 54 (.agg cs)).run Try.prog w = .ok (.pointer (some ⟨w.heap.size, 0, none⟩)) (w.alloc (.cells cs 54)) := by
  simp [Instr.box, newVar, newRow, Value.cells]
/-- A ref as data. -/
structure Rf where
  s : List Int
  l : Int
  b : Int
  o : Int
/-- The cells of a ref. -/
def rc (r : Rf) : List Value := r.s.map (Value.int .u8) ++ [.int .i64 r.l, .int .i64 r.b, .int .i64 r.o]
def r0 : Rf := ⟨[], 0, 0, 0⟩
/-- A row of refs, read. -/
structure RdR (w : World) (v : Value) (L : List Rf) : Prop where
  shape : ∃ a cap, v = .slice a L.length cap ∧ L.length ≤ cap ∧ cap ≤ maxLen ∧ (a = none → cap = 0)
  at' : ∀ i, i < L.length → ∃ b off cap, v = .slice (some ⟨b, off, none⟩) L.length cap ∧ ∀ j, j < 35 → w.cell? ⟨b, off + i * 35 + j, none⟩ = (rc (L.getD i r0))[j]?
  sums : ∀ r ∈ L, Sm r.s
theorem RdR.below {w w' : World} {v : Value} {L : List Rf} (h : RdR w v L) (hb : Below w.heap.size w w') : RdR w' v L :=
  ⟨h.shape, fun i hi => by
    obtain ⟨b, off, cap, e, hc⟩ := h.at' i hi
    have hs := h.sums (L.getD i r0) (by simp only [List.getD, List.getElem?_eq_getElem hi, Option.getD_some]; exact List.getElem_mem hi)
    refine ⟨b, off, cap, e, fun j hj => ?_⟩
    have hl : (rc (L.getD i r0)).length = 35 := by unfold rc; rw [List.length_append, List.length_map, hs.len]; rfl
    have hv := hc j hj
    rw [List.getElem?_eq_getElem (by rw [hl]; exact hj)] at hv
    exact (hb.cell (World.block_lt_of_cell? _ _ hv)).trans (hc j hj), h.sums⟩
theorem RdR.sum {w : World} {v : Value} {L : List Rf} (h : RdR w v L) {i : Nat} (hi : i < L.length) : Sm (L.getD i r0).s :=
  h.sums _ (by simp only [List.getD, List.getElem?_eq_getElem hi, Option.getD_some]; exact List.getElem_mem hi)
theorem rc_sum (r : Rf) (hs : Sm r.s) (j : Nat) (hj : j < 32) : (rc r)[j]? = some (.int .u8 (r.s.getD j 0)) := by
  have hl : j < r.s.length := by rw [hs.len]; exact hj
  unfold rc
  rw [List.getElem?_append_left (by simpa using hl)]
  simp [List.getD, List.getElem?_eq_getElem hl]
/-- A load of cells as one value. -/
theorem wp_loadA {ops : Array Oper} {rest : List Oper} {o : Oper} {a : Act} {w : World} {Q : Exit → Act → World → Prop} (hgd : o.guard = none) (ty : TypeId) (x : Operand) (ho : o.op = .load ty x)
    (g off : Nat) (hx : a.eval x = .pointer (some ⟨g, off, none⟩)) (cs : List Value) (d : TypeDesc) (hc : ∀ j v, cs[j]? = some v → w.cell? ⟨g, off + j, none⟩ = some v)
    (hu : Try.prog.underlying ty = some d) (hd : (match d with | .struct _ | .array _ _ => true | _ => false) = true) (hi : (Try.prog.info? ty).map (·.size) = some cs.length)
    (h : wpList Try.prog ops Q rest (a.put o.dst (.agg cs.toArray)) w) : wpList Try.prog ops Q (o :: rest) a w := by
  refine wpList_plain hgd fun K hK => ?_
  have hl : (loadCells ⟨g, off, none⟩ cs.length).run Try.prog w = .ok cs.toArray w :=
    run_loadCells_list (P := Try.prog) w ⟨g, off, none⟩ cs (fun j v hv => by
      have hadd : (⟨g, off, none⟩ : Addr).add j = ⟨g, off + j, none⟩ := add_plain g off j
      rw [hadd]; exact hc j v hv)
  have hlv : (loadVar ty ⟨g, off, none⟩).run Try.prog w = .ok (.agg cs.toArray) w := by
    cases hq : Try.prog.info? ty with
    | none => simp [hq] at hi
    | some i =>
      have hs : i.size = cs.length := by simpa [hq] using hi
      have hagg : (isAgg ty).run Try.prog w = .ok true w := by
        unfold isAgg
        rw [Sem.run_bind, run_underlying hu w]
        cases d <;> simp_all
      simp [loadVar, Sem.run_bind, hagg, sizeOf, typeInfo, hq, hs, hl]
  unfold Oper.wp execOp
  simp only [ho, hx, Instr.loadAt, Instr.sureAddr, Sem.run_bind, Sem.run_pure, Result.andThen_ok, hlv]
  exact hK _ _ h
theorem info25 : (Try.prog.info? 54).map (·.size) = some 32 := by kernel_rfl
theorem sa_size {s : List Int} (h : Sm s) : (sa s).size = 32 := by simp [sa, h.len]
theorem sa_one (s : List Int) : (sa s).all (·.oneCell') = true := by
  unfold sa
  rw [List.all_toArray, List.all_eq_true]
  intro x hx
  obtain ⟨y, _, rfl⟩ := List.mem_map.1 hx
  rfl
/-- May there be such a ref? -/
def rt (r : Rf) : Bool := decide (1 ≤ r.l ∧ r.l ≤ 512 ∧ 0 ≤ r.b ∧ r.b < 4096 ∧ 0 ≤ r.o ∧ r.o < 64)
theorem run_box28 (w : World) (cs : Array Value) : (Instr.box 56 (.agg cs)).run Try.prog w = .ok (.pointer (some ⟨w.heap.size, 0, none⟩)) (w.alloc (.cells cs 56)) := by
  simp [Instr.box, newVar, newRow, Value.cells]
theorem rc_num (r : Rf) (hs : Sm r.s) : (rc r)[32]? = some (.int .i64 r.l) ∧ (rc r)[33]? = some (.int .i64 r.b) ∧ (rc r)[34]? = some (.int .i64 r.o) := by
  unfold rc
  have hl : (r.s.map (Value.int .u8)).length = 32 := by rw [List.length_map, hs.len]
  refine ⟨?_, ?_, ?_⟩
  · rw [List.getElem?_append_right (by omega), hl]; rfl
  · rw [List.getElem?_append_right (by omega), hl]; rfl
  · rw [List.getElem?_append_right (by omega), hl]; rfl
theorem rc_len (r : Rf) (hs : Sm r.s) : (rc r).length = 35 := by unfold rc; rw [List.length_append, List.length_map, hs.len]; rfl
theorem rc_one (r : Rf) : (rc r).toArray.all (·.oneCell') = true := by
  unfold rc
  rw [List.all_toArray, List.all_eq_true]
  intro x hx
  rcases List.mem_append.1 hx with q | q
  · obtain ⟨y, _, rfl⟩ := List.mem_map.1 q; rfl
  · simp at q; rcases q with rfl | rfl | rfl <;> rfl
theorem info28 : (Try.prog.info? 56).map (·.size) = some 35 := by kernel_rfl
end Go.Proofs.Ytkkcdmdkjedkjaa
