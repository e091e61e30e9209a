/- Sums of 32 bytes: loaded as one value, compared; rows of sums; slices.Index and Contains of them. -/
import Derived.Test.YthohpbppfihoiaaMulti
import Derived.Test.YthohpbppfihoiaaInts
import Derived.Laws.Tables
import Derived.Laws.CopyRow
import Derived.Laws.IdiomArrays
import Derived.Laws.StructEq
import Derived.Deep.RegionHeld3
namespace Go.Proofs.Ythohpbppfihoiaa
open Go.RowKit

/-- The cells of a sum. -/
def sc (s : List Int) : List Value := s.map (Value.int .u8)
/-- A sum: 32 bytes. -/
structure Sum32 (s : List Int) : Prop where
  len : s.length = 32
  byte : ∀ x ∈ s, 0 ≤ x ∧ x < 256
theorem sc_len (s : List Int) : (sc s).length = s.length := by simp [sc]
theorem sc_one (s : List Int) : ∀ u ∈ sc s, u.oneCell' = true := by
  intro u hu
  unfold sc at hu
  obtain ⟨y, _, rfl⟩ := List.mem_map.1 hu
  rfl
theorem sc_get (s : List Int) {j : Nat} (hj : j < s.length) : (sc s)[j]? = some (.int .u8 (s.getD j 0)) := by simp [sc, List.getD, List.getElem?_eq_getElem hj]
theorem infoS : (Try.prog.info? 47).map (·.size) = some 32 := by kernel_rfl
/-- Cells from a place on. -/
def At (w : World) (b off : Nat) (cs : List Value) : Prop := ∀ j v, cs[j]? = some v → w.cell? ⟨b, off + j, none⟩ = some v
theorem At.far {w w' : World} {b off : Nat} {cs : List Value} {X : List Nat} (h : At w b off cs) (hc : Chg X w w') (hx : b ∉ X) : At w' b off cs := fun j v hv => (hc.cell (a := ⟨b, off + j, none⟩) (World.block_lt_of_cell? _ _ (h j v hv)) hx).trans (h j v hv)
theorem At.row {w : World} {b : Nat} {cs : List Value} {t : TypeId} {fr : Nat × Nat} (h : w.heap[b]? = some (.cells cs.toArray t fr)) : At w b 0 cs := fun j v hv => by
  rw [cell_of_row _ _ _ _ _ _ h, Nat.zero_add]
  simpa using hv
/-- A value of many cells is loaded. -/
theorem run_loadA {P : Program} (ty : TypeId) (w : World) (b off : Nat) (cs : List Value) (d : TypeDesc) (hc : At w b off cs) (hu : P.underlying ty = some d) (hd : (match d with | .struct _ | .array _ _ => true | _ => false) = true) (hi : (P.info? ty).map (·.size) = some cs.length) :
    (loadVar ty ⟨b, off, none⟩).run P w = .ok (.agg cs.toArray) w := by
  have hl : (loadCells ⟨b, off, none⟩ cs.length).run P w = .ok cs.toArray w :=
    run_loadCells_list (P := P) w ⟨b, off, none⟩ cs (fun j v hv => by
      rw [add_plain]; exact hc j v hv)
  cases hq : P.info? ty with
  | none => simp [hq] at hi
  | some i =>
    have hs : i.size = cs.length := by simpa [hq] using hi
    have hagg : (isAgg ty).run P w = .ok true w := by
      unfold isAgg
      rw [Sem.run_bind, run_underlying hu w]
      cases d <;> simp_all
    simp [loadVar, Sem.run_bind, hagg, sizeOf, typeInfo, hq, hs, hl]
/-- A load's yield, where its run is told. -/
theorem exec_load {P : Program} {ty : TypeId} {x : Operand} {a : Act} {v : Value} {w : World} {o : Oper} (ho : o.op = .load ty x) (b off : Nat) (hx : a.eval x = .pointer (some ⟨b, off, none⟩)) (h : (loadVar ty ⟨b, off, none⟩).run P w = .ok v w) : (execOp a.eval o).run P w = .ok (.value v) w := by
  unfold execOp
  simp only [ho, hx, Instr.loadAt, Instr.sureAddr, Sem.run_bind, Sem.run_pure, Result.andThen_ok, h]
theorem run_loadS {w : World} {b off : Nat} {s : List Int} (hc : At w b off (sc s)) (hs : Sum32 s) : (loadVar 47 ⟨b, off, none⟩).run Try.prog w = .ok (.agg (sc s).toArray) w :=
  run_loadA 47 w b off (sc s) _ hc Try.underlying47 rfl (by rw [sc_len, hs.len]; exact infoS)
theorem wp_loadS {ops : Array Oper} {rest : List Oper} {o : Oper} {a : Act} {w : World} {Q : Exit → Act → World → Prop} (hgd : o.guard = none) (x : Operand) (ho : o.op = .load 47 x)
    (b off : Nat) (hx : a.eval x = .pointer (some ⟨b, off, none⟩)) (s : List Int) (hc : At w b off (sc s)) (hs : Sum32 s)
    (h : wpList Try.prog ops Q rest (a.put o.dst (.agg (sc s).toArray)) w) : wpList Try.prog ops Q (o :: rest) a w := by
  refine wpList_plain hgd fun K hK => ?_
  unfold Oper.wp execOp
  simp only [ho, hx, Instr.loadAt, Instr.sureAddr, Sem.run_bind, Sem.run_pure, Result.andThen_ok, run_loadS hc hs]
  exact hK _ _ h
theorem run_boxS (w : World) (cs : Array Value) : (Instr.box 47 (.agg cs)).run Try.prog w = .ok (.pointer (some ⟨w.heap.size, 0, none⟩)) (w.alloc (.cells cs 47)) := by
  simp [Instr.box, newVar, newRow, Value.cells]
theorem sizeByte (w : World) : (sizeOf 5).run Try.prog w = .ok 1 w := by kernel_rfl
theorem partS (w : World) {s : List Int} (hs : Sum32 s) (i : Nat) (h : i < 32) : (part 5 (sc s).toArray (i * 1)).run Try.prog w = .ok (.int .u8 (s.getD i 0)) w := by
  have : (sc s).toArray[i]? = some (.int .u8 (s.getD i 0)) := by
    rw [List.getElem?_toArray]
    exact sc_get s (by rw [hs.len]; exact h)
  unfold part
  simp [this]
theorem eqIn32 (w : World) {s t : List Int} (hs : Sum32 s) (ht : Sum32 t) (d : Nat) : (Op.equalIn (d + 2) 47 (.agg (sc s).toArray) (.agg (sc t).toArray)).run Try.prog w = .ok ((List.range' 0 32).all fun i => s.getD i 0 == t.getD i 0) w := by
  rw [Op.equalIn]
  simp only [Sem.run_bind, run_underlying Try.underlying47, Result.andThen_ok, sizeByte]
  rw [Std.Legacy.Range.forIn_eq_forIn_range']
  have hl : ∀ i ∈ List.range' 0 32, i < 32 := by decide
  show _ = _
  have : List.range' (Std.Legacy.Range.mk 0 32 1 (by decide)).start (Std.Legacy.Range.mk 0 32 1 (by decide)).size (Std.Legacy.Range.mk 0 32 1 (by decide)).step = List.range' 0 32 := by rfl
  rw [this]
  generalize List.range' 0 32 = l at hl
  clear this
  induction l with
  | nil => simp
  | cons i l ih =>
    have hi := hl i (by simp)
    simp only [List.forIn_cons, Sem.run_bind, partS w hs i hi, partS w ht i hi, Result.andThen_ok, run_equalIn_int w d 5 .u8 .u8 _ _ Try.underlying5, List.all_cons]
    cases hfg : (s.getD i 0 == t.getD i 0)
    · simp
    · simp only [Bool.not_true, Bool.false_eq_true, if_false, Sem.run_pure, Result.andThen_ok, Bool.true_and]
      exact ih (fun j hj => hl j (by simp [hj]))
theorem all32 {s t : List Int} (hs : Sum32 s) (ht : Sum32 t) : ((List.range' 0 32).all fun i => s.getD i 0 == t.getD i 0) = decide (s = t) := by
  by_cases e : s = t
  · subst e; simp
  · rw [decide_eq_false e]
    cases hq : ((List.range' 0 32).all fun i => s.getD i 0 == t.getD i 0) with
    | false => rfl
    | true =>
      exfalso
      apply e
      rw [List.all_eq_true] at hq
      apply List.ext_getElem (by rw [hs.len, ht.len])
      intro i h1 h2
      have := hq i (by rw [hs.len] at h1; simp; omega)
      simpa [List.getD, List.getElem?_eq_getElem h1, List.getElem?_eq_getElem h2] using this
theorem eqS (w : World) {s t : List Int} (hs : Sum32 s) (ht : Sum32 t) : (binOp .eql 47 (.agg (sc s).toArray) (.agg (sc t).toArray)).run Try.prog w = .ok (.bool (decide (s = t))) w := by
  rw [run_eql_struct, eqIn32 w hs ht 9998, all32 hs ht]
  rfl
theorem neS (w : World) {s t : List Int} (hs : Sum32 s) (ht : Sum32 t) : (binOp .neq 47 (.agg (sc s).toArray) (.agg (sc t).toArray)).run Try.prog w = .ok (.bool (!decide (s = t))) w := by
  rw [run_neq_struct, eqIn32 w hs ht 9998, all32 hs ht]
  rfl
theorem guardS (w : World) (op : BinOp) (x y : Operand) (xs ys : Array Value) : (eqGuard op 47 x y (.agg xs) (.agg ys)).run Try.prog w = .ok () w := run_eqGuard_agg w op 47 x y xs ys (by kernel_rfl)
/-- A row of sums, read; owned. -/
def RdS (w : World) (v : Value) (L : List (List Int)) : Prop := RdE sc 32 [] w v L
def OwnS (w : World) (base : Nat) (v : Value) (L : List (List Int)) : Prop := OwnE sc 32 47 w base v L
theorem RdS.at {w : World} {v : Value} {L : List (List Int)} (h : RdS w v L) {i : Nat} (hi : i < L.length) : ∃ b off cap, v = .slice (some ⟨b, off, none⟩) L.length cap ∧ At w b (off + i * 32) (sc (L.getD i [])) := by
  obtain ⟨b, off, cap, e, hc⟩ := h.at' i hi
  refine ⟨b, off, cap, e, fun j v hv => ?_⟩
  have hl := (h.each _ (getD_mem' (d := []) hi)).1
  have hj : j < 32 := by
    rcases Nat.lt_or_ge j 32 with q | q
    · exact q
    · rw [List.getElem?_eq_none (by omega)] at hv; cases hv
  exact (hc j hj).trans hv
end Go.Proofs.Ythohpbppfihoiaa
