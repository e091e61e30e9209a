/- Arrays of 256 ints, or strings, as values: boxed, loaded, stored, indexed. -/
import Derived.Test.YtfecngncapenjaaMulti
import Derived.Test.YtfecngncapenjaaInts
import Derived.Test.YtfecngncapenjaaOctN
import Derived.Laws.Tables
import Derived.Laws.CopyRow
import Derived.Laws.IdiomArrays
import Derived.Laws.StructEq
import Derived.Deep.RegionHeld3
namespace Go.Proofs.Ytfecngncapenjaa
open Go.RowKit Oct

/-- The cells of an array of ints. -/
def ia (f : List Int) : Array Value := (iv f).toArray
/-- The cells of an array of strings. -/
def sa (f : List ByteArray) : Array Value := (f.map Value.string).toArray
theorem ia_size (f : List Int) : (ia f).size = f.length := by simp [ia, iv]
theorem sa_size (f : List ByteArray) : (sa f).size = f.length := by simp [sa]
theorem ia_get {f : List Int} {i : Nat} (h : i < f.length) : (ia f)[i]? = some (.int .i64 (f.getD i 0)) := by
  unfold ia
  rw [List.getElem?_toArray]
  exact iv_get f h
theorem sa_get {f : List ByteArray} {i : Nat} (h : i < f.length) : (sa f)[i]? = some (.string (f.getD i ByteArray.empty)) := by
  unfold sa
  rw [List.getElem?_toArray]
  simp [List.getD, List.getElem?_eq_getElem h]
theorem info22 : (Try.prog.info? 22).map (·.size) = some 256 := by kernel_rfl
theorem info28 : (Try.prog.info? 28).map (·.size) = some 256 := by kernel_rfl
theorem size3 (w : World) : (sizeOf 3).run Try.prog w = .ok 1 w := by kernel_rfl
/-- A boxed value of many cells. -/
theorem run_boxA {P : Program} (w : World) (t : TypeId) (cs : Array Value) : (Instr.box t (.agg cs)).run P w = .ok (.pointer (some ⟨w.heap.size, 0, none⟩)) (w.alloc (.cells cs t)) := by
  simp [Instr.box, newVar, newRow, Value.cells]
theorem run_loadA {P : Program} (ty : TypeId) (w : World) (b : Nat) (cs : Array Value) (t : TypeId) (fr : Nat × Nat) (d : TypeDesc) (hb : w.heap[b]? = some (.cells cs t fr)) (hu : P.underlying ty = some d) (hd : (match d with | .struct _ | .array _ _ => true | _ => false) = true) (hi : (P.info? ty).map (·.size) = some cs.size) :
    (loadVar ty ⟨b, 0, none⟩).run P w = .ok (.agg cs) w := run_loadVar_row w b t ty cs fr d hb hu hd hi
theorem run_idxA (w : World) {f : List Int} (hf : f.length = 256) (i : Nat) (hi : i < 256) : (Instr.index 22 (.agg (ia f)) (.int .i64 (i : Int))).run Try.prog w = .ok (.int .i64 (f.getD i 0)) w := by
  unfold Instr.index
  have hp : (part 3 (ia f) (i * 1)).run Try.prog w = .ok (.int .i64 (f.getD i 0)) w := by
    unfold part
    simp [ia_get (show i < f.length by omega)]
  have has : (asIntOf (.int .i64 (i : Int))).run Try.prog w = .ok (.i64, (i : Int)) w := rfl
  simp only [Sem.run_bind, has, Result.andThen_ok, run_underlying Try.underlying22]
  rw [if_pos (by omega)]
  simp only [Sem.run_bind, size3, Result.andThen_ok, Int.toNat_natCast]
  exact hp
section
variable {ops : Array Oper} {rest : List Oper} {o : Oper} {a : Act} {w : World} {Q : Exit → Act → World → Prop}
theorem wp_box {P : Program} (hgd : o.guard = none) (t : TypeId) (x : Operand) (ho : o.op = .box t x) (cs : Array Value) (hx : a.eval x = .agg cs)
    (h : wpList P ops Q rest (a.put o.dst (.pointer (some ⟨w.heap.size, 0, none⟩))) (w.alloc (.cells cs t))) : wpList P ops Q (o :: rest) a w := by
  refine wpList_plain hgd fun K hK => ?_
  unfold Oper.wp execOp
  simp only [ho, hx, run_boxA, Sem.run_bind, Sem.run_pure, Result.andThen_ok]
  exact hK _ _ h
theorem wp_load {P : Program} (hgd : o.guard = none) (ty : TypeId) (x : Operand) (ho : o.op = .load ty x) (b : Nat) (hx : a.eval x = .pointer (some ⟨b, 0, none⟩)) (cs : Array Value) (t : TypeId) (fr : Nat × Nat) (d : TypeDesc) (hb : w.heap[b]? = some (.cells cs t fr)) (hu : P.underlying ty = some d) (hd : (match d with | .struct _ | .array _ _ => true | _ => false) = true) (hi : (P.info? ty).map (·.size) = some cs.size)
    (h : wpList P ops Q rest (a.put o.dst (.agg cs)) w) : wpList P ops Q (o :: rest) a w := by
  refine wpList_plain hgd fun K hK => ?_
  unfold Oper.wp execOp
  simp only [ho, hx, Instr.loadAt, Instr.sureAddr, Sem.run_bind, Sem.run_pure, Result.andThen_ok, run_loadA ty w b cs t fr d hb hu hd hi]
  exact hK _ _ h
theorem wp_idx {f : List Int} (hgd : o.guard = none) (x y : Operand) (ho : o.op = .index 22 x y) (hx : a.eval x = .agg (ia f)) (i : Nat) (hy : a.eval y = .int .i64 (i : Int)) (hf : f.length = 256) (hi : i < 256)
    (h : wpList Try.prog ops Q rest (a.put o.dst (.int .i64 (f.getD i 0))) w) : wpList Try.prog ops Q (o :: rest) a w := by
  refine wpList_plain hgd fun K hK => ?_
  unfold Oper.wp execOp
  simp only [ho, hx, hy, run_idxA w hf i hi, Sem.run_bind, Sem.run_pure, Result.andThen_ok]
  exact hK _ _ h
end
end Go.Proofs.Ytfecngncapenjaa
