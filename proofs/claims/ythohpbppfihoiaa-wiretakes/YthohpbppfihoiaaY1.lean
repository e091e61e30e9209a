/- Elements of lists are compared. -/
import Derived.Test.YthohpbppfihoiaaW2
namespace Go.Proofs.Ythohpbppfihoiaa
open Go.RowKit Go.Lib

theorem eqf_cons {P : Program} (w : World) (d : Nat) (xs ys : Array Value) (f : Field) (fs : List Field) (hn : (f.name == "_") = false) {t : TypeId} {o : Nat} (ht : f.type = t) (ho : f.offset = o) {a b : Value} (ha : (part t xs o).run P w = .ok a w) (hb : (part t ys o).run P w = .ok b w) (he : (Op.equalIn d t a b).run P w = .ok true w) :
    (Op.eqFields d xs ys (f :: fs)).run P w = (Op.eqFields d xs ys fs).run P w := by
  subst ht ho
  have hn' : f.name ≠ "_" := by simpa using hn
  rw [Op.eqFields, if_pos hn', Sem.run_bind, ha]
  simp only [Result.andThen_ok, Sem.run_bind, hb, he]
  rfl
theorem two {fs : List Field} {a b : TypeId × Nat × Bool} (h : fs.map (fun f => (f.type, f.offset, f.name == "_")) = [a, b]) : ∃ f0 f1 : Field, fs = [f0, f1] ∧ (f0.type, f0.offset, f0.name == "_") = a ∧ (f1.type, f1.offset, f1.name == "_") = b := by
  match fs, h with
  | [f0, f1], h =>
    simp only [List.map_cons, List.map_nil, List.cons.injEq, and_true] at h
    exact ⟨f0, f1, rfl, h⟩
theorem part_cell {w : World} {t : TypeId} {xs : Array Value} {j : Nat} {v : Value} (hi : (isAgg t).run Try.prog w = .ok false w) (h : xs[j]? = some v) : (part t xs j).run Try.prog w = .ok v w := by
  unfold part
  simp [Sem.run_bind, hi, h]
set_option maxRecDepth 10000 in
theorem part49s (w : World) (x : Pt) (hs : x.1.length = 32) : (part 47 (pe x).toArray 0).run Try.prog w = .ok (.agg (sc x.1).toArray) w := by
  have h1 : (isAgg 47).run Try.prog w = .ok true w := by kernel_rfl
  have h2 : (sizeOf 47).run Try.prog w = .ok 32 w := by kernel_rfl
  unfold part
  simp only [Sem.run_bind, h1, Result.andThen_ok, if_true, h2, Sem.run_pure]
  congr 2
  apply Array.ext'
  rw [Array.toList_extract]
  simp only [List.extract_eq_take_drop, Nat.zero_add, List.drop_zero, Nat.sub_zero]
  unfold pe sc
  rw [List.take_append_of_le_length (by rw [List.length_map, hs]; exact Nat.le_refl _)]
  exact List.take_of_length_le (by rw [List.length_map, hs]; exact Nat.le_refl _)
theorem u49 : Try.prog.underlying 49 = some (.struct (Try.prog.fieldsOf 49)) := by kernel_rfl
theorem p49 : Try.prog.stoodInHeld 49 = false := by kernel_rfl
theorem f49 : (Try.prog.fieldsOf 49).toList.map (fun f => (f.type, f.offset, f.name == "_")) = [(47, 0, false), (3, 32, false)] := by kernel_rfl
theorem u46 : Try.prog.underlying 46 = some (.struct (Try.prog.fieldsOf 46)) := by kernel_rfl
theorem p46 : Try.prog.stoodInHeld 46 = false := by kernel_rfl
theorem f46 : (Try.prog.fieldsOf 46).toList.map (fun f => (f.type, f.offset, f.name == "_")) = [(9, 0, false), (3, 1, false)] := by kernel_rfl
theorem eqI (w : World) (d : Nat) (z : Int) : (Op.equalIn (d + 2) 3 (.int .i64 z) (.int .i64 z)).run Try.prog w = .ok true w := by
  rw [run_equalIn_int w (d + 1) 3 .i64 .i64 z z Try.underlying3]
  simp
theorem eqT (w : World) (d : Nat) (s : ByteArray) : (Op.equalIn (d + 2) 9 (.string s) (.string s)).run Try.prog w = .ok true w := by
  rw [run_equalIn_string w (d + 1) 9 s s Try.underlying9]
  simp
theorem eq49 (w : World) (x : Pt) (hs : Sum32 x.1) (d : Nat) : (Op.equalIn (d + 3) 49 (.agg (pe x).toArray) (.agg (pe x).toArray)).run Try.prog w = .ok true w := by
  have hE := eqIn32 w hs hs d
  rw [all32 hs hs, decide_eq_true rfl] at hE
  have hc : (pe x).toArray[32]? = some (.int .i64 x.2) := by
    rw [List.getElem?_toArray]
    unfold pe
    rw [List.getElem?_append_right (by simp [hs.len])]
    simp [hs.len]
  rw [run_equalIn_struct w (d + 2) 49 _ _ u49 p49]
  have hq := f49
  generalize (Try.prog.fieldsOf 49).toList = fs at hq
  obtain ⟨f0, f1, rfl, e0, e1⟩ := two hq
  simp only [Prod.mk.injEq] at e0 e1
  rw [eqf_cons w (d + 2) _ _ f0 _ e0.2.2 e0.1 e0.2.1 (part49s w x hs.len) (part49s w x hs.len) hE,
    eqf_cons w (d + 2) _ _ f1 _ e1.2.2 e1.1 e1.2.1 (part_cell (by kernel_rfl) hc) (part_cell (by kernel_rfl) hc) (eqI w d _)]
  rfl
theorem eq46 (w : World) (x : Hd) (d : Nat) : (Op.equalIn (d + 3) 46 (.agg (he x).toArray) (.agg (he x).toArray)).run Try.prog w = .ok true w := by
  rw [run_equalIn_struct w (d + 2) 46 _ _ u46 p46]
  have hq := f46
  generalize (Try.prog.fieldsOf 46).toList = fs at hq
  obtain ⟨f0, f1, rfl, e0, e1⟩ := two hq
  simp only [Prod.mk.injEq] at e0 e1
  rw [eqf_cons w (d + 2) _ _ f0 _ e0.2.2 e0.1 e0.2.1 (part_cell (v := .string x.1) (by kernel_rfl) rfl) (part_cell (v := .string x.1) (by kernel_rfl) rfl) (eqT w d _),
    eqf_cons w (d + 2) _ _ f1 _ e1.2.2 e1.1 e1.2.1 (part_cell (v := .int .i64 x.2) (by kernel_rfl) rfl) (part_cell (v := .int .i64 x.2) (by kernel_rfl) rfl) (eqI w d _)]
  rfl
theorem ne49 (w : World) (x : Pt) (hs : Sum32 x.1) : (binOp .neq 49 (.agg (pe x).toArray) (.agg (pe x).toArray)).run Try.prog w = .ok (.bool false) w := by
  rw [run_neq_struct, eq49 w x hs 9997]
  rfl
theorem ne46 (w : World) (x : Hd) : (binOp .neq 46 (.agg (he x).toArray) (.agg (he x).toArray)).run Try.prog w = .ok (.bool false) w := by
  rw [run_neq_struct, eq46 w x 9997]
  rfl
theorem guard49 (w : World) (op : BinOp) (x y : Operand) (xs ys : Array Value) : (eqGuard op 49 x y (.agg xs) (.agg ys)).run Try.prog w = .ok () w := run_eqGuard_agg w op 49 x y xs ys (by kernel_rfl)
theorem guard46 (w : World) (op : BinOp) (x y : Operand) (xs ys : Array Value) : (eqGuard op 46 x y (.agg xs) (.agg ys)).run Try.prog w = .ok () w := run_eqGuard_agg w op 46 x y xs ys (by kernel_rfl)
end Go.Proofs.Ythohpbppfihoiaa
