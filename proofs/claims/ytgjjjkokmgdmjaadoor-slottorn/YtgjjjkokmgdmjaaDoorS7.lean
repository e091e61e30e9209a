/- Sectors compared. -/
import Derived.Test.YtgjjjkokmgdmjaaDoorS6
import Derived.Laws.StructEq
namespace Go.Proofs.YtgjjjkokmgdmjaaDoor
open Go.RowKit
theorem sizeByte5 (w : World) : (sizeOf 5).run Tryd.prog w = .ok 1 w := by kernel_rfl
theorem part5 (w : World) {s : List Int} (i : Nat) (h : i < s.length) : (Go.part 5 (Dk.pa s) (i * 1)).run Tryd.prog w = .ok (.int .u8 (s.getD i 0)) w := by
  have : (Dk.pa s)[i]? = some (.int .u8 (s.getD i 0)) := by
    simp [Dk.pa, Dk.pc, List.getD, h]
  unfold Go.part
  simp [this]
theorem allEq {s t : List Int} {n : Nat} (hs : s.length = n) (ht : t.length = n) : ((List.range' 0 n).all fun i => s.getD i 0 == t.getD i 0) = decide (s = t) := by
  by_cases e : s = t
  · subst e; simp
  · rw [decide_eq_false e]
    cases hq : ((List.range' 0 n).all fun i => s.getD i 0 == t.getD i 0) with
    | false => rfl
    | true =>
      exfalso
      apply e
      rw [List.all_eq_true] at hq
      apply List.ext_getElem (by rw [hs, ht])
      intro i h1 h2
      have := hq i (by rw [hs] at h1; simp; omega)
      simpa [List.getD, List.getElem?_eq_getElem h1, List.getElem?_eq_getElem h2] using this
theorem eqArr (w : World) {s t : List Int} {n : Nat} (ty : TypeId) (hu : Tryd.prog.underlying ty = some (.array n 5)) (hs : s.length = n) (ht : t.length = n) (d : Nat) : (Op.equalIn (d + 2) ty (.agg (Dk.pa s)) (.agg (Dk.pa t))).run Tryd.prog w = .ok (decide (s = t)) w := by
  rw [← allEq hs ht, Op.equalIn]
  simp only [Sem.run_bind, run_underlying hu, Result.andThen_ok, sizeByte5]
  rw [Std.Legacy.Range.forIn_eq_forIn_range']
  have hl : ∀ i ∈ List.range' 0 n, i < n := by simp
  have : List.range' (Std.Legacy.Range.mk 0 n 1 (by decide)).start (Std.Legacy.Range.mk 0 n 1 (by decide)).size (Std.Legacy.Range.mk 0 n 1 (by decide)).step = List.range' 0 n := by simp [Std.Legacy.Range.size]
  rw [this]
  generalize List.range' 0 n = l at hl
  clear this
  induction l with
  | nil => simp
  | cons i l ih =>
    have hi := hl i (by simp)
    simp only [List.forIn_cons, Sem.run_bind, part5 w i (show i < s.length by omega), part5 w i (show i < t.length by omega), Result.andThen_ok, run_equalIn_int w d 5 .u8 .u8 _ _ Tryd.underlying5, List.all_cons]
    cases hfg : (s.getD i 0 == t.getD i 0)
    · simp
    · simp only [Bool.not_true, Bool.false_eq_true, if_false, Sem.run_pure, Result.andThen_ok, Bool.true_and]
      exact ih (fun j hj => hl j (by simp [hj]))
theorem f59a : (Tryd.prog.fieldsOf 59).toList.map (fun f => (f.name == "_", f.type, f.offset)) = [(false, 56, 0), (false, 42, 116), (false, 57, 120)] := by kernel_rfl
theorem under56 : Tryd.prog.underlying 56 = some (.array 116 5) := by kernel_rfl
theorem under42 : Tryd.prog.underlying 42 = some (.array 4 5) := by kernel_rfl
theorem under57 : Tryd.prog.underlying 57 = some (.array 8 5) := by kernel_rfl
theorem under59 : Tryd.prog.underlying 59 = some (.struct (Tryd.prog.fieldsOf 59)) := by kernel_rfl
theorem stood59 : Tryd.prog.stoodInHeld 59 = false := by kernel_rfl
theorem ext_pa (l : List Int) (o n : Nat) : (Dk.pa l).extract o (o + n) = Dk.pa ((l.drop o).take n) := by
  apply Array.ext'
  simp only [Dk.pa, Dk.pc, Array.toList_extract, List.extract_eq_take_drop, List.map_take, List.map_drop, Nat.add_sub_cancel_left]
theorem partA (w : World) (ty : TypeId) (o n : Nat) (l : List Int) (ha : (isAgg ty).run Tryd.prog w = .ok true w) (hn : (sizeOf ty).run Tryd.prog w = .ok n w) : (Go.part ty (Dk.pa l) o).run Tryd.prog w = .ok (.agg (Dk.pa ((l.drop o).take n))) w := by
  unfold Go.part
  simp only [Sem.run_bind, ha, Result.andThen_ok, if_true, hn, Sem.run_pure, ext_pa]
theorem agg56 (w : World) : (isAgg 56).run Tryd.prog w = .ok true w := by kernel_rfl
theorem agg42 (w : World) : (isAgg 42).run Tryd.prog w = .ok true w := by kernel_rfl
theorem agg57 (w : World) : (isAgg 57).run Tryd.prog w = .ok true w := by kernel_rfl
theorem size56 (w : World) : (sizeOf 56).run Tryd.prog w = .ok 116 w := by kernel_rfl
theorem size42 (w : World) : (sizeOf 42).run Tryd.prog w = .ok 4 w := by kernel_rfl
theorem size57 (w : World) : (sizeOf 57).run Tryd.prog w = .ok 8 w := by kernel_rfl
theorem cut_eq {s t : List Int} (hs : s.length = 128) (ht : t.length = 128) (h1 : (s.drop 0).take 116 = (t.drop 0).take 116) (h2 : (s.drop 116).take 4 = (t.drop 116).take 4) (h3 : (s.drop 120).take 8 = (t.drop 120).take 8) : s = t := by
  have f : ∀ l : List Int, l.length = 128 → l = (l.drop 0).take 116 ++ ((l.drop 116).take 4 ++ (l.drop 120).take 8) := fun l hl => by
    have e1 : (l.drop 120).take 8 = l.drop 120 := List.take_of_length_le (by simp [hl])
    have e2 : (l.drop 116).take 4 ++ l.drop 120 = l.drop 116 := by
      have := List.take_append_drop 4 (l.drop 116)
      rw [List.drop_drop] at this
      exact this
    rw [e1, e2, List.drop_zero, List.take_append_drop]
  rw [f s hs, f t ht, h1, h2, h3]
/-- One field of a sector, then the rest. -/
theorem eqFld (w : World) (d : Nat) (s t : List Int) (f : Field) (fs : List Field) (ty : TypeId) (o n : Nat) (hn : f.name ≠ "_") (ht : f.type = ty) (ho : f.offset = o) (ha : (isAgg ty).run Tryd.prog w = .ok true w) (hz : (sizeOf ty).run Tryd.prog w = .ok n w) (hu : Tryd.prog.underlying ty = some (.array n 5)) (h1 : ((s.drop o).take n).length = n) (h2 : ((t.drop o).take n).length = n) (B : Bool)
    (hr : (Op.eqFields (d + 2) (Dk.pa s) (Dk.pa t) fs).run Tryd.prog w = .ok B w) : (Op.eqFields (d + 2) (Dk.pa s) (Dk.pa t) (f :: fs)).run Tryd.prog w = .ok (decide ((s.drop o).take n = (t.drop o).take n) && B) w := by
  rw [Op.eqFields, if_pos hn, ht, ho]
  simp only [Sem.run_bind, partA w ty o n _ ha hz, Result.andThen_ok, eqArr w ty hu h1 h2 d]
  cases decide ((s.drop o).take n = (t.drop o).take n)
  · simp
  · simpa using hr
theorem eqF3 (w : World) (d : Nat) {s t : List Int} (hs : s.length = 128) (ht : t.length = 128) (fs : List Field) (hf : fs.map (fun f => (f.name == "_", f.type, f.offset)) = [(false, 56, 0), (false, 42, 116), (false, 57, 120)]) : (Op.eqFields (d + 2) (Dk.pa s) (Dk.pa t) fs).run Tryd.prog w = .ok (decide (s = t)) w := by
  obtain ⟨f1, l1, rfl, e1, hf⟩ := List.map_eq_cons_iff.1 hf
  obtain ⟨f2, l2, rfl, e2, hf⟩ := List.map_eq_cons_iff.1 hf
  obtain ⟨f3, l3, rfl, e3, hf⟩ := List.map_eq_cons_iff.1 hf
  obtain rfl := List.map_eq_nil_iff.1 hf
  simp only [Prod.mk.injEq, beq_eq_false_iff_ne] at e1 e2 e3
  have r3 := eqFld w d s t f3 [] 57 120 8 e3.1 e3.2.1 e3.2.2 (agg57 w) (size57 w) under57 (by simp [hs]) (by simp [ht]) true (by simp [Op.eqFields])
  have r2 := eqFld w d s t f2 _ 42 116 4 e2.1 e2.2.1 e2.2.2 (agg42 w) (size42 w) under42 (by simp [hs]) (by simp [ht]) _ r3
  have r1 := eqFld w d s t f1 _ 56 0 116 e1.1 e1.2.1 e1.2.2 (agg56 w) (size56 w) under56 (by simp [hs]) (by simp [ht]) _ r2
  rw [r1]
  congr 1
  by_cases e : s = t
  · subst e
    simp only [decide_true, Bool.and_true]
  · rw [decide_eq_false e]
    by_cases h1 : (s.drop 0).take 116 = (t.drop 0).take 116
    · by_cases h2 : (s.drop 116).take 4 = (t.drop 116).take 4
      · by_cases h3 : (s.drop 120).take 8 = (t.drop 120).take 8
        · exact absurd (cut_eq hs ht h1 h2 h3) e
        · rw [decide_eq_false h3]; simp only [Bool.false_and, Bool.and_false]
      · rw [decide_eq_false h2]; simp only [Bool.false_and, Bool.and_false]
    · rw [decide_eq_false h1]; simp only [Bool.false_and]
theorem eqIn59 (w : World) {s t : List Int} (hs : s.length = 128) (ht : t.length = 128) : (Op.equalIn 10000 59 (.agg (Dk.pa s)) (.agg (Dk.pa t))).run Tryd.prog w = .ok (decide (s = t)) w := by
  rw [run_equalIn_struct w 9999 59 _ _ under59 stood59]
  exact eqF3 w 9997 hs ht _ f59a
theorem ne59 (w : World) {s t : List Int} (hs : s.length = 128) (ht : t.length = 128) : (binOp .neq 59 (.agg (Dk.pa s)) (.agg (Dk.pa t))).run Tryd.prog w = .ok (.bool (!decide (s = t))) w := by
  rw [run_neq_struct, eqIn59 w hs ht]
  rfl
theorem guard59 (w : World) (op : BinOp) (x y : Operand) (xs ys : Array Value) : (eqGuard op 59 x y (.agg xs) (.agg ys)).run Tryd.prog w = .ok () w := run_eqGuard_agg w op 59 x y xs ys (by kernel_rfl)
end Go.Proofs.YtgjjjkokmgdmjaaDoor
