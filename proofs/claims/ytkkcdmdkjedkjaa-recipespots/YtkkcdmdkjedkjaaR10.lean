/- The laws' live. -/
import Derived.Test.YtkkcdmdkjedkjaaR9
import Derived.Laws.StructEq
import Derived.Test.YtkkcdmdkjedkjaaRefSame
namespace Go.Proofs.Ytkkcdmdkjedkjaa
open Go.RowKit Go.Lib

def s0 : List Int := List.replicate 32 0
theorem sm0 : Sm s0 := ⟨rfl, by decide⟩
def rA : Rf := ⟨s0, 3, 0, 0⟩
def rB : Rf := ⟨s0, 4, 0, 1⟩
theorem smAB : ∀ r ∈ [rA, rB], Sm r.s := by
  intro r hr
  simp at hr
  rcases hr with rfl | rfl <;> exact sm0
theorem rdr_two (w : World) : RdR (w.alloc (.cells (fl rc [rA, rB]).toArray 56)) (.slice (some ⟨w.heap.size, 0, none⟩) 2 2) [rA, rB] := by
  refine ⟨⟨_, _, rfl, Nat.le_refl _, by unfold maxLen; omega, by simp⟩, fun i hi => ⟨_, _, _, rfl, fun j hj => ?_⟩, smAB⟩
  rw [cell_of_row _ _ _ _ _ _ (heap_alloc_new w _), Nat.zero_add, ← fl_get rc 35 r0 [rA, rB] (fun x hx => rc_len x (smAB x hx)) i j hi hj]
  simp
theorem rtAB : Rt [rA, rB] := ⟨by decide, by decide⟩
theorem pcsAB : Rp.pcs (lens [rA, rB]) 0 (2 : Nat) (((2 : Nat) : Int) + 3) = [⟨0, 2, 1⟩, ⟨1, 0, 2⟩] := by rfl
theorem sumAB : (lens [rA, rB]).sum = 7 := by decide
theorem u49 : Try.prog.underlying 49 = some (.struct (Try.prog.fieldsOf 49)) := by kernel_rfl
theorem p49 : Try.prog.stoodInHeld 49 = false := by kernel_rfl
theorem f49 : (Try.prog.fieldsOf 49).toList.map (fun f => (f.type, f.offset, f.name == "_")) = [(3, 0, false), (3, 1, false), (3, 2, false)] := by kernel_rfl
theorem three {fs : List Field} {a b c : TypeId × Nat × Bool} (h : fs.map (fun f => (f.type, f.offset, f.name == "_")) = [a, b, c]) : ∃ f0 f1 f2 : Field, fs = [f0, f1, f2] ∧ (f0.type, f0.offset, f0.name == "_") = a ∧ (f1.type, f1.offset, f1.name == "_") = b ∧ (f2.type, f2.offset, f2.name == "_") = c := by
  match fs, h with
  | [f0, f1, f2], h =>
    simp only [List.map_cons, List.map_nil, List.cons.injEq, and_true] at h
    exact ⟨f0, f1, f2, rfl, h⟩
theorem partI (w : World) (cs : Array Value) (j : Nat) (z : Int) (h : cs[j]? = some (.int .i64 z)) : (part 3 cs j).run Try.prog w = .ok (.int .i64 z) w := by
  have h1 : (isAgg 3).run Try.prog w = .ok false w := by kernel_rfl
  unfold part
  simp [Sem.run_bind, h1, h]
theorem eqIn49 (w : World) (a b c : Int) (d : Nat) : (Op.equalIn (d + 3) 49 (.agg #[.int .i64 a, .int .i64 b, .int .i64 c]) (.agg #[.int .i64 a, .int .i64 b, .int .i64 c])).run Try.prog w = .ok true w := by
  have hI : ∀ z : Int, (Op.equalIn (d + 2) 3 (.int .i64 z) (.int .i64 z)).run Try.prog w = .ok true w := fun z => by
    rw [run_equalIn_int w (d + 1) 3 .i64 .i64 z z Try.underlying3]
    simp
  rw [run_equalIn_struct w (d + 2) 49 _ _ u49 p49]
  have hq := f49
  generalize (Try.prog.fieldsOf 49).toList = fs at hq
  obtain ⟨f0, f1, f2, rfl, e0, e1, e2⟩ := three hq
  simp only [Prod.mk.injEq] at e0 e1 e2
  rw [eqf_cons w (d + 2) _ _ f0 _ e0.2.2 e0.1 e0.2.1 (partI w _ 0 a rfl) (partI w _ 0 a rfl) (hI _),
    eqf_cons w (d + 2) _ _ f1 _ e1.2.2 e1.1 e1.2.1 (partI w _ 1 b rfl) (partI w _ 1 b rfl) (hI _),
    eqf_cons w (d + 2) _ _ f2 _ e2.2.2 e2.1 e2.2.1 (partI w _ 2 c rfl) (partI w _ 2 c rfl) (hI _)]
  rfl
theorem eq49 (w : World) (a b c : Int) : (binOp .eql 49 (.agg #[.int .i64 a, .int .i64 b, .int .i64 c]) (.agg #[.int .i64 a, .int .i64 b, .int .i64 c])).run Try.prog w = .ok (.bool true) w := by
  rw [run_eql_struct, eqIn49 w a b c 9997]
  rfl
theorem ne49 (w : World) (a b c : Int) : (binOp .neq 49 (.agg #[.int .i64 a, .int .i64 b, .int .i64 c]) (.agg #[.int .i64 a, .int .i64 b, .int .i64 c])).run Try.prog w = .ok (.bool false) w := by
  rw [run_neq_struct, eqIn49 w a b c 9997]
  rfl
theorem guard49 (w : World) (op : BinOp) (x y : Operand) (xs ys : Array Value) : (eqGuard op 49 x y (.agg xs) (.agg ys)).run Try.prog w = .ok () w := run_eqGuard_agg w op 49 x y xs ys (by kernel_rfl)
section
variable {w : World}
set_option maxHeartbeats 4000000 in
set_option maxRecDepth 100000 in
theorem live_any : Calls Try.prog 12 #[] w fun e w' => e = .returned (.bool true) ∧ Below w.heap.size w w' := by
  obtain ⟨w1, Hw1⟩ : ∃ x, Hid (w.alloc (.cells (fl rc [rA, rB]).toArray 56) = x) := ⟨_, ⟨rfl⟩⟩
  have HB1 : Hid (Below w.heap.size w w1) := ⟨by rw [← Hw1.out]; exact (Below.refl _ w).alloc (Nat.le_refl _) _⟩
  have t1 := new_any (w := w1) (.slice (some ⟨w.heap.size, 0, none⟩) 2 2) [rA, rB] (by rw [← Hw1.out]; exact rdr_two w) rtAB
  have hq := eq49
  have hg := guard49
  go_enter Try.func12, Try.ntmps12
  go_upto_region 2 with (go_at_call 9; change Calls Try.prog 9 _ (w.alloc (.cells (fl rc [rA, rB]).toArray 56)) _; rw [Hw1.out]; refine t1.mono ?_; rintro e w2 ⟨p, rfl, hR2, hb2⟩)
  have HB2 : Hid (Below w.heap.size w w2) := ⟨HB1.out.trans (hb2.mono HB1.out.size)⟩
  have HR2 := Hid.mk hR2
  have t2 := cut_any (w := w2) hR2 rtAB 2 3 (by decide) (by decide)
  rw [pcsAB] at t2
  clear t1 hb2 hR2
  go_upto_region 5 with (go_at_call 20; refine t2.mono ?_; rintro e w3 ⟨v3, rfl, hO3, hb3⟩)
  have HB3 : Hid (Below w.heap.size w w3) := ⟨HB2.out.trans (hb3.mono HB2.out.size)⟩
  have t3 := size_q (w := w3) (HR2.out.below hb3) (by decide)
  rw [sumAB] at t3
  obtain ⟨b, off, cap, e3, hc⟩ := (hO3.rd ⟨0, 0, 0⟩).at' 0 (by simp)
  obtain ⟨b', off', cap', e4, hc'⟩ := (hO3.rd ⟨0, 0, 0⟩).at' 1 (by simp)
  subst e3
  simp at e4
  obtain ⟨⟨rfl, rfl⟩, rfl⟩ := e4
  have d0 := hc 0 (by decide)
  have d1 := hc 1 (by decide)
  have d2 := hc 2 (by decide)
  have d3 := hc' 0 (by decide)
  have d4 := hc' 1 (by decide)
  have d5 := hc' 2 (by decide)
  simp [pv] at d0 d1 d2 d3 d4 d5
  clear hc hc' hO3 t2 hb3
  simp only [List.length_cons, List.length_nil]
  go_wp2_with (go_at_call 13; refine t3.mono ?_; rintro e w4 ⟨rfl, n4, e4⟩; subst e4)
  go_ret
  exact ⟨rfl, below_drewN HB3.out _⟩
end
end Go.Proofs.Ytkkcdmdkjedkjaa
