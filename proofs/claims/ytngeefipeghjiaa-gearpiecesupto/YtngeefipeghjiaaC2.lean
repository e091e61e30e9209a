/- Package gear's New. -/
import Derived.Test.YtngeefipeghjiaaC1
import Derived.Deep.RegionHeld3
namespace Go.Proofs.Ytngeefipeghjiaa
open Go.RowKit

theorem run_box27 (w : World) (cs : Array Value) : (Instr.box 27 (.agg cs)).run Try.prog w = .ok (.pointer (some ⟨w.heap.size, 0, none⟩)) (w.alloc (.cells cs 27)) := by
  simp [Instr.box, newVar, newRow, Value.cells]
section
variable {ops : Array Oper} {rest : List Oper} {o : Oper} {a : Act} {w : World} {Q : Exit → Act → World → Prop}
theorem wpl_box27 (hg : o.guard = none) (x : Operand) (cs : Array Value) (ho : o.op = .box 27 x) (hx : a.eval x = .agg cs) (h : wpList Try.prog ops Q rest (a.put o.dst (.pointer (some ⟨w.heap.size, 0, none⟩))) (w.alloc (.cells cs 27))) : wpList Try.prog ops Q (o :: rest) a w :=
  wpList_plain hg fun _ hK => by
    unfold Oper.wp execOp
    simp only [ho, hx, run_box27, Sem.run_bind, Result.andThen_ok]
    exact hK _ _ h
end
theorem chk_ok {mn av mx : Int} (h : okC mn av mx) : chkE mn av mx = 0 := if_pos h
theorem chk_no {mn av mx : Int} (h : ¬ okC mn av mx) : chkE mn av mx = 2 := if_neg h
set_option maxHeartbeats 1000000 in
set_option maxRecDepth 100000 in
theorem new_bad {mn av mx : Int} (h : ¬ okC mn av mx) (ta : Array Value) (w : World) : Calls Try.prog 18 #[.agg #[.int .i64 mn, .int .i64 av, .int .i64 mx], .agg ta] w fun e w' => e = .returned (.tuple #[.pointer none, .int .i64 2]) ∧ Below w.heap.size w w' := by
  obtain ⟨w1, HW1⟩ : ∃ w1, Hid ((w.alloc (.cells #[.int .i64 mn, .int .i64 av, .int .i64 mx] 24)).alloc (.cells ta 27) = w1) := ⟨_, ⟨rfl⟩⟩
  have Hb : Hid (Below w.heap.size w w1) := ⟨by rw [← HW1.out]; exact ((Below.refl _ w).alloc (Nat.le_refl _) _).alloc (by simp) _⟩
  have t := check_any mn av mx w1
  rw [chk_no h] at t
  have hx : w1.heap[w.heap.size]? = some (.cells #[.int .i64 mn, .int .i64 av, .int .i64 mx] 24 (0, 0)) := by
    rw [← HW1.out, Below.heap_alloc _ _ _ (by simp)]; exact heap_alloc_new w _
  have c0 : w1.cell? ⟨w.heap.size, 0, none⟩ = some (.int .i64 mn) := by rw [cell_of_row _ _ _ _ _ _ hx]; rfl
  have c1 : w1.cell? ⟨w.heap.size, 1, none⟩ = some (.int .i64 av) := by rw [cell_of_row _ _ _ _ _ _ hx]; rfl
  have c2 : w1.cell? ⟨w.heap.size, 2, none⟩ = some (.int .i64 mx) := by rw [cell_of_row _ _ _ _ _ _ hx]; rfl
  go_enter Try.func18, Try.ntmps18
  go_wp2_with (refine wpl_box27 rfl (.tmp 1) ta rfl rfl ?_)
  rw [HW1.out]
  go_wp2_with (go_at_call 12; refine t.mono ?_; rintro e w' ⟨rfl, hw⟩)
  go_ret2
  exact ⟨rfl, Hb.out.trans (hw.mono Hb.out.size)⟩
end Go.Proofs.Ytngeefipeghjiaa
