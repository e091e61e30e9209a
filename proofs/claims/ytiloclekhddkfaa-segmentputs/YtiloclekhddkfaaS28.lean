/- The program's Take: a fault goes up by a panic, and is caught. -/
import Derived.Test.YtiloclekhddkfaaS27
import Derived.Defers
import Derived.Recover
namespace Go.Proofs.Ytiloclekhddkfaa
open Go.RowKit Go.Lib

theorem assert_fault (c : Int) (w : World) : (Instr.typeAssert (.iface 77 (.int .i64 c)) 20 77 true).run Try.prog w = .ok (.tuple #[.int .i64 c, .bool true]) w := by kernel_rfl
theorem assert_nil (w : World) : (Instr.typeAssert .nilIface 20 77 true).run Try.prog w = .ok (.tuple #[.int .i64 0, .bool false]) w := by kernel_rfl
set_option maxRecDepth 10000 in
theorem catch_panicking (p : Nat) (x c : Int) (w : World) (hc : w.cell? ⟨p, 0, none⟩ = some (.int .i64 x)) (hz : w.frozen? ⟨p, 0, none⟩ = false) :
    CallsD Try.prog 53 #[.pointer (some ⟨p, 0, none⟩)] (.panicking (flt c)) w fun e u' w' =>
      e = .returned (.tuple #[]) ∧ u' = .panicking [{ v := .iface 77 (.int .i64 c), recovered := true }] ∧ w' = w.setCell ⟨p, 0, none⟩ (.int .i64 c) := by
  unfold flt
  refine callsD_of_wpS Try.func53 rfl fun c₀ cs hu => ?_
  have ha := assert_fault c
  apply wpS_seq
  apply wpS_region
  simp [wpOpsS, go_sem, recoverD, hu, Try.ntmps53, Exit.thenS, ha]
  apply wpS_seq
  apply wpS_region
  simp [wpOpsS, go_sem, Exit.thenS]
  refine wpS_cond (t := true) (by simp [Act.eval, Array.replicate]) ?_
  simp only [if_true]
  apply wpS_region
  simp [wpOpsS, go_sem, hc, hz, bodyPostS, results, Try.results53]
set_option maxRecDepth 10000 in
theorem catch_idle (p : Nat) (w : World) :
    CallsD Try.prog 53 #[.pointer (some ⟨p, 0, none⟩)] .returning w fun e u' w' => e = .returned (.tuple #[]) ∧ u' = .returning ∧ w' = w := by
  refine callsD_of_wpS Try.func53 rfl fun c₀ cs hu => ?_
  have ha := assert_nil
  apply wpS_seq
  apply wpS_region
  simp [wpOpsS, go_sem, recoverD, hu, Try.ntmps53, Exit.thenS, ha]
  apply wpS_seq
  apply wpS_region
  simp [wpOpsS, go_sem, Exit.thenS]
  refine wpS_cond (t := false) (by simp [Act.eval, Array.replicate]) ?_
  simp only [Bool.false_eq_true, if_false]
  refine wpS_of_wp (wp_skip ?_)
  cases c₀
  simp_all [bodyPostS, results, Try.results53]
end Go.Proofs.Ytiloclekhddkfaa
