/- The program's right. -/
import Derived.Test.YtiloclekhddkfaaS12
import Derived.Test.YtiloclekhddkfaaOctN
namespace Go.Proofs.Ytiloclekhddkfaa
open Go.RowKit Go.Lib

/-- May there be such a ref? -/
def rt (r : Rf) : Bool := decide (1 ≤ r.l ∧ r.l ≤ 512 ∧ 0 ≤ r.b ∧ r.b < 4096 ∧ 0 ≤ r.o ∧ r.o < 64)
theorem run_box28 (w : World) (cs : Array Value) : (Instr.box 28 (.agg cs)).run Try.prog w = .ok (.pointer (some ⟨w.heap.size, 0, none⟩)) (w.alloc (.cells cs 28)) := by
  simp [Instr.box, newVar, newRow, Value.cells]
theorem rc_num (r : Rf) (hs : Sm r.s) : (rc r)[32]? = some (.int .i64 r.l) ∧ (rc r)[33]? = some (.int .i64 r.b) ∧ (rc r)[34]? = some (.int .i64 r.o) := by
  unfold rc
  have hl : (r.s.map (Value.int .u8)).length = 32 := by rw [List.length_map, hs.len]
  refine ⟨?_, ?_, ?_⟩
  · rw [List.getElem?_append_right (by omega), hl]; rfl
  · rw [List.getElem?_append_right (by omega), hl]; rfl
  · rw [List.getElem?_append_right (by omega), hl]; rfl
section
variable {w : World}
set_option maxHeartbeats 2000000 in
set_option maxRecDepth 100000 in
theorem right_any (r : Rf) (hs : Sm r.s) : Calls Try.prog 36 #[.agg (rc r).toArray] w fun e w' => e = .returned (.bool (rt r)) ∧ Below w.heap.size w w' := by
  have hbox := run_box28
  have hn := rc_num r hs
  have HB : Hid (Below w.heap.size w (w.alloc (.cells (rc r).toArray 28))) := ⟨(Below.refl _ w).alloc (Nat.le_refl _) _⟩
  have d0 : (w.alloc (.cells (rc r).toArray 28)).cell? ⟨w.heap.size, 32, none⟩ = some (.int .i64 r.l) := by rw [cell_of_row _ _ _ _ _ _ (heap_alloc_new w _)]; simpa using hn.1
  have d1 : (w.alloc (.cells (rc r).toArray 28)).cell? ⟨w.heap.size, 33, none⟩ = some (.int .i64 r.b) := by rw [cell_of_row _ _ _ _ _ _ (heap_alloc_new w _)]; simpa using hn.2.1
  have d2 : (w.alloc (.cells (rc r).toArray 28)).cell? ⟨w.heap.size, 34, none⟩ = some (.int .i64 r.o) := by rw [cell_of_row _ _ _ _ _ _ (heap_alloc_new w _)]; simpa using hn.2.2
  have HR : Hid (rt r = decide (1 ≤ r.l ∧ r.l ≤ 512 ∧ 0 ≤ r.b ∧ r.b < 4096 ∧ 0 ≤ r.o ∧ r.o < 64)) := ⟨rfl⟩
  generalize (rc r).toArray = cs at HB d0 d1 d2 ⊢
  generalize rt r = R at HR ⊢
  generalize r.l = l at d0 HR
  generalize r.b = b at d1 HR
  generalize r.o = o at d2 HR
  clear hn
  by_cases h0 : 1 ≤ l
  · skip
    by_cases h1 : l ≤ 512
    · skip
      by_cases h2 : 0 ≤ b
      · skip
        by_cases h3 : b < 4096
        · skip
          by_cases h4 : 0 ≤ o
          · skip
            by_cases h5 : o < 64
            · skip
              go_enter Try.func36, Try.ntmps36
              go_wp2
              go_ret
              exact ⟨by rw [HR.out, decide_eq_true (by omega)]; rfl, HB.out⟩
            · go_enter Try.func36, Try.ntmps36
              go_wp2
              go_ret
              exact ⟨by rw [HR.out, decide_eq_false (by omega)]; rfl, HB.out⟩
          · go_enter Try.func36, Try.ntmps36
            go_wp2
            go_ret
            exact ⟨by rw [HR.out, decide_eq_false (by omega)]; rfl, HB.out⟩
        · go_enter Try.func36, Try.ntmps36
          go_wp2
          go_ret
          exact ⟨by rw [HR.out, decide_eq_false (by omega)]; rfl, HB.out⟩
      · go_enter Try.func36, Try.ntmps36
        go_wp2
        go_ret
        exact ⟨by rw [HR.out, decide_eq_false (by omega)]; rfl, HB.out⟩
    · go_enter Try.func36, Try.ntmps36
      go_wp2
      go_ret
      exact ⟨by rw [HR.out, decide_eq_false (by omega)]; rfl, HB.out⟩
  · go_enter Try.func36, Try.ntmps36
    go_wp2
    go_ret
    exact ⟨by rw [HR.out, decide_eq_false (by omega)]; rfl, HB.out⟩
end
end Go.Proofs.Ytiloclekhddkfaa
