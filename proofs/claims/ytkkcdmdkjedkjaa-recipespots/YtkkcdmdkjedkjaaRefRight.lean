/- The document's Right. -/
import Derived.Test.YtkkcdmdkjedkjaaRefs
namespace Go.Proofs.Ytkkcdmdkjedkjaa
open Go.RowKit Go.Lib

section
variable {w : World}
set_option maxHeartbeats 2000000 in
set_option maxRecDepth 100000 in
theorem rright_any (r : Rf) (hs : Sm r.s) : Calls Try.prog 32 #[.agg (rc r).toArray] w fun e w' => e = .returned (.bool (rt r)) ∧ Below w.heap.size w w' := by
  have hbox := run_box28
  have hn := rc_num r hs
  have HB : Hid (Below w.heap.size w (w.alloc (.cells (rc r).toArray 56))) := ⟨(Below.refl _ w).alloc (Nat.le_refl _) _⟩
  have d0 : (w.alloc (.cells (rc r).toArray 56)).cell? ⟨w.heap.size, 32, none⟩ = some (.int .i64 r.l) := by rw [cell_of_row _ _ _ _ _ _ (heap_alloc_new w _)]; simpa using hn.1
  have d1 : (w.alloc (.cells (rc r).toArray 56)).cell? ⟨w.heap.size, 33, none⟩ = some (.int .i64 r.b) := by rw [cell_of_row _ _ _ _ _ _ (heap_alloc_new w _)]; simpa using hn.2.1
  have d2 : (w.alloc (.cells (rc r).toArray 56)).cell? ⟨w.heap.size, 34, none⟩ = some (.int .i64 r.o) := by rw [cell_of_row _ _ _ _ _ _ (heap_alloc_new w _)]; simpa using hn.2.2
  have HR : Hid (rt r = decide (1 ≤ r.l ∧ r.l ≤ 512 ∧ 0 ≤ r.b ∧ r.b < 4096 ∧ 0 ≤ r.o ∧ r.o < 64)) := ⟨rfl⟩
  generalize (rc r).toArray = cs at HB d0 d1 d2 ⊢
  generalize rt r = R at HR ⊢
  generalize r.l = l at d0 HR
  generalize r.b = b at d1 HR
  generalize r.o = o at d2 HR
  clear hn
  by_cases h0 : 1 ≤ l
  · skip
    by_cases h1 : l ≤ 512
    · skip
      by_cases h2 : 0 ≤ b
      · skip
        by_cases h3 : b ≤ 4095
        · skip
          by_cases h4 : 0 ≤ o
          · skip
            by_cases h5 : o ≤ 63
            · skip
              go_enter Try.func32, Try.ntmps32
              go_wp2
              go_ret
              exact ⟨by rw [HR.out, decide_eq_true (by omega)]; rfl, HB.out⟩
            · go_enter Try.func32, Try.ntmps32
              go_wp2
              go_ret
              exact ⟨by rw [HR.out, decide_eq_false (by omega)]; rfl, HB.out⟩
          · go_enter Try.func32, Try.ntmps32
            go_wp2
            go_ret
            exact ⟨by rw [HR.out, decide_eq_false (by omega)]; rfl, HB.out⟩
        · go_enter Try.func32, Try.ntmps32
          go_wp2
          go_ret
          exact ⟨by rw [HR.out, decide_eq_false (by omega)]; rfl, HB.out⟩
      · go_enter Try.func32, Try.ntmps32
        go_wp2
        go_ret
        exact ⟨by rw [HR.out, decide_eq_false (by omega)]; rfl, HB.out⟩
    · go_enter Try.func32, Try.ntmps32
      go_wp2
      go_ret
      exact ⟨by rw [HR.out, decide_eq_false (by omega)]; rfl, HB.out⟩
  · go_enter Try.func32, Try.ntmps32
    go_wp2
    go_ret
    exact ⟨by rw [HR.out, decide_eq_false (by omega)]; rfl, HB.out⟩
end

end Go.Proofs.Ytkkcdmdkjedkjaa
