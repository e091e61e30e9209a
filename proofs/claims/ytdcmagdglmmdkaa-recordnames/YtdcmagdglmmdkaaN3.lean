/- A tick: Check; where it is laid; numbers laid on a sheet. -/
import Derived.Test.YtdcmagdglmmdkaaN2
import Derived.Test.YtdcmagdglmmdkaaOctN
import Derived.Test.YtdcmagdglmmdkaaBytes
import Derived.Laws.Tables
import Derived.Laws.EntriesVeiled
namespace Go.Proofs.Ytdcmagdglmmdkaa
open Go.RowKit
theorem info35 : (Try.prog.info? 35).map (·.size) = some 14 := by kernel_rfl
section
variable {w : World}
set_option maxHeartbeats 4000000 in
set_option maxRecDepth 100000 in
theorem chk_tick (T : Int) (h0 : 0 ≤ T) (h1 : T ≤ 9007199254740991) : Calls Try.prog 11 #[.agg (tk T)] w fun e w' => e = .returned (.int .i64 0) ∧ Below w.heap.size w w' := by
  have HR1 : Hid ((w.alloc (.cells (tk T) 35)).heap[w.heap.size]? = some (.cells (tk T) 35 (0, 0))) := ⟨heap_alloc_new w _⟩
  have HB1 : Hid (Below w.heap.size w (w.alloc (.cells (tk T) 35))) := ⟨(Below.refl _ w).alloc (Nat.le_refl _) _⟩
  have t18 := fun (w : World) => kind_any (w := w) 8
  rw [decide_eq_true (by omega : (1 : Int) ≤ 8 ∧ (8 : Int) ≤ 9)] at t18
  go_enter Try.func11, Try.ntmps11
  go_upto_region 3 with (first
    | (go_at_call 18; refine (t18 _).mono ?_; rintro e w' ⟨rfl, ex⟩; subst ex)
    | (go_at_call 20; refine (beside_tick (w := w.alloc (.cells (tk T) 35)) T).mono ?_; rintro e w2 ⟨rfl, hb2⟩; have HB12 : Hid (Below (w.alloc (.cells (tk T) 35)).heap.size (w.alloc (.cells (tk T) 35)) w2) := ⟨hb2⟩; clear hb2)
    | (go_at_call 19; refine (empty_tick (w := w2)).mono ?_; rintro e w3 ⟨rfl, hb3⟩; have HB13 : Hid (Below (w.alloc (.cells (tk T) 35)).heap.size (w.alloc (.cells (tk T) 35)) w3) := ⟨HB12.out.trans (hb3.mono HB12.out.size)⟩; clear hb3))
  have HR3 : Hid (w3.heap[w.heap.size]? = some (.cells (tk T) 35 (0, 0))) := ⟨(HB13.out.block _ (Array.getElem?_eq_some_iff.1 HR1.out).1).trans HR1.out⟩
  go_upto_region 5 with (first
    | (refine wpList_load_row rfl 35 (.tmp 1) rfl w.heap.size rfl 35 (tk T) (0, 0) _ HR3.out Try.underlying35 rfl info35 ?_)
    | (go_at_call 21; refine (parts_tick (w := w3) T h0 h1).mono ?_; rintro e w4 ⟨rfl, hb4⟩; have HB14 : Hid (Below (w.alloc (.cells (tk T) 35)).heap.size (w.alloc (.cells (tk T) 35)) w4) := ⟨HB13.out.trans (hb4.mono HB13.out.size)⟩; clear hb4))
  have HR4 : Hid (w4.heap[w.heap.size]? = some (.cells (tk T) 35 (0, 0))) := ⟨(HB14.out.block _ (Array.getElem?_eq_some_iff.1 HR1.out).1).trans HR1.out⟩
  have c7 : w4.cell? ⟨w.heap.size, 7, none⟩ = some (.slice none 0 0) := by rw [cell_of_row _ _ _ _ _ _ HR4.out]; rfl
  have c8 : w4.cell? ⟨w.heap.size, 8, none⟩ = some (.slice none 0 0) := by rw [cell_of_row _ _ _ _ _ _ HR4.out]; rfl
  have c9 : w4.cell? ⟨w.heap.size, 9, none⟩ = some (.slice none 0 0) := by rw [cell_of_row _ _ _ _ _ _ HR4.out]; rfl
  go_upto_region 7 with fail
  go_wp2_with (first
    | (refine wpList_load_row rfl 35 (.tmp 1) rfl w.heap.size rfl 35 (tk T) (0, 0) _ HR4.out Try.underlying35 rfl info35 ?_)
    | (go_at_call 22; refine (lists_tick (w := w4) T).mono ?_; rintro e w5 ⟨rfl, hb5⟩; have HB15 : Hid (Below (w.alloc (.cells (tk T) 35)).heap.size (w.alloc (.cells (tk T) 35)) w5) := ⟨HB14.out.trans (hb5.mono HB14.out.size)⟩; clear hb5))
  go_ret
  exact ⟨rfl, HB1.out.trans (HB15.out.mono HB1.out.size)⟩
set_option maxHeartbeats 4000000 in
set_option maxRecDepth 100000 in
theorem way_tick : Calls Try.prog 29 #[.int .i64 8] w fun e w' => e = .returned (.agg #[.func (.func 65) #[] #[], .func (.func 66) #[] #[]]) ∧ Below w.heap.size w w' := by
  go_enter Try.func29, Try.ntmps29
  go_wp2
  refine bodyPost_ret (v := .agg #[.func (.func 65) #[] #[], .func (.func 66) #[] #[]]) (by simp [results, Try.results29, go_sem]) rfl ⟨rfl, ?_⟩
  exact (Below.refl _ _).alloc (Nat.le_refl _) _
end
end Go.Proofs.Ytdcmagdglmmdkaa
