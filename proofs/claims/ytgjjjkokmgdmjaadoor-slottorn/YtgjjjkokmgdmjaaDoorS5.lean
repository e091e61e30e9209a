/- A sector's bytes; a sector out of bytes. -/
import Derived.Test.YtgjjjkokmgdmjaaDoorS4
namespace Go.Proofs.YtgjjjkokmgdmjaaDoor
open Go.RowKit
section
variable {w : World}
theorem run_box59 (w : World) (cs : Array Value) : (Instr.box 59 (.agg cs)).run Tryd.prog w = .ok (.pointer (some ⟨w.heap.size, 0, none⟩)) (w.alloc (.cells cs 59)) := by
  simp [Instr.box, newVar, newRow, Value.cells]
set_option maxHeartbeats 4000000 in
set_option maxRecDepth 100000 in
theorem bytes_any (l : List Int) (hl : l.length = 128) : Calls Tryd.prog 26 #[.agg (Dk.pa l)] w fun e w' => ∃ v, e = .returned v ∧ OwnB w' w.heap.size v l ∧ Below w.heap.size w w' := by
  have hbox := run_box59
  have Hl : Hid (l.length = 128) := ⟨hl⟩
  obtain ⟨b, Hb⟩ : ∃ b, Hid (w.heap.size = b) := ⟨_, ⟨rfl⟩⟩
  obtain ⟨w1, Hw1⟩ : ∃ w1, Hid (w.alloc (.cells (Dk.pa l) 59) = w1) := ⟨_, ⟨rfl⟩⟩
  have HB1 : Hid (Below w.heap.size w w1) := ⟨by rw [← Hw1.out]; exact (Below.refl _ w).alloc (Nat.le_refl _) _⟩
  have HR1 : Hid (w1.heap[b]? = some (.cells (Dk.pa l) 59 (0, 0))) := ⟨by rw [← Hw1.out, ← Hb.out]; exact heap_alloc_new w _⟩
  obtain ⟨PP, HPP⟩ : ∃ P : List (Value × List Int), Hid ([(.slice (some ⟨b, 0, none⟩) 116 116, (l.drop 0).take 116), (.slice (some ⟨b, 116, none⟩) 4 4, (l.drop 116).take 4), (.slice (some ⟨b, 120, none⟩) 8 8, (l.drop 120).take 8)] = P) := ⟨_, ⟨rfl⟩⟩
  have HPf : Hid (flat PP = l) := ⟨by
    rw [← HPP.out]
    simp only [flat, List.map_cons, List.map_nil, List.flatten_cons, List.flatten_nil, List.append_nil, List.drop_zero]
    have e1 : (l.drop 120).take 8 = l.drop 120 := List.take_of_length_le (by simp [Hl.out])
    have e2 : (l.drop 116).take 4 ++ l.drop 120 = l.drop 116 := by
      have := List.take_append_drop 4 (l.drop 116)
      rw [List.drop_drop] at this
      exact this
    rw [e1, e2, List.take_append_drop]⟩
  obtain ⟨w5, HW5⟩ : ∃ w5, Hid ((w1.alloc (.cells #[.slice (some ⟨b, 0, none⟩) 116 116, .slice (some ⟨b, 116, none⟩) 4 4, .slice (some ⟨b, 120, none⟩) 8 8] 23)).drew = w5) := ⟨_, ⟨rfl⟩⟩
  have HB5 : Hid (Below w1.heap.size w1 w5) := ⟨by rw [← HW5.out]; exact ((Below.refl _ w1).alloc (Nat.le_refl _) _).drew⟩
  have HPt : Hid (Parts w5 w1.heap.size PP) := ⟨by
    have hr : w5.heap[w1.heap.size]? = some (.cells #[.slice (some ⟨b, 0, none⟩) 116 116, .slice (some ⟨b, 116, none⟩) 4 4, .slice (some ⟨b, 120, none⟩) 8 8] 23 (0, 0)) := by rw [← HW5.out]; exact heap_alloc_new w1 _
    have hr5 : w5.heap[b]? = some (.cells (Dk.pa l) 59 (0, 0)) := (HB5.out.block b (Array.getElem?_eq_some_iff.1 HR1.out).1).trans HR1.out
    rw [← HPP.out]
    refine ⟨fun i hi => ?_, fun i hi => ?_⟩
    · simp at hi
      rw [cell_of_row _ _ _ _ _ _ hr]
      match i, hi with
      | 0, _ => rfl
      | 1, _ => rfl
      | 2, _ => rfl
    · simp at hi
      match i, hi with
      | 0, _ => exact bs_row hr5 (by rw [Hl.out]; decide) (by decide)
      | 1, _ => exact bs_row hr5 (by rw [Hl.out]; decide) (by decide)
      | 2, _ => exact bs_row hr5 (by rw [Hl.out]; decide) (by decide)⟩
  have t3 := concat_any (w := w5) w1.heap.size 3 3 PP (by rw [← HPP.out]; rfl) HPt.out (by rw [HPf.out, Hl.out]; decide) (by rw [HPf.out, Hl.out]; decide) (by decide)
  clear hl
  obtain ⟨PL, HPL⟩ : ∃ P, Hid (Dk.pa l = P) := ⟨_, ⟨rfl⟩⟩
  rw [HPL.out] at Hw1 ⊢
  go_enter Tryd.func26, Tryd.ntmps26
  go_upto_region 1 with fail
  rw [Hw1.out, Hb.out]
  refine wp_region_held_drew (S := (fun _ => True)) (by kernel_rfl) trivial (fun hS => ?_)
  refine wpAnyH_take (i := 0) (v := .pointer (some ⟨b, 0, none⟩)) rfl (by kernel_rfl) (by kernel_rfl) (by kernel_rfl) (fun _ _ _ h => h) (Or.inl ⟨by kernel_rfl, fun wx hx => by go_simp⟩) hS ?_
  refine wpAnyH_take (i := 1) (v := .slice (some ⟨b, 0, none⟩) 116 116) rfl (by kernel_rfl) (by kernel_rfl) (by kernel_rfl) (fun _ _ _ h => h) (Or.inl ⟨by kernel_rfl, fun wx hx => by go_simp⟩) hS ?_
  refine wpAnyH_take (i := 2) (v := .pointer (some ⟨b, 116, none⟩)) rfl (by kernel_rfl) (by kernel_rfl) (by kernel_rfl) (fun _ _ _ h => h) (Or.inl ⟨by kernel_rfl, fun wx hx => by go_simp⟩) hS ?_
  refine wpAnyH_take (i := 3) (v := .slice (some ⟨b, 116, none⟩) 4 4) rfl (by kernel_rfl) (by kernel_rfl) (by kernel_rfl) (fun _ _ _ h => h) (Or.inl ⟨by kernel_rfl, fun wx hx => by go_simp⟩) hS ?_
  refine wpAnyH_take (i := 4) (v := .pointer (some ⟨b, 120, none⟩)) rfl (by kernel_rfl) (by kernel_rfl) (by kernel_rfl) (fun _ _ _ h => h) (Or.inl ⟨by kernel_rfl, fun wx hx => by go_simp⟩) hS ?_
  refine wpAnyH_take (i := 5) (v := .slice (some ⟨b, 120, none⟩) 8 8) rfl (by kernel_rfl) (by kernel_rfl) (by kernel_rfl) (fun _ _ _ h => h) (Or.inl ⟨by kernel_rfl, fun wx hx => by go_simp⟩) hS ?_
  refine wpAnyH_ready (rs := [6]) (by kernel_rfl) (by simp) (AllReadyH.cons rfl (fun Kc hK => ?_) AllReadyH.nil)
  go_simp
  refine hK.out _ _ trivial (fun hS => ?_)
  clear hK
  refine wpAnyH_ready (rs := [7]) (by kernel_rfl) (by simp) (AllReadyH.cons rfl (fun Kc hK => ?_) AllReadyH.nil)
  go_simp
  rw [HW5.out]
  refine t3.mono ?_
  rintro e w6 ⟨v6, rfl, hO6, hB6⟩
  have HO6 : Hid (OwnB w6 w5.heap.size v6 l) := ⟨by rw [← HPf.out]; exact hO6⟩
  have HB6 : Hid (Below w5.heap.size w5 w6) := ⟨hB6⟩
  clear hO6 hB6
  obtain ⟨a6, c6, e6⟩ := Oc.OwnB.slice HO6.out
  subst e6
  refine hK.out _ _ trivial (fun hS => ?_)
  clear hK
  refine wpAnyH_take (i := 8) (v := .slice a6 l.length c6) rfl (by kernel_rfl) (by kernel_rfl) (by kernel_rfl) (fun _ _ _ h => h) (Or.inl ⟨by kernel_rfl, fun _ _ => by kernel_rfl⟩) hS ?_
  refine wpAnyH_done (by kernel_rfl) ?_ _
  clear hS
  go_simp
  go_wp2_with fail
  go_ret
  exact ⟨_, rfl, Oc.OwnB.mono HO6.out (by have := HB1.out.size; have := HB5.out.size; omega), HB1.out.trans ((HB5.out.trans (HB6.out.mono HB5.out.size)).mono HB1.out.size)⟩
end
end Go.Proofs.YtgjjjkokmgdmjaaDoor
