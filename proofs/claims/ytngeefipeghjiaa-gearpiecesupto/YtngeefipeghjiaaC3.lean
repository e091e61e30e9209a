/- Package gear's New, of bounds that may be. -/
import Derived.Test.YtngeefipeghjiaaC2
namespace Go.Proofs.Ytngeefipeghjiaa
open Go.RowKit

theorem quo_av {av : Int} (h : av = 1 ∨ av = 2 ∨ av = 4 ∨ av = 8 ∨ av = 16 ∨ av = 32 ∨ av = 64 ∨ av = 128 ∨ av = 256) : 1 ≤ av ∧ av ≤ 256 ∧ 16777216 ≤ 4294967296 / av ∧ 4294967296 / av ≤ 4294967296 := by
  rcases h with h | h | h | h | h | h | h | h | h <;> subst h <;> omega
theorem yld_load {ρ : Operand → Value} {o : Oper} {x : Operand} {t : TypeId} {ad : Addr} {v : Value} {wx : World} (ho : o.op = .load t x) (hx : ρ x = .pointer (some ad)) (hl : (loadVar t ad).run Try.prog wx = .ok v wx) : (execOp ρ o).run Try.prog wx = .ok (.value v) wx := by
  unfold execOp
  simp only [ho, hx, Instr.loadAt, Instr.sureAddr, Sem.run_bind, Sem.run_pure, Result.andThen_ok, hl]
theorem yld_build {ρ : Operand → Value} {o : Oper} {t : TypeId} {ps : Array (Nat × Operand)} {vs : Array (Nat × Value)} {v : Value} {wx : World} (ho : o.op = .build t ps) (hx : (ps.map fun (i, x) => (i, ρ x)) = vs) (hl : (Instr.build t vs).run Try.prog wx = .ok v wx) : (execOp ρ o).run Try.prog wx = .ok (.value v) wx := by
  unfold execOp
  simp only [ho, hx, Sem.run_bind, Sem.run_pure, Result.andThen_ok, hl]
set_option maxHeartbeats 1000000 in
set_option maxRecDepth 100000 in
theorem new_any {mn av mx : Int} (h : okC mn av mx) (ta : Array Value) (T : Nat → Int) (hT : Tab ta T) (w : World) : Calls Try.prog 18 #[.agg #[.int .i64 mn, .int .i64 av, .int .i64 mx], .agg ta] w fun e w' => ∃ p cs, e = .returned (.tuple #[.pointer (some ⟨p, 0, none⟩), .int .i64 0]) ∧ w.heap.size ≤ p ∧ CutAt w' p 0 mn mx (4294967296 / av) T cs (.slice none 0 0) [] 0 false ∧ Below w.heap.size w w' := by
  obtain ⟨w1, HW1⟩ : ∃ w1, Hid ((w.alloc (.cells #[.int .i64 mn, .int .i64 av, .int .i64 mx] 24)).alloc (.cells ta 27) = w1) := ⟨_, ⟨rfl⟩⟩
  have Hb : Hid (Below w.heap.size w w1) := ⟨by rw [← HW1.out]; exact ((Below.refl _ w).alloc (Nat.le_refl _) _).alloc (by simp) _⟩
  have t := check_any mn av mx w1
  rw [chk_ok h] at t
  have hx : w1.heap[w.heap.size]? = some (.cells #[.int .i64 mn, .int .i64 av, .int .i64 mx] 24 (0, 0)) := by
    rw [← HW1.out, Below.heap_alloc _ _ _ (by simp)]; exact heap_alloc_new w _
  have hx1 : w1.heap[w.heap.size + 1]? = some (.cells ta 27 (0, 0)) := by
    rw [← HW1.out]
    have := heap_alloc_new (w.alloc (.cells #[.int .i64 mn, .int .i64 av, .int .i64 mx] 24)) (.cells ta 27)
    rw [show (w.alloc (.cells #[.int .i64 mn, .int .i64 av, .int .i64 mx] 24)).heap.size = w.heap.size + 1 by simp] at this
    exact this
  have hsz : w1.heap.size = w.heap.size + 2 := by rw [← HW1.out]; simp
  have c0 : w1.cell? ⟨w.heap.size, 0, none⟩ = some (.int .i64 mn) := by rw [cell_of_row _ _ _ _ _ _ hx]; rfl
  have c1 : w1.cell? ⟨w.heap.size, 1, none⟩ = some (.int .i64 av) := by rw [cell_of_row _ _ _ _ _ _ hx]; rfl
  have c2 : w1.cell? ⟨w.heap.size, 2, none⟩ = some (.int .i64 mx) := by rw [cell_of_row _ _ _ _ _ _ hx]; rfl
  have HX : Hid (w1.heap[w.heap.size]? = some (.cells #[.int .i64 mn, .int .i64 av, .int .i64 mx] 24 (0, 0)) ∧ w1.heap[w.heap.size + 1]? = some (.cells ta 27 (0, 0)) ∧ w1.heap.size = w.heap.size + 2) := ⟨hx, hx1, hsz⟩
  have HT : Hid (Tab ta T) := ⟨hT⟩
  have hq := quo_av h.2.2.2
  clear hx hx1 hsz hT
  go_enter Try.func18, Try.ntmps18
  go_wp2_with (refine wpl_box27 rfl (.tmp 1) ta rfl rfl ?_)
  rw [HW1.out]
  go_wp2_with (go_at_call 12; refine t.mono ?_; rintro e w2 ⟨rfl, hw⟩)
  obtain ⟨B, HBB⟩ : ∃ B, Hid (w.heap.size = B) := ⟨_, ⟨rfl⟩⟩
  have HW : Hid (Below w1.heap.size w1 w2) := ⟨hw⟩
  clear t hw c0 c1 c2
  rw [HBB.out] at HX ⊢
  have hy : w2.heap[B]? = some (.cells #[.int .i64 mn, .int .i64 av, .int .i64 mx] 24 (0, 0)) := (HW.out.block _ (by rw [HX.out.2.2]; omega)).trans HX.out.1
  have hy1 : w2.heap[B + 1]? = some (.cells ta 27 (0, 0)) := (HW.out.block _ (by rw [HX.out.2.2]; omega)).trans HX.out.2.1
  have hpl : (Try.prog.info? 27).map (·.size) = some ta.size := by rw [HT.out.1]; exact info27
  have hS0 : w2.drew.cell? ⟨B, 0, none⟩ = some (.int .i64 mn) ∧ w2.drew.cell? ⟨B, 1, none⟩ = some (.int .i64 av) ∧ w2.drew.cell? ⟨B, 2, none⟩ = some (.int .i64 mx) ∧ (loadVar 27 ⟨B + 1, 0, none⟩).run Try.prog w2.drew = .ok (.agg ta) w2.drew := by
    have hy' : w2.drew.heap[B]? = some (.cells #[.int .i64 mn, .int .i64 av, .int .i64 mx] 24 (0, 0)) := hy
    refine ⟨?_, ?_, ?_, run_loadVar_row w2.drew (B + 1) 27 27 ta (0, 0) (.array 256 26) hy1 Try.underlying27 rfl hpl⟩
    · rw [cell_of_row _ _ _ _ _ _ hy']; rfl
    · rw [cell_of_row _ _ _ _ _ _ hy']; rfl
    · rw [cell_of_row _ _ _ _ _ _ hy']; rfl
  obtain ⟨lo, Hlo⟩ : ∃ lo, Hid (4294967296 / av = lo) := ⟨_, ⟨rfl⟩⟩
  have hlo : (4294967296 : Int) / av = lo := Hlo.out
  have hwa : IntKind.u64.wrap av = av := by rw [wrap_u64]; omega
  have hne : ¬ av = 0 := by omega
  have hdv : IntKind.u64.wrap (Int.tdiv 4294967296 av) = lo := by
    rw [Int.tdiv_eq_ediv_of_nonneg (by omega), hlo, wrap_u64]; omega
  have hbd : ∀ wx, (Instr.build 55 #[(0, .int .i64 mn), (1, .int .i64 mx), (2, .int .u64 lo), (3, .agg ta)]).run Try.prog wx = .ok (.agg (cutCs mn mx lo ta)) wx := fun wx => run_build55 wx mn mx lo ta HT.out.1
  have hbx : ∀ wx, (Instr.box 55 (.agg (cutCs mn mx lo ta))).run Try.prog wx = .ok (.pointer (some ⟨wx.heap.size, 0, none⟩)) (wx.alloc (.cells (cutCs mn mx lo ta) 55)) := fun wx => run_box55 wx _
  have hB2 : B + 2 ≤ w2.heap.size := by rw [← HX.out.2.2]; exact HW.out.size
  have hbl : Below w2.heap.size w2.drew (w2.drew.alloc (.cells (cutCs mn mx lo ta) 55)) := (Below.refl _ w2.drew).alloc (Nat.le_refl _) _
  have hS1 : (w2.drew.alloc (.cells (cutCs mn mx lo ta) 55)).cell? ⟨B, 0, none⟩ = some (.int .i64 mn) ∧ (w2.drew.alloc (.cells (cutCs mn mx lo ta) 55)).cell? ⟨B, 1, none⟩ = some (.int .i64 av) ∧ (w2.drew.alloc (.cells (cutCs mn mx lo ta) 55)).cell? ⟨B, 2, none⟩ = some (.int .i64 mx) ∧ (loadVar 27 ⟨B + 1, 0, none⟩).run Try.prog (w2.drew.alloc (.cells (cutCs mn mx lo ta) 55)) = .ok (.agg ta) (w2.drew.alloc (.cells (cutCs mn mx lo ta) 55)) := by
    refine ⟨(hbl.cell (p := ⟨B, 0, none⟩) (by show B < w2.heap.size; omega)).trans hS0.1, (hbl.cell (p := ⟨B, 1, none⟩) (by show B < w2.heap.size; omega)).trans hS0.2.1, (hbl.cell (p := ⟨B, 2, none⟩) (by show B < w2.heap.size; omega)).trans hS0.2.2.1, run_loadVar_row _ (B + 1) 27 27 ta (0, 0) (.array 256 26) ((hbl.block _ (by omega)).trans hy1) Try.underlying27 rfl hpl⟩
  have HR : Hid (CutAt (w2.drew.alloc (.cells (cutCs mn mx lo ta) 55)) w2.heap.size 0 mn mx lo T (cutCs mn mx lo ta) (.slice none 0 0) [] 0 false ∧ Below B w (w2.drew.alloc (.cells (cutCs mn mx lo ta) 55))) := ⟨cutCs_at mn mx lo HT.out w2.drew, by
    rw [HBB.out] at Hb
    exact (Hb.out.trans (HW.out.mono (by rw [HX.out.2.2]; omega))).drew.alloc (by show B ≤ w2.heap.size; omega) _⟩
  clear hy hy1 hbl
  refine wp_region_held_drew (S := (fun w' => w'.cell? ⟨B, 0, none⟩ = some (.int .i64 mn) ∧ w'.cell? ⟨B, 1, none⟩ = some (.int .i64 av) ∧ w'.cell? ⟨B, 2, none⟩ = some (.int .i64 mx) ∧ (loadVar 27 ⟨B + 1, 0, none⟩).run Try.prog w' = .ok (.agg ta) w')) (by kernel_rfl) hS0 (fun hS => ?_)
  refine wpAnyH_take (i := 0) (v := .pointer (some ⟨B, 0, none⟩)) rfl (by kernel_rfl) (by kernel_rfl) (by kernel_rfl) (fun _ _ _ h => h) (Or.inl ⟨by kernel_rfl, fun wx hx => by go_simp⟩) hS ?_
  refine wpAnyH_take (i := 1) (v := .int .i64 mn) rfl (by kernel_rfl) (by kernel_rfl) (by kernel_rfl) (fun _ _ _ h => h) (Or.inl ⟨by kernel_rfl, fun wx hx => by obtain ⟨hx0, hx1, hx2, hx3⟩ := hx; go_simp⟩) hS ?_
  refine wpAnyH_take (i := 2) (v := .pointer (some ⟨B, 2, none⟩)) rfl (by kernel_rfl) (by kernel_rfl) (by kernel_rfl) (fun _ _ _ h => h) (Or.inl ⟨by kernel_rfl, fun wx hx => by go_simp⟩) hS ?_
  refine wpAnyH_take (i := 3) (v := .int .i64 mx) rfl (by kernel_rfl) (by kernel_rfl) (by kernel_rfl) (fun _ _ _ h => h) (Or.inl ⟨by kernel_rfl, fun wx hx => by obtain ⟨hx0, hx1, hx2, hx3⟩ := hx; go_simp⟩) hS ?_
  refine wpAnyH_take (i := 4) (v := .pointer (some ⟨B, 1, none⟩)) rfl (by kernel_rfl) (by kernel_rfl) (by kernel_rfl) (fun _ _ _ h => h) (Or.inl ⟨by kernel_rfl, fun wx hx => by go_simp⟩) hS ?_
  refine wpAnyH_take (i := 5) (v := .int .i64 av) rfl (by kernel_rfl) (by kernel_rfl) (by kernel_rfl) (fun _ _ _ h => h) (Or.inl ⟨by kernel_rfl, fun wx hx => by obtain ⟨hx0, hx1, hx2, hx3⟩ := hx; go_simp⟩) hS ?_
  refine wpAnyH_take (i := 6) (v := .int .u64 av) rfl (by kernel_rfl) (by kernel_rfl) (by kernel_rfl) (fun _ _ _ h => h) (Or.inl ⟨by kernel_rfl, fun wx hx => by go_simp⟩) hS ?_
  refine wpAnyH_take (i := 7) (v := .int .u64 lo) rfl (by kernel_rfl) (by kernel_rfl) (by kernel_rfl) (fun _ _ _ h => h) (Or.inl ⟨by kernel_rfl, fun wx hx => by go_simp⟩) hS ?_
  refine wpAnyH_take (i := 8) (v := .agg ta) rfl (by kernel_rfl) (by kernel_rfl) (by kernel_rfl) (fun _ _ _ h => h) (Or.inl ⟨by kernel_rfl, fun wx hx => yld_load (x := .tmp 3) rfl (by kernel_rfl) hx.2.2.2⟩) hS ?_
  refine wpAnyH_take (i := 9) (v := .agg (cutCs mn mx lo ta)) rfl (by kernel_rfl) (by kernel_rfl) (by kernel_rfl) (fun _ _ _ h => h) (Or.inl ⟨by kernel_rfl, fun wx hx => yld_build (ps := #[(0, .tmp 13), (1, .tmp 15), (2, .tmp 19), (3, .tmp 20)]) (vs := #[(0, .int .i64 mn), (1, .int .i64 mx), (2, .int .u64 lo), (3, .agg ta)]) rfl (by kernel_rfl) (hbd wx)⟩) hS ?_
  refine wpAnyH_ready (rs := [10]) (by kernel_rfl) (by simp) (AllReadyH.cons rfl (fun Kc hK => ?_) AllReadyH.nil)
  go_simp
  refine hK.out _ _ hS1 (fun hS => ?_)
  refine wpAnyH_take (i := 11) (v := .pointer (some ⟨w2.heap.size, 0, none⟩)) rfl (by kernel_rfl) (by kernel_rfl) (by kernel_rfl) (fun _ _ _ h => h) (Or.inl ⟨by kernel_rfl, fun _ _ => by kernel_rfl⟩) hS ?_
  refine wpAnyH_take (i := 12) (v := .int .i64 0) rfl (by kernel_rfl) (by kernel_rfl) (by kernel_rfl) (fun _ _ _ h => h) (Or.inl ⟨by kernel_rfl, fun _ _ => by kernel_rfl⟩) hS ?_
  refine wpAnyH_done (by kernel_rfl) ?_ _
  clear hS hS0 hS1
  go_simp
  go_wp2
  go_ret2
  exact ⟨w2.heap.size, _, rfl, by have := HBB.out; omega, by rw [Hlo.out]; exact HR.out.1, by rw [HBB.out]; exact HR.out.2⟩
end Go.Proofs.Ytngeefipeghjiaa
