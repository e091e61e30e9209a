/- look, Get, Set, Mark of a cell that is not ready. -/
import Derived.Test.YtgjjjkokmgdmjaaDoorS10
namespace Go.Proofs.YtgjjjkokmgdmjaaDoor
open Go.RowKit
/-- Two sectors of bytes 0. -/
def zz : List Int := List.replicate 256 0
theorem zz_len : zz.length = 256 := by unfold zz; rw [List.length_replicate]
set_option maxRecDepth 10000 in
theorem zz_arr : Dk.pa zz = Array.replicate 256 (.int .u8 0) := by
  unfold Dk.pa Dk.pc zz
  rw [List.map_replicate]
  apply Array.ext'
  simp
theorem zc60 : Tryd.zeroCells60 = Dk.pa zz := by rw [zz_arr]; kernel_rfl
theorem info60 : (Tryd.prog.info? 60).map (·.size) = some 256 := by kernel_rfl
theorem run_alloc60 (w : World) : (Instr.alloc 60 true (.tuple #[])).run Tryd.prog w = .ok (.pointer (some ⟨w.heap.size, 0, none⟩)) (w.alloc (.cells (Dk.pa zz) 60)) := by
  simp [Instr.alloc, newVar, newRow, Value.cells, zc60]
section
variable {w : World}
theorem wpl_alloc60 {ops : Array Oper} {rest : List Oper} {o : Oper} {a : Act} {Q : Exit → Act → World → Prop} (hg : o.guard = none) (ho : o.op = .alloc 60) (h : wpList Tryd.prog ops Q rest (a.put o.dst (.pointer (some ⟨w.heap.size, 0, none⟩))) (w.alloc (.cells (Dk.pa zz) 60))) : wpList Tryd.prog ops Q (o :: rest) a w :=
  wpList_plain hg fun _ hK => by
    unfold Oper.wp execOp
    simp only [ho, run_alloc60, Sem.run_bind, Result.andThen_ok]
    exact hK _ _ h
theorem results_row_tmp {P : Program} {fn : Func} {p u : Tmp} {ty : TypeId} (h : fn.results = #[.cell p ty, .tmp u]) (tmps : Array Value) (w : World) (g : Nat) (t : TypeId) (cs : Array Value) (fr : Nat × Nat) (d : TypeDesc)
    (hp : tmps.getD p undef = .pointer (some ⟨g, 0, none⟩)) (hg : w.heap[g]? = some (.cells cs t fr))
    (hu : P.underlying ty = some d) (hd : (match d with | .struct _ | .array _ _ => true | _ => false) = true) (hi : (P.info? ty).map (·.size) = some cs.size) :
    (results fn tmps).run P w = .ok (.tuple #[.agg cs, tmps.getD u undef]) w := by
  have hp' : tmps[p]?.getD undef = .pointer (some ⟨g, 0, none⟩) := by simpa using hp
  simp [results, h, hp', asAddr, run_loadVar_row w g t ty cs fr d hg hu hd hi]
set_option maxHeartbeats 4000000 in
set_option maxRecDepth 100000 in
theorem look_bad (v : Value) (er : Int) (her : er ≠ 0) (hT : ∀ w', Below w.heap.size w w' → Calls Tryd.prog 34 #[v] w' fun e w'' => e = .returned (.int .i64 er) ∧ Below w'.heap.size w' w'') :
    Calls Tryd.prog 21 #[v] w fun e w' => e = .returned (.tuple #[.agg (Dk.pa zz), .int .i64 er]) ∧ Below w.heap.size w w' := by
  have her2 : (er != 0) = true := by simpa using her
  have her3 : (er == 0) = false := by simpa using her
  obtain ⟨b, Hb⟩ : ∃ b, Hid (w.heap.size = b) := ⟨_, ⟨rfl⟩⟩
  obtain ⟨w1, Hw1⟩ : ∃ w1, Hid (w.alloc (.cells (Dk.pa zz) 60) = w1) := ⟨_, ⟨rfl⟩⟩
  have HR1 : Hid (w1.heap[b]? = some (.cells (Dk.pa zz) 60 (0, 0))) := ⟨by rw [← Hw1.out, ← Hb.out]; exact heap_alloc_new w _⟩
  have HB1 : Hid (Below w.heap.size w w1) := ⟨by rw [← Hw1.out]; exact (Below.refl _ w).alloc (Nat.le_refl _) _⟩
  have Hs1 : Hid (w1.heap.size = b + 1) := ⟨by rw [← Hw1.out, ← Hb.out]; simp⟩
  obtain ⟨s, Hs⟩ : ∃ s, Hid (w1.heap.size = s) := ⟨_, ⟨rfl⟩⟩
  obtain ⟨w2, Hw2⟩ : ∃ w2, Hid (w1.alloc (.cells (Dk.pa zz) 60) = w2) := ⟨_, ⟨rfl⟩⟩
  have HS2 : Hid (w2.heap[s]? = some (.cells (Dk.pa zz) 60 (0, 0))) := ⟨by rw [← Hw2.out, ← Hs.out]; exact heap_alloc_new w1 _⟩
  have HB12 : Hid (Below w1.heap.size w1 w2) := ⟨by rw [← Hw2.out]; exact (Below.refl _ w1).alloc (Nat.le_refl _) _⟩
  have HB2 : Hid (Below w.heap.size w w2) := ⟨HB1.out.trans (HB12.out.mono HB1.out.size)⟩
  have HR2 : Hid (w2.heap[b]? = some (.cells (Dk.pa zz) 60 (0, 0))) := ⟨(HB12.out.block b (Array.getElem?_eq_some_iff.1 HR1.out).1).trans HR1.out⟩
  have t1 := hT w2 HB2.out
  have hi60 : (Tryd.prog.info? 60).map (·.size) = some (Dk.pa zz).size := by rw [Dk.pa_size, zz_len]; exact info60
  clear hT
  go_enter Tryd.func21, Tryd.ntmps21
  go_upto_region 2 with (refine wpl_alloc60 rfl rfl ?_)
  rw [Hw1.out]
  first | rw [Hw2.out] | skip
  first | rw [Hb.out] | skip
  have es : b + 1 = s := by have := Hs1.out; have := Hs.out; omega
  first | rw [Hs.out] | rw [es]
  clear es
  go_wp2_with (first
    | (go_at_call 34; refine t1.mono ?_; rintro e w3 ⟨rfl, hB3⟩; have HB3 : Hid (Below w2.heap.size w2 w3) := ⟨hB3⟩; clear hB3 t1; have HS3 : Hid (w3.heap[s]? = some (.cells (Dk.pa zz) 60 (0, 0))) := ⟨(HB3.out.block s (Array.getElem?_eq_some_iff.1 HS2.out).1).trans HS2.out⟩; have HR3 : Hid (w3.heap[b]? = some (.cells (Dk.pa zz) 60 (0, 0))) := ⟨(HB3.out.block b (Array.getElem?_eq_some_iff.1 HR2.out).1).trans HR2.out⟩)
    | (refine wpList_load_row rfl 60 (.tmp 4) rfl s rfl 60 (Dk.pa zz) (0, 0) _ HS3.out Tryd.underlying60 rfl hi60 ?_)
    | (refine wpList_store_row rfl 60 (.tmp 2) (.tmp 13) rfl b (Dk.pa zz) rfl rfl 60 (Dk.pa zz) HR3.out hi60 rfl (Dk.pa_one _) ?_))
  refine bodyPost_ret (v := .tuple #[.agg (Dk.pa zz), .int .i64 er]) (results_row_tmp Tryd.results21 _ _ b 60 _ (0, 0) _ (by kernel_rfl) (setRow_heap _ _ _ _ 60 (0, 0) HR3.out) Tryd.underlying60 rfl hi60) rfl ⟨rfl, ?_⟩
  exact Dk.below_setRow' (HB2.out.trans (HB3.out.mono HB2.out.size)) (by rw [Hb.out]; exact Nat.le_refl _) _
set_option maxHeartbeats 4000000 in
set_option maxRecDepth 100000 in
theorem get_bad (v : Value) (er : Int) (her : er ≠ 0) (hT : ∀ w', Below w.heap.size w w' → Calls Tryd.prog 34 #[v] w' fun e w'' => e = .returned (.int .i64 er) ∧ Below w'.heap.size w' w'') :
    Calls Tryd.prog 16 #[v] w fun e w' => e = .returned (.tuple #[.slice none 0 0, .int .i64 er]) ∧ Below w.heap.size w w' := by
  have her2 : (er != 0) = true := by simpa using her
  have her3 : (er == 0) = false := by simpa using her
  have t1 := look_bad v er her hT
  have hi60 : (Tryd.prog.info? 60).map (·.size) = some (Dk.pa zz).size := by rw [Dk.pa_size, zz_len]; exact info60
  clear hT
  go_enter Tryd.func16, Tryd.ntmps16
  go_wp2_with (first
    | (go_at_call 21; refine t1.mono ?_; rintro e w3 ⟨rfl, hB3⟩; have HB3 : Hid (Below w.heap.size w w3) := ⟨hB3⟩; clear hB3 t1)
    | (refine wpl_alloc60 rfl rfl ?_; obtain ⟨b, Hb⟩ : ∃ b, Hid (w3.heap.size = b) := ⟨_, ⟨rfl⟩⟩; obtain ⟨w4, Hw4⟩ : ∃ w4, Hid (w3.alloc (.cells (Dk.pa zz) 60) = w4) := ⟨_, ⟨rfl⟩⟩; have HR4 : Hid (w4.heap[b]? = some (.cells (Dk.pa zz) 60 (0, 0))) := ⟨by rw [← Hw4.out, ← Hb.out]; exact heap_alloc_new w3 _⟩; have HB4 : Hid (Below w3.heap.size w3 w4) := ⟨by rw [← Hw4.out]; exact (Below.refl _ w3).alloc (Nat.le_refl _) _⟩; rw [Hw4.out, Hb.out])
    | (refine wpList_store_row rfl 60 (.tmp 4) (.tmp 11) rfl b (Dk.pa zz) rfl rfl 60 (Dk.pa zz) HR4.out hi60 rfl (Dk.pa_one _) ?_))
  go_ret2
  exact ⟨rfl, Dk.below_setRow' (HB3.out.trans (HB4.out.mono HB3.out.size)) (by rw [← Hb.out]; exact HB3.out.size) _⟩
set_option maxHeartbeats 4000000 in
set_option maxRecDepth 100000 in
theorem mark_bad (v : Value) (er : Int) (her : er ≠ 0) (hT : ∀ w', Below w.heap.size w w' → Calls Tryd.prog 34 #[v] w' fun e w'' => e = .returned (.int .i64 er) ∧ Below w'.heap.size w' w'') :
    Calls Tryd.prog 17 #[v] w fun e w' => e = .returned (.int .i64 0) ∧ Below w.heap.size w w' := by
  have her2 : (er != 0) = true := by simpa using her
  have her3 : (er == 0) = false := by simpa using her
  have t1 := look_bad v er her hT
  have hi60 : (Tryd.prog.info? 60).map (·.size) = some (Dk.pa zz).size := by rw [Dk.pa_size, zz_len]; exact info60
  clear hT
  go_enter Tryd.func17, Tryd.ntmps17
  go_wp2_with (first
    | (go_at_call 21; refine t1.mono ?_; rintro e w3 ⟨rfl, hB3⟩; have HB3 : Hid (Below w.heap.size w w3) := ⟨hB3⟩; clear hB3 t1)
    | (refine wpl_alloc60 rfl rfl ?_; obtain ⟨b, Hb⟩ : ∃ b, Hid (w3.heap.size = b) := ⟨_, ⟨rfl⟩⟩; obtain ⟨w4, Hw4⟩ : ∃ w4, Hid (w3.alloc (.cells (Dk.pa zz) 60) = w4) := ⟨_, ⟨rfl⟩⟩; have HR4 : Hid (w4.heap[b]? = some (.cells (Dk.pa zz) 60 (0, 0))) := ⟨by rw [← Hw4.out, ← Hb.out]; exact heap_alloc_new w3 _⟩; have HB4 : Hid (Below w3.heap.size w3 w4) := ⟨by rw [← Hw4.out]; exact (Below.refl _ w3).alloc (Nat.le_refl _) _⟩; rw [Hw4.out, Hb.out])
    | (refine wpList_store_row rfl 60 (.tmp 3) (.tmp 10) rfl b (Dk.pa zz) rfl rfl 60 (Dk.pa zz) HR4.out hi60 rfl (Dk.pa_one _) ?_))
  go_ret
  exact ⟨rfl, Dk.below_setRow' (HB3.out.trans (HB4.out.mono HB3.out.size)) (by rw [← Hb.out]; exact HB3.out.size) _⟩
set_option maxHeartbeats 4000000 in
set_option maxRecDepth 100000 in
theorem set_bad (v : Value) (u : Value) (er : Int) (her : er ≠ 0) (hT : ∀ w', Below w.heap.size w w' → Calls Tryd.prog 34 #[v] w' fun e w'' => e = .returned (.int .i64 er) ∧ Below w'.heap.size w' w'') :
    Calls Tryd.prog 8 #[v, u] w fun e w' => e = .returned (.int .i64 er) ∧ Below w.heap.size w w' := by
  have her2 : (er != 0) = true := by simpa using her
  have her3 : (er == 0) = false := by simpa using her
  have t1 := look_bad v er her hT
  have hi60 : (Tryd.prog.info? 60).map (·.size) = some (Dk.pa zz).size := by rw [Dk.pa_size, zz_len]; exact info60
  clear hT
  go_enter Tryd.func8, Tryd.ntmps8
  go_wp2_with (first
    | (go_at_call 21; refine t1.mono ?_; rintro e w3 ⟨rfl, hB3⟩; have HB3 : Hid (Below w.heap.size w w3) := ⟨hB3⟩; clear hB3 t1)
    | (refine wpl_alloc60 rfl rfl ?_; obtain ⟨b, Hb⟩ : ∃ b, Hid (w3.heap.size = b) := ⟨_, ⟨rfl⟩⟩; obtain ⟨w4, Hw4⟩ : ∃ w4, Hid (w3.alloc (.cells (Dk.pa zz) 60) = w4) := ⟨_, ⟨rfl⟩⟩; have HR4 : Hid (w4.heap[b]? = some (.cells (Dk.pa zz) 60 (0, 0))) := ⟨by rw [← Hw4.out, ← Hb.out]; exact heap_alloc_new w3 _⟩; have HB4 : Hid (Below w3.heap.size w3 w4) := ⟨by rw [← Hw4.out]; exact (Below.refl _ w3).alloc (Nat.le_refl _) _⟩; rw [Hw4.out, Hb.out])
    | (refine wpList_store_row rfl 60 (.tmp 5) (.tmp 13) rfl b (Dk.pa zz) rfl rfl 60 (Dk.pa zz) HR4.out hi60 rfl (Dk.pa_one _) ?_))
  go_ret
  exact ⟨rfl, Dk.below_setRow' (HB3.out.trans (HB4.out.mono HB3.out.size)) (by rw [← Hb.out]; exact HB3.out.size) _⟩
end
end Go.Proofs.YtgjjjkokmgdmjaaDoor
