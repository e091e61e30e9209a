/- A page as a variable; package disk's filled. -/
import Derived.Test.YtmcikhdfpmkpnaaD2
import Derived.Laws.CopyOwn
import Derived.Laws.ResultCell
import Derived.ProofKit
namespace Go.Proofs.Ytmcikhdfpmkpnaa
open Go.RowKit Go.Maps Go.Sort Go.Shelf

def pa (l : List Int) : Array Value := (pc l).toArray
theorem pa_size (l : List Int) : (pa l).size = l.length := by simp [pa, pc]
theorem pa_one (l : List Int) : (pa l).all (·.oneCell') = true := by
  unfold pa
  rw [List.all_toArray, List.all_eq_true]
  exact pc_one l
theorem zp_arr : pa zp = Array.replicate 128 (.int .u8 0) := by
  unfold pa pc zp
  rw [List.map_replicate]
  apply Array.ext'
  simp
theorem info68 : (Try.prog.info? 68).map (·.size) = some 128 := by kernel_rfl
theorem info5 : (Try.prog.info? 5).map (·.size) = some 1 := by kernel_rfl
theorem zc68 : Try.zeroCells68 = pa zp := by rw [zp_arr]; kernel_rfl
theorem run_alloc68 (w : World) : (Instr.alloc 68 true (.tuple #[])).run Try.prog w = .ok (.pointer (some ⟨w.heap.size, 0, none⟩)) (w.alloc (.cells (pa zp) 68)) := by
  simp [Instr.alloc, newVar, newRow, Value.cells, zc68]
theorem run_box68 (w : World) (l : List Int) : (Instr.box 68 (pv l)).run Try.prog w = .ok (.pointer (some ⟨w.heap.size, 0, none⟩)) (w.alloc (.cells (pa l) 68)) := by
  simp [Instr.box, newVar, newRow, Value.cells, pv, pa]

section
variable {ops : Array Oper} {rest : List Oper} {o : Oper} {a : Act} {w : World} {Q : Exit → Act → World → Prop}
theorem wpl_alloc68 (hg : o.guard = none) (ho : o.op = .alloc 68) (h : wpList Try.prog ops Q rest (a.put o.dst (.pointer (some ⟨w.heap.size, 0, none⟩))) (w.alloc (.cells (pa zp) 68))) : wpList Try.prog ops Q (o :: rest) a w :=
  wpList_plain hg fun _ hK => by
    unfold Oper.wp execOp
    simp only [ho, run_alloc68, Sem.run_bind, Result.andThen_ok]
    exact hK _ _ h
theorem wpl_box68 (hg : o.guard = none) (x : Operand) (l : List Int) (ho : o.op = .box 68 x) (hx : a.eval x = pv l) (h : wpList Try.prog ops Q rest (a.put o.dst (.pointer (some ⟨w.heap.size, 0, none⟩))) (w.alloc (.cells (pa l) 68))) : wpList Try.prog ops Q (o :: rest) a w :=
  wpList_plain hg fun _ hK => by
    unfold Oper.wp execOp
    simp only [ho, hx, run_box68, Sem.run_bind, Result.andThen_ok]
    exact hK _ _ h
end

theorem below_setRow' {B : Nat} {w0 w : World} (h : Below B w0 w) {g : Nat} (hg : B ≤ g) (cs : Array Value) : Below B w0 (w.setRow g cs) :=
  h.trans ⟨rfl, rfl, rfl, by simp, fun k hk => setRow_other w g k cs (by omega)⟩

/-- The variable at block g holds the page l. -/
def Var (w : World) (g : Nat) (l : List Int) : Prop := w.heap[g]? = some (.cells (pa l) 68 (0, 0))
theorem Var.new (w : World) (l : List Int) : Var (w.alloc (.cells (pa l) 68)) w.heap.size l := heap_alloc_new w _
theorem Var.lt {w : World} {g : Nat} {l : List Int} (h : Var w g l) : g < w.heap.size := (Array.getElem?_eq_some_iff.1 h).1
theorem Var.alloc {w : World} {g : Nat} {l : List Int} (h : Var w g l) (o : Obj) : Var (w.alloc o) g l := (heap_alloc_old w o g h.lt).trans h
theorem Var.below {w w' : World} {g : Nat} {l : List Int} (h : Var w g l) (hb : Below w.heap.size w w') : Var w' g l := (hb.block g h.lt).trans h

/-- A slice of bytes that reads b. -/
def Bs (w : World) (v : Value) (bs : List Int) : Prop :=
  ∃ a cap, v = .slice a bs.length cap ∧ bs.length ≤ cap ∧ cap ≤ maxLen ∧ (a = none → cap = 0) ∧ (∀ x, a = some x → ∀ i, i < bs.length → w.cell? (x.add i) = some (.int .u8 (bs.getD i 0))) ∧ Byt bs
theorem Bs.below {w w' : World} {v : Value} {bs : List Int} (h : Bs w v bs) (hb : Below w.heap.size w w') : Bs w' v bs := by
  obtain ⟨a, cap, rfl, hl, hm, hn, hc, hy⟩ := h
  exact ⟨a, cap, rfl, hl, hm, hn, fun x hx i hi => (hb.cell (World.block_lt_of_cell? _ _ (hc x hx i hi))).trans (hc x hx i hi), hy⟩

theorem copy_fil (b : List Int) : ((pa zp).toList.take 0 ++ pc b ++ (pa zp).toList.drop (0 + (pc b).length)).toArray = pa (fil b) := by
  have e : (pa zp).toList = List.replicate 128 (.int .u8 0) := by unfold pa pc zp; rw [List.map_replicate]
  rw [e, List.drop_replicate, List.take_zero, List.nil_append, Nat.zero_add, pc_length]
  unfold pa fil
  congr 1
  unfold pc
  rw [List.map_append, List.map_replicate]

set_option maxHeartbeats 1000000 in
set_option maxRecDepth 100000 in
theorem filled_any (v : Value) (b : List Int) (w : World) (h : Bs w v b) (hb : b.length ≤ 128) : Calls Try.prog 37 #[v] w fun e w' => e = .returned (pv (fil b)) ∧ Below w.heap.size w w' := by
  have h' := h.below (w' := (w.alloc (.cells (pa zp) 68)).alloc (.cells (pa zp) 68)) (((Below.refl _ w).alloc (Nat.le_refl _) _).alloc (by simp) _)
  obtain ⟨a, cap, rfl, hl, hm, hn, hc, hy⟩ := h'
  have HL : Hid (b.length ≤ 128) := ⟨hb⟩
  have hv1 : ((w.alloc (.cells (pa zp) 68)).alloc (.cells (pa zp) 68)).heap[w.heap.size + 1]? = some (.cells (pa zp) 68 (0, 0)) := by
    have := heap_alloc_new (w.alloc (.cells (pa zp) 68)) (.cells (pa zp) 68)
    rw [show (w.alloc (.cells (pa zp) 68)).heap.size = w.heap.size + 1 by simp] at this
    exact this
  have hcopy : (Builtin.copy_ #[37, 37] 3 #[.slice (some ⟨w.heap.size + 1, 0, none⟩) 128 128, .slice a b.length cap]).run Try.prog ((w.alloc (.cells (pa zp) 68)).alloc (.cells (pa zp) 68)) = .ok (goInt b.length) (((w.alloc (.cells (pa zp) 68)).alloc (.cells (pa zp) 68)).setRow (w.heap.size + 1) (pa (fil b))) := by
    cases a with
    | none =>
      have := hn rfl
      subst this
      have hb0 : b = [] := List.length_eq_zero_iff.1 (by omega)
      subst hb0
      have e : pa (fil []) = pa zp := rfl
      rw [e, setRow_self _ _ _ 68 (0, 0) hv1]
      exact run_copy_nil Try.prog _ 37 37 3 5 _ 128 128 Try.underlying37 (by rw [info5]; rfl)
    | some x =>
      have := run_copy_row (P := Try.prog) ((w.alloc (.cells (pa zp) 68)).alloc (.cells (pa zp) 68)) 37 37 3 5 (w.heap.size + 1) 0 128 128 x b.length cap (pa zp) 68 (pc b) Try.underlying37 info5 hv1 (by rw [pc_length]; exact (Nat.min_eq_left hb).symm) (fun j u hj => by
        have hjl : j < b.length := by
          rcases Nat.lt_or_ge j b.length with q | q
          · exact q
          · rw [List.getElem?_eq_none (by rw [pc_length]; exact q)] at hj; cases hj
        rw [hc x rfl j hjl]
        simp [pc, List.getElem?_eq_getElem hjl] at hj
        subst hj
        simp [List.getD, List.getElem?_eq_getElem hjl]) (by rw [pa_size, pc_length]; simp [zp]; omega) (pc_one b)
      rw [copy_fil b, pc_length] at this
      exact this
  obtain ⟨w1, HW1⟩ : ∃ w1, Hid ((w.alloc (.cells Try.zeroCells68 68)).alloc (.cells Try.zeroCells68 68) = w1) := ⟨_, ⟨rfl⟩⟩
  rw [← zc68, HW1.out] at hcopy hv1
  have hx1 : (w1.setRow (w.heap.size + 1) (pa (fil b))).heap[w.heap.size + 1]? = some (.cells (pa (fil b)) 68 (0, 0)) := setRow_heap w1 _ _ _ 68 (0, 0) hv1
  have hx0 : (w1.setRow (w.heap.size + 1) (pa (fil b))).heap[w.heap.size]? = some (.cells Try.zeroCells68 68 (0, 0)) := by
    rw [setRow_other _ _ _ _ (by omega), ← HW1.out, heap_alloc_old _ _ _ (by simp)]
    exact heap_alloc_new w _
  have hfl : (fil b).length = 128 := by unfold fil; simp; omega
  have hpl : (Try.prog.info? 68).map (·.size) = some (pa (fil b)).size := by rw [pa_size, hfl]; exact info68
  have hbel : Below w.heap.size w w1 := by rw [← HW1.out]; exact ((Below.refl _ w).alloc (Nat.le_refl _) _).alloc (by simp) _
  clear hc hn hl h
  go_enter Try.func37, Try.ntmps37
  go_wp2
  rw [HW1.out, hcopy]
  simp only [Result.andThen]
  rw [Oper.upon_value]
  generalize hw2 : w1.setRow (w.heap.size + 1) (pa (fil b)) = w2 at hx1 hx0
  have HW2 : Hid (w1.setRow (w.heap.size + 1) (pa (fil b)) = w2) := ⟨hw2⟩
  clear hw2 hcopy
  go_wp2_with (first
    | (refine wpList_load_row rfl 68 (.tmp 3) rfl (w.heap.size + 1) rfl 68 (pa (fil b)) (0, 0) _ hx1 Try.underlying68 rfl hpl ?_)
    | (refine wpList_store_row rfl 68 (.tmp 2) (.tmp 7) rfl w.heap.size (pa (fil b)) rfl rfl 68 Try.zeroCells68 hx0 hpl (by rw [zc68, pa_size, pa_size, hfl]; rfl) (pa_one _) ?_))
  have hx2 := setRow_heap w2 w.heap.size _ (pa (fil b)) 68 (0, 0) hx0
  refine bodyPost_ret (v := .agg (pa (fil b))) (results_cell_row (p := 2) Try.results37 _ _ w.heap.size 68 _ (0, 0) (.array 128 5) (by kernel_rfl) hx2 Try.underlying68 rfl hpl) rfl ⟨rfl, ?_⟩
  rw [← HW2.out]
  exact below_setRow' (below_setRow' hbel (by omega) _) (Nat.le_refl _) _
end Go.Proofs.Ytmcikhdfpmkpnaa
