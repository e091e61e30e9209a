/- Four bytes at a place: fourAt. -/
import Derived.Laws.CopyRow
import Derived.Test.YtoneepoaodoijaaP4
namespace Go.Proofs.Ytoneepoaodoijaa
open Go.RowKit Go.Lib Go.Shelf Oct

/-- Four bytes as a value. -/
def fov (a b c d : Int) : Value := .agg #[.int .u8 a, .int .u8 b, .int .u8 c, .int .u8 d]
section
variable {w : World}
set_option maxHeartbeats 4000000 in
set_option maxRecDepth 100000 in
theorem four32 (v : Value) (p : List Int) (at' : Nat) (hv : RdY w v p) (h4 : at' + 4 ≤ p.length) (_hp : p.length ≤ 8192) :
    Calls Try.prog 32 #[v, .int .i64 at'] w fun e w' => e = .returned (fov (p.getD at' 0) (p.getD (at' + 1) 0) (p.getD (at' + 2) 0) (p.getD (at' + 3) 0)) ∧ Below w.heap.size w w' := by
  obtain ⟨g, off, cap, rfl, hcap, hat⟩ := hv.at (i := at') (by omega)
  have c0 := hat at' (by omega)
  have c1 := hat (at' + 1) (by omega)
  have c2 := hat (at' + 2) (by omega)
  have c3 := hat (at' + 3) (by omega)
  have hgl := World.block_lt_of_cell? _ _ c0
  simp only at hgl
  generalize p.getD at' 0 = y0 at *
  generalize p.getD (at' + 1) 0 = y1 at *
  generalize p.getD (at' + 2) 0 = y2 at *
  generalize p.getD (at' + 3) 0 = y3 at *
  obtain ⟨n, Hn⟩ : ∃ n, Hid (p.length = n) := ⟨_, ⟨rfl⟩⟩
  rw [Hn.out] at h4 _hp hcap ⊢
  clear hv hat
  have hz : (at' : Int) ≤ (n : Int) := by omega
  have hvj : ¬ cap = at' := by omega
  obtain ⟨w2, Hw2⟩ : ∃ x, Hid ((w.alloc (.cells #[.int .u8 0, .int .u8 0, .int .u8 0, .int .u8 0] 64)).alloc (.cells #[.int .u8 0, .int .u8 0, .int .u8 0, .int .u8 0] 64) = x) := ⟨_, ⟨rfl⟩⟩
  have HB2 : Hid (Below w.heap.size w w2) := ⟨by rw [← Hw2.out]; exact ((Below.refl _ w).alloc (Nat.le_refl _) _).alloc (by simp) _⟩
  have HX1 : Hid (w2.heap[w.heap.size]? = some (.cells #[.int .u8 0, .int .u8 0, .int .u8 0, .int .u8 0] 64 (0, 0))) := ⟨by rw [← Hw2.out]; exact stay_alloc _ (new_alloc _ rfl)⟩
  have HX2 : Hid (w2.heap[w.heap.size + 1]? = some (.cells #[.int .u8 0, .int .u8 0, .int .u8 0, .int .u8 0] 64 (0, 0))) := ⟨by rw [← Hw2.out]; exact new_alloc _ (by simp)⟩
  have e0 := (HB2.out.cell (p := ⟨g, off + at', none⟩) hgl).trans c0
  have e1 := (HB2.out.cell (p := ⟨g, off + (at' + 1), none⟩) hgl).trans c1
  have e2 := (HB2.out.cell (p := ⟨g, off + (at' + 2), none⟩) hgl).trans c2
  have e3 := (HB2.out.cell (p := ⟨g, off + (at' + 3), none⟩) hgl).trans c3
  have hcp := fun ty : TypeId => run_copy_row (P := Try.prog) w2.drew 22 22 ty 5 (w.heap.size + 1) 0 4 4 ⟨g, off + at', none⟩ (n - at') (cap - at') #[.int .u8 0, .int .u8 0, .int .u8 0, .int .u8 0] 64 [.int .u8 y0, .int .u8 y1, .int .u8 y2, .int .u8 y3] Try.underlying22 (by kernel_rfl) HX2.out (by show (4 : Nat) = min (n - at') 4; omega) (fun j u hj => by
    rw [add_add]
    match j, hj with
    | 0, hj => simp at hj; subst hj; exact e0
    | 1, hj => simp at hj; subst hj; rw [Nat.add_assoc]; exact e1
    | 2, hj => simp at hj; subst hj; rw [Nat.add_assoc]; exact e2
    | 3, hj => simp at hj; subst hj; rw [Nat.add_assoc]; exact e3) (by simp) (fun u hu => by simp at hu; rcases hu with rfl | rfl | rfl | rfl <;> rfl)
  simp only [List.length_cons, List.length_nil, List.take_zero, List.nil_append, Nat.zero_add, List.drop_succ_cons, List.drop_zero, List.append_nil] at hcp
  go_enter Try.func32, Try.ntmps32
  go_upto_region 2 with fail
  rw [Hw2.out]
  go_region
  obtain ⟨w3, Hw3⟩ : ∃ x, Hid (w2.drew.setRow (w.heap.size + 1) #[.int .u8 y0, .int .u8 y1, .int .u8 y2, .int .u8 y3] = x) := ⟨_, ⟨rfl⟩⟩
  obtain ⟨q, Hq⟩ : ∃ q, Hid (w.heap.size = q) := ⟨_, ⟨rfl⟩⟩
  have HC3 : Hid (Chg [q + 1] w2 w3) := ⟨by rw [← Hw3.out, Hq.out]; exact ⟨rfl, rfl, rfl, by simp [heap_drew], fun k _ hx => setRow_other w2.drew (q + 1) k _ (by simpa using hx)⟩⟩
  have HY2 : Hid (w3.heap[q + 1]? = some (.cells #[.int .u8 y0, .int .u8 y1, .int .u8 y2, .int .u8 y3] 64 (0, 0))) := ⟨by rw [← Hw3.out, Hq.out]; exact setRow_heap w2.drew (q + 1) _ _ 64 _ (by have h := HX2.out; rw [Hq.out] at h; exact h)⟩
  have HY1 : Hid (w3.heap[q]? = some (.cells #[.int .u8 0, .int .u8 0, .int .u8 0, .int .u8 0] 64 (0, 0))) := ⟨by
    have h := HX1.out
    rw [Hq.out] at h
    exact (HC3.out.block q (Array.getElem?_eq_some_iff.1 h).1 (by simp)).trans h⟩
  rw [Hw3.out, Hq.out]
  have d0 : w3.cell? ⟨q + 1, 0, none⟩ = some (.int .u8 y0) := by rw [cell_of_row _ _ _ _ _ _ HY2.out]; rfl
  have d1 : w3.cell? ⟨q + 1, 1, none⟩ = some (.int .u8 y1) := by rw [cell_of_row _ _ _ _ _ _ HY2.out]; rfl
  have d2 : w3.cell? ⟨q + 1, 2, none⟩ = some (.int .u8 y2) := by rw [cell_of_row _ _ _ _ _ _ HY2.out]; rfl
  have d3 : w3.cell? ⟨q + 1, 3, none⟩ = some (.int .u8 y3) := by rw [cell_of_row _ _ _ _ _ _ HY2.out]; rfl
  have r0 : w3.cell? ⟨q, 0, none⟩ = some (.int .u8 0) := by rw [cell_of_row _ _ _ _ _ _ HY1.out]; rfl
  have r1 : w3.cell? ⟨q, 1, none⟩ = some (.int .u8 0) := by rw [cell_of_row _ _ _ _ _ _ HY1.out]; rfl
  have r2 : w3.cell? ⟨q, 2, none⟩ = some (.int .u8 0) := by rw [cell_of_row _ _ _ _ _ _ HY1.out]; rfl
  have r3 : w3.cell? ⟨q, 3, none⟩ = some (.int .u8 0) := by rw [cell_of_row _ _ _ _ _ _ HY1.out]; rfl
  have f0 : w3.frozen? ⟨q, 0, none⟩ = false := frozen_of_row w3 q 0 _ 64 HY1.out
  have f1 : w3.frozen? ⟨q, 1, none⟩ = false := frozen_of_row w3 q 1 _ 64 HY1.out
  have f2 : w3.frozen? ⟨q, 2, none⟩ = false := frozen_of_row w3 q 2 _ 64 HY1.out
  have f3 : w3.frozen? ⟨q, 3, none⟩ = false := frozen_of_row w3 q 3 _ 64 HY1.out
  have HB3 : Hid (Below w.heap.size w w3) := ⟨HB2.out.trans (HC3.out.below HB2.out.size (by simp; have := Hq.out; omega))⟩
  clear e0 e1 e2 e3 c0 c1 c2 c3 hcp
  go_wp2_with fail
  have g1 := heap_setCell_same w3 q 0 _ 64 (.int .u8 y0) HY1.out
  have g2 := heap_setCell_same _ q 1 _ 64 (.int .u8 y1) g1
  have g3 := heap_setCell_same _ q 2 _ 64 (.int .u8 y2) g2
  have g4 := heap_setCell_same _ q 3 _ 64 (.int .u8 y3) g3
  have hcc := ((((Chg.refl [q] w3).setCell (a := ⟨q, 0, none⟩) (.inl (by simp)) (.int .u8 y0)).setCell (a := ⟨q, 1, none⟩) (.inl (by simp)) (.int .u8 y1)).setCell (a := ⟨q, 2, none⟩) (.inl (by simp)) (.int .u8 y2)).setCell (a := ⟨q, 3, none⟩) (.inl (by simp)) (.int .u8 y3)
  (try simp only [Exit.inBlock, Exit.then]); refine bodyPost_ret (results_row rfl _ _ q 64 _ _ (.array 4 5) rfl g4 (by kernel_rfl) rfl (by kernel_rfl)) rfl ?_
  exact ⟨rfl, HB3.out.trans (hcc.below HB3.out.size (by simp; have := Hq.out; omega))⟩
end
end Go.Proofs.Ytoneepoaodoijaa
