/- live. -/
import Derived.Lib.SlBytesConst
import Derived.Test.YtfecngncapenjaaV1
import Derived.Test.YtfecngncapenjaaV2
import Derived.Test.YtfecngncapenjaaV5
namespace Go.Proofs.Ytfecngncapenjaa
open Go.RowKit Oct Go.Lib

theorem guard22 (w : World) (op : BinOp) (x y : Operand) (xs ys : Array Value) : (eqGuard op 22 x y (.agg xs) (.agg ys)).run Try.prog w = .ok () w := run_eqGuard_agg w op 22 x y xs ys (by kernel_rfl)
theorem guard28 (w : World) (op : BinOp) (x y : Operand) (xs ys : Array Value) : (eqGuard op 28 x y (.agg xs) (.agg ys)).run Try.prog w = .ok () w := run_eqGuard_agg w op 28 x y xs ys (by kernel_rfl)
theorem same22 (w : World) {f g : List Int} (hf : f.length = 256) (hg : g.length = 256) : (binOp .eql 22 (.agg (ia f)) (.agg (ia g))).run Try.prog w = .ok (.bool (f == g)) w := by
  rw [run_eql_struct, eq22 w hf hg 9998]; rfl
theorem same28 (w : World) {f g : List ByteArray} (hf : f.length = 256) (hg : g.length = 256) : (binOp .neq 28 (.agg (sa f)) (.agg (sa g))).run Try.prog w = .ok (.bool (!decide (f = g))) w := by
  rw [run_neq_struct, eq28 w hf hg 9998]; rfl
theorem built_cB : Try.prog.built 22 [(97, .int .i64 5), (98, .int .i64 2), (99, .int .i64 1)] = some (ia cB) := by kernel_rfl
theorem lit_gB : ((Try.zeroCells22.setIfInBounds 97 (.int .i64 1)).setIfInBounds 98 (.int .i64 2)).setIfInBounds 99 (.int .i64 2) = ia gB := by kernel_rfl
theorem gB_len : gB.length = 256 := by unfold gB; rw [List.length_set, List.length_set, List.length_set, z0_len]
section
variable {ops : Array Oper} {rest : List Oper} {o : Oper} {a : Act} {w : World} {Q : Exit → Act → World → Prop}
theorem wp_lit22 {i j k : Nat} {x y z : Operand} {vx vy vz : Value} {A : Array Value} (hgd : o.guard = none) (ho : o.op = .build 22 #[(i, x), (j, y), (k, z)]) (hx : a.eval x = vx) (hy : a.eval y = vy) (hz : a.eval z = vz) (hb : Try.prog.built 22 [(i, vx), (j, vy), (k, vz)] = some A)
    (h : wpList Try.prog ops Q rest (a.put o.dst (.agg A)) w) : wpList Try.prog ops Q (o :: rest) a w := by
  have e : ((#[(i, x), (j, y), (k, z)] : Array (Nat × Operand)).map fun (i, x) => (i, a.eval x)).toList = [(i, vx), (j, vy), (k, vz)] := by simp [hx, hy, hz]
  refine wpList_build hgd 22 #[(i, x), (j, y), (k, z)] ho (by rw [e, hb]; rfl) ?_
  rw [e, hb]
  exact h
end
section
variable {w : World}
set_option maxHeartbeats 8000000 in
set_option maxRecDepth 100000 in
theorem live11 : Calls Try.prog 11 #[] w fun e w' => e = .returned (.bool true) ∧ Below w.heap.size w w' := by
  obtain ⟨q, Hq⟩ : ∃ q, Hid (w.heap.size = q) := ⟨_, ⟨rfl⟩⟩
  obtain ⟨w1, Hw1⟩ : ∃ x, Hid (w.alloc (.cells #[.int .u8 97, .int .u8 97, .int .u8 98] 5 (3, 4)) = x) := ⟨_, ⟨rfl⟩⟩
  have HB1 : Hid (Below w.heap.size w w1) := ⟨by rw [← Hw1.out]; exact (Below.refl _ w).alloc (Nat.le_refl _) _⟩
  have HX1 : Hid (w1.heap[q]? = some (.cells #[.int .u8 97, .int .u8 97, .int .u8 98] 5 (3, 4))) := ⟨by rw [← Hw1.out, ← Hq.out]; exact heap_alloc_new w _⟩
  have HR1 : Hid (RdY w1 (.slice (some ⟨q, 0, none⟩) 3 3) [97, 97, 98]) := ⟨⟨_, _, rfl, Nat.le_refl _, by decide, by simp, fun x hx i hi => by
    cases hx
    rw [add_add, cell_of_row _ _ _ _ _ _ HX1.out, Nat.zero_add]
    simp [yv]⟩⟩
  have t1 := put16_ok _ _ HR1.out byA (by decide)
  have kc := fun (W : World) (C : Array Value) (n c : Nat) => Go.Lib.run_convert_bytes_const (P := Try.prog) W 33 5 C n c Try.underlying33 Try.underlying5
  go_enter Try.func11, Try.ntmps11
  go_wp2_with fail
  rw [Hw1.out, Hq.out]
  refine t1.mono ?_
  rintro e w2 ⟨v2, out, rfl, hO, hS, hB2⟩
  have e2 := put_aab hS
  subst e2
  obtain ⟨a2, c2, e2, _⟩ := hO.shape
  subst e2
  have HO2 := Hid.mk hO
  have HB2 : Hid (Below w.heap.size w w2) := ⟨HB1.out.trans (hB2.mono HB1.out.size)⟩
  have t2 := lengths9_ok (w := w2) cB cB_len cB_bad
  obtain ⟨CB, HCB⟩ : ∃ x, Hid (ia cB = x) := ⟨_, ⟨rfl⟩⟩
  have hb1 := built_cB
  rw [HCB.out] at t2 hb1
  clear t1 hO hS hB2
  go_wp2_with (refine wp_lit22 rfl rfl rfl rfl rfl hb1 ?_)
  refine t2.mono ?_
  rintro e w3 ⟨g, rfl, hL, hB3⟩
  have eg := len_B hL
  subst eg
  have HB3 : Hid (Below w.heap.size w w3) := ⟨HB2.out.trans (hB3.mono HB2.out.size)⟩
  have HO3 : Hid (OwnY w3 w1.heap.size (.slice a2 7 c2) [3, 2, 97, 1, 98, 1, 32]) := ⟨OwnY.far' HO2.out hB3⟩
  obtain ⟨r, Hr⟩ : ∃ q, Hid (w3.heap.size = q) := ⟨_, ⟨rfl⟩⟩
  obtain ⟨w4, Hw4⟩ : ∃ x, Hid (w3.alloc (.cells (ia z0) 22) = x) := ⟨_, ⟨rfl⟩⟩
  have HB4 : Hid (Below w3.heap.size w3 w4) := ⟨by rw [← Hw4.out]; exact (Below.refl _ w3).alloc (Nat.le_refl _) _⟩
  have HR4 : Hid (w4.heap[r]? = some (.cells (ia z0) 22 (0, 0))) := ⟨by rw [← Hw4.out, ← Hr.out]; exact heap_alloc_new w3 _⟩
  obtain ⟨w5, Hw5⟩ : ∃ x, Hid (w4.setRow r (ia gB) = x) := ⟨_, ⟨rfl⟩⟩
  have HR5 : Hid (w5.heap[r]? = some (.cells (ia gB) 22 (0, 0))) := ⟨by rw [← Hw5.out]; exact setRow_heap w4 r (ia z0) _ 22 (0, 0) HR4.out⟩
  have HB35 : Hid (Below w3.heap.size w3 w5) := ⟨by rw [← Hw5.out]; exact below_setRow HB4.out (by rw [Hr.out]; exact Nat.le_refl r) _⟩
  have HB5 : Hid (Below w.heap.size w w5) := ⟨HB3.out.trans (HB35.out.mono HB3.out.size)⟩
  have HO5 : Hid (OwnY w5 w1.heap.size (.slice a2 7 c2) [3, 2, 97, 1, 98, 1, 32]) := ⟨OwnY.far' HO3.out HB35.out⟩
  have hstr := run_str (w := w5) Try.bt (rdy_bs (OwnY.rd HO5.out)) 9 Try.underlying9
  have es : strOfNums [3, 2, 97, 1, 98, 1, 32] = { data := #[3, 2, 97, 1, 98, 1, 32] } := rfl
  rw [es] at hstr
  have hload := load22 gB_len HR5.out
  have heq := eq22 w5 gB_len gB_len 9998
  rw [beq_self_eq_true] at heq
  have hgl := gB_len
  obtain ⟨GB, HGB⟩ : ∃ x, Hid (ia gB = x) := ⟨_, ⟨rfl⟩⟩
  clear t2 hL hB3
  go_upto_region 3 with (first | (refine wp_new22 rfl rfl ?_; rw [Hw4.out, Hr.out]) | (refine wp_put22 (f := z0) (g := gB) rfl (.tmp 3) (.tmp 14) rfl rfl rfl z0_len hgl HR4.out ?_; rw [Hw5.out]))
  rw [HGB.out] at hload heq ⊢
  go_wp2_with fail
  refine op_load 22 (.tmp 3) rfl r rfl hload ?_
  go_wp2_with fail
  rw [lit_gB, HGB.out, heq]
  simp only [Result.andThen_ok, Oper.upon]
  go_wp2_with fail
  go_ret
  exact ⟨rfl, HB5.out⟩
end
end Go.Proofs.Ytfecngncapenjaa
