/- Arrays that are stored into new variables. -/
import Derived.Test.YtfecngncapenjaaC12
namespace Go.Proofs.Ytfecngncapenjaa
open Go.RowKit Oct

theorem al22 (w : World) (g : List Int) : ∃ w', Hid ((w.alloc (.cells (ia z0) 22)).setRow w.heap.size (ia g) = w') ∧ Hid (w'.heap[w.heap.size]? = some (.cells (ia g) 22 (0, 0))) ∧ Hid (Below w.heap.size w w') :=
  ⟨_, ⟨rfl⟩, ⟨setRow_heap _ _ (ia z0) _ 22 (0, 0) (heap_alloc_new w _)⟩, ⟨below_setRow ((Below.refl _ w).alloc (Nat.le_refl _) _) (Nat.le_refl _) _⟩⟩
theorem al28 (w : World) (g : List ByteArray) : ∃ w', Hid ((w.alloc (.cells (sa e0) 28)).setRow w.heap.size (sa g) = w') ∧ Hid (w'.heap[w.heap.size]? = some (.cells (sa g) 28 (0, 0))) ∧ Hid (Below w.heap.size w w') :=
  ⟨_, ⟨rfl⟩, ⟨setRow_heap _ _ (sa e0) _ 28 (0, 0) (heap_alloc_new w _)⟩, ⟨below_setRow ((Below.refl _ w).alloc (Nat.le_refl _) _) (Nat.le_refl _) _⟩⟩
theorem bx22 (w : World) (g : List Int) : ∃ w', Hid (w.alloc (.cells (ia g) 22) = w') ∧ Hid (w'.heap[w.heap.size]? = some (.cells (ia g) 22 (0, 0))) ∧ Hid (Below w.heap.size w w') ∧ Hid (w'.heap.size = w.heap.size + 1) :=
  ⟨_, ⟨rfl⟩, ⟨heap_alloc_new w _⟩, ⟨(Below.refl _ w).alloc (Nat.le_refl _) _⟩, ⟨Array.size_push _⟩⟩
section
variable {ops : Array Oper} {rest : List Oper} {o : Oper} {a : Act} {w : World} {Q : Exit → Act → World → Prop}
theorem op_load {P : Program} {K : Act → World → Prop} (ty : TypeId) (x : Operand) (ho : o.op = .load ty x) (b : Nat) (hx : a.eval x = .pointer (some ⟨b, 0, none⟩)) {cs : Array Value} (hl : (loadVar ty ⟨b, 0, none⟩).run P w = .ok (.agg cs) w)
    (h : K (a.put o.dst (.agg cs)) w) : Oper.wp P o a w K Q := by
  unfold Oper.wp execOp
  simp only [ho, hx, Instr.loadAt, Instr.sureAddr, Sem.run_bind, Sem.run_pure, Result.andThen_ok, hl]
  exact h
end
end Go.Proofs.Ytfecngncapenjaa
