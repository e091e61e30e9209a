/- Rows that grow within a range over a function. -/
import Derived.Test.YtbdmbhpmbklaiaaS8
namespace Go.Proofs.Ytbdmbhpmbklaiaa
open Go.RowKit Go.Lib Go.Shelf Gf

theorem run_appR1 (w : World) (ty : TypeId) {B : Nat × TypeId} {base : Nat} {v y : Value} {L : List Sd} {t : Sd} (hown : OwnR w B base v L) (hB : B.1 ≤ base) (hT : B.2 ≠ 33) (hy : RdS w B y t) (ad : Addr) (hc : w.cell? ad = some y) (hlen : L.length ≤ 1000000000000) (hbase : base ≤ w.heap.size) :
    ∃ v' w', (Builtin.append_ #[22, 22] ty #[v, .slice (some ad) 1 1]).run Try.prog w = .ok v' w' ∧ OwnR w' B base v' (L ++ [t]) ∧ Chg (ob v) w w' ∧ (v'.ownBlock = v.ownBlock ∨ v'.ownBlock = some w.heap.size) := by
  obtain ⟨i0, hi, hz0, hz1, hz2⟩ := info_parts' infoRow
  obtain ⟨vs, hv1, hv2⟩ := hown
  obtain ⟨v', w', hr, h1, h2, h3⟩ := run_append_at (P := Try.prog) w base 22 ty 33 i0 _ 24 Try.underlying22 hi hz0 hz1 hz2 rfl v L.length vs hv1 ad 1 1 [y] rfl (fun j u hj => by
    match j, hj with
    | 0, hj => simp at hj; subst hj; simpa [Addr.add] using hc) (fun u hu => by
    simp at hu
    subst hu
    obtain ⟨a, n, c, e, _⟩ := hy.sh
    rw [e]
    rfl) (by unfold maxLen; omega) (by omega) hbase
  exact ⟨v', w', hr, ⟨vs ++ [y], by simpa using h1, (hv2.append (Each.one hy)).far (Chg.ofGrown h2) (own_in hv1 hB hT)⟩, Chg.ofGrown h2, h3⟩
theorem wpi_appR1 {F : Fence} {n : Nat} {w : World} {ops : Array Oper} {rest : List Oper} {o : Oper} {ac : Act} {Q : Exit → Act → World → Prop} {y : Value} {t : Sd} (hgd : o.guard = none) (s x : Operand)
    (ho : o.op = .call { callee := .builtin .append, args := #[s, x], argTypes := #[22, 22] })
    {B : Nat × TypeId} {base : Nat} {v : Value} {L : List Sd} (hs : ac.eval s = v) (hown : OwnR w B base v L) (hB : B.1 ≤ base) (hT : B.2 ≠ 33) (hy : RdS w B y t) (ad : Addr) (hc : w.cell? ad = some y)
    (hx : ac.eval x = .slice (some ad) 1 1) (hlen : L.length ≤ 1000000000000) (hbase : base ≤ w.heap.size)
    (h : ∀ v' w', OwnR w' B base v' (L ++ [t]) → Chg (ob v) w w' → (v'.ownBlock = v.ownBlock ∨ v'.ownBlock = some w.heap.size) → wpListIn F n Try.prog ops Q rest (ac.put o.dst v') w') : wpListIn F n Try.prog ops Q (o :: rest) ac w := by
  refine wpListIn_plain hgd fun K hK => ?_
  obtain ⟨v', w', hr, h2, h3, h4⟩ := run_appR1 w o.type hown hB hT hy ad hc hlen hbase
  unfold Oper.wpIn
  refine ⟨?_, ?_⟩
  · simp [Oper.about, ho, resolve, Target.leads, Sem.run_pure]
  · rw [Oper.semAt_plain F _ _ (by rw [ho]; intro c hc'; cases hc')]
    simp [execOp, ho, resolve, invoke, builtin, hs, hx, hr, Result.andThen]
    exact hK _ _ (h v' w' h2 h3 h4)
/-- What the loop knows between two rounds: the box holds a row of its own, told so far. -/
def InvR (w : World) (b M : Nat) (f : Nat → Sd) (pre : List Yl) (W : World) : Prop := (∃ sv, W.heap[b]? = some (.cells #[sv] 22 (0, 0)) ∧ OwnR W (0, 5) w.heap.size sv ((List.range pre.length).map f) ∧ (∀ k ∈ ob sv, k = b - 1 ∨ M ≤ k)) ∧ Below w.heap.size w W ∧ M ≤ W.heap.size
theorem InvR.far {w A C : World} {b M : Nat} {f : Nat → Sd} {pre : List Yl} {X : List Nat} (h : InvR w b M f pre A) (hc : Chg X A C) (hX : ∀ k ∈ X, M ≤ k ∧ ¬ Ty A 5 k ∧ ¬ Ty A 33 k) (hb : w.heap.size ≤ M ∧ b < M) : InvR w b M f pre C := by
  obtain ⟨⟨sv, h1, h2, h3⟩, h4, h5⟩ := h
  refine ⟨⟨sv, (hc.block _ (Array.getElem?_eq_some_iff.1 h1).1 (fun hm => by have := (hX _ hm).1; omega)).trans h1, h2.far hc (fun k hk hm => ?_) (fun k hk hm => (hX k hm).2.2 (h2.ty k hk)), h3⟩, h4.trans (hc.below h4.size (fun k hk => by have := (hX k hk).1; omega)), Nat.le_trans h5 hc.size⟩
  rcases hk with hk | hk
  · omega
  · exact (hX k hm).2.1 hk
theorem InvR.put {w A : World} {b M : Nat} {f : Nat → Sd} {pre : List Yl} (h : InvR w b M f pre A) {l : Nat} {o : Obj} (hl : M ≤ l) (hx : ∃ x : Obj, A.heap[l]? = some x ∧ x.isCells = false) (hb : w.heap.size ≤ M ∧ b < M) : InvR w b M f pre (A.putObj l o) := by
  obtain ⟨y, hy, hyc⟩ := hx
  refine h.far (chg_put A l o) (fun k hk => ?_) hb
  simp at hk
  subst hk
  refine ⟨hl, fun ⟨cs, hcs⟩ => ?_, fun ⟨cs, hcs⟩ => ?_⟩
  · rw [hy] at hcs; cases hcs; cases hyc
  · rw [hy] at hcs; cases hcs; cases hyc
end Go.Proofs.Ytbdmbhpmbklaiaa
