/- Within a round: a region that draws its order, where what is read is held (a condition on the world), and what is called may be a function or the round's own yield. -/
import Derived.OrdersIn
import Derived.OrdersHeld
import Derived.Deep.RegionHeld
import Derived.RangeFuncCalls
import Derived.Test.YtoneepoaodoijaaRH
namespace Go.Proofs.Ytoneepoaodoijaa
open Go.RowKit

/-- No operation puts a call off. -/
def noDefer (ops : Array Oper) : Bool := ops.all (fun o => match o.op with | .defer _ => false | _ => true)
section
variable {l n : Nat} {P : Program} {ops : Array Oper} {Q : Exit → Act → World → Prop} {S : World → Prop}
theorem noDefer_at {i : Nat} {o : Oper} (h : noDefer ops = true) (hi : ops[i]? = some o) : ∀ c, o.op ≠ .defer c := by
  intro c hc
  have := Array.all_eq_true_iff_forall_mem.1 h o (Array.mem_of_getElem? hi)
  rw [hc] at this
  cases this
/-- What is asked of an operation within a round. -/
theorem round_op {o : Oper} {a : Act} {w : World} {K : Act → World → Prop} (hd : ∀ c, o.op ≠ .defer c) : o.wpIn (Fence.wide.inRound l) n P a w K Q ↔ o.uponIn (Fence.wide.inRound l) n P a K Q ((execOp a.eval o).run P w) := by
  unfold Oper.wpIn
  rw [Oper.semAt_eq _ _ _ hd]
  exact ⟨fun h => h.2, fun h => ⟨fun f _ => trivial, h⟩⟩
/-- In whatever order they come from here on, S holds behind each. -/
def HI (l n : Nat) (P : Program) (ops : Array Oper) (Q : Exit → Act → World → Prop) (S : World → Prop) : Nat → Array Bool → Act → World → Prop
  | 0, ls, a, w => Region.ready .any ops ls = [] ∧ Q .normal a w
  | k + 1, ls, a, w => (Region.ready .any ops ls = [] → Q .normal a w) ∧ ∀ i ∈ Region.ready .any ops ls, wpOpIn (Fence.wide.inRound l) n P ops Q i (fun b v => S v ∧ HI l n P ops Q S k (ls.setIfInBounds i true) b v) a w
theorem HI.any : ∀ (k : Nat) (ls : Array Bool) (a : Act) (w : World), HI l n P ops Q S k ls a w → wpAnyIn (Fence.wide.inRound l) n P .any ops Q k ls a w
  | 0, _, _, _, h => h
  | k + 1, _, _, _, h => ⟨h.1, fun i hi => wpOpIn_mono (fun b v hb => HI.any k _ b v hb.2) (h.2 i hi)⟩
/-- A value that is laid ahead of an operation which does not look at it. -/
theorem upon_late {oj : Oper} {a : Act} {d : Option Tmp} {v : Value} {K : Act → World → Prop} {Y : Act → Prop} (hc : ∀ e, d = some e → oj.dst ≠ some e) (hQ : ∀ c a w, Q (.panic c) (a.put d v) w → Q (.panic c) a w)
    (hY : ∀ (ds : List Deferred) (u : Value), Y (({ a with defers := ds } : Act).put oj.dst u)) : ∀ (r : Result Next), oj.uponIn (Fence.wide.inRound l) n P (a.put d v) K Q r → oj.uponIn (Fence.wide.inRound l) n P a (fun b w => Y b ∧ K (b.put d v) w) Q r
  | .ok (.value u) w', h => ⟨hY a.defers u, by rw [← Act.put_comm a v u hc]; exact h⟩
  | .ok .skip w', h => ⟨hY a.defers undef, by rw [← Act.put_comm a v undef hc]; exact h⟩
  | .ok (.defer x) w', h => ⟨hY (x :: a.defers) undef, by rw [← Act.put_comm _ v undef hc, ← Act.put_defers]; exact h⟩
  | .ok (.enter f args) w', h => ⟨h.1, CallsIn.mono h.2 fun e w'' he => match e, he with
    | .returned u, he => ⟨hY a.defers u, by rw [← Act.put_comm a v u hc]; exact he⟩
    | .panicked _, he => hQ _ _ _ he
    | .outgrown, he => he⟩
  | .ok (.row row args) w', h => ⟨h.1, RowsIn.mono h.2 fun u w'' he => ⟨hY a.defers u, by rw [← Act.put_comm a v u hc]; exact he⟩⟩
  | .ok (.round _ _ _ _ _) w', h => ⟨h.1, RoundIn.mono h.2 fun e w'' he => match e, he with
    | .returned u, he => ⟨hY a.defers u, by rw [← Act.put_comm a v u hc]; exact he⟩
    | .panicked _, he => hQ _ _ _ he
    | .outgrown, he => he⟩
  | .halt x w', h => by
    cases x <;> simp only [Oper.uponIn] at h ⊢
    exact hQ _ _ _ h
theorem HI.first {i : Nat} {oi : Oper} {v : Value} (hi : ops[i]? = some oi) (hnd : noDefer ops = true) (hsel : Region.noSelect ops = true) (hQ : ∀ c a w, Q (.panic c) (a.put oi.dst v) w → Q (.panic c) a w) :
    ∀ (k : Nat) (ls : Array Bool) (a : Act) (w : World), (∀ j oj, ops[j]? = some oj → j ≠ i → ls.getD j true = false → (∀ e ∈ oj.after, Region.binds .any e = true → e.on ≠ i) → oi.apart ops oj = true) →
      i ∈ Region.ready .any ops ls → YieldsIf P ops S oi v a → S w → HI l n P ops Q S k (ls.setIfInBounds i true) (a.put oi.dst v) w → HI l n P ops Q S (k + 1) ls a w := by
  have now : ∀ {K : Act → World → Prop} {a : Act} {w : World}, YieldsIf P ops S oi v a → S w → K (a.put oi.dst v) w → wpOpIn (Fence.wide.inRound l) n P ops Q i K a w := fun {K a w} hy hS h => by
    unfold wpOpIn
    rw [hi]
    rcases hy with ⟨hw, hv⟩ | ⟨hw, rfl⟩
    · simp only [hw, if_true]
      rw [round_op (noDefer_at hnd hi), hv w hS]
      exact h
    · simp only [hw, Bool.false_eq_true, if_false]
      exact ⟨fun f _ => trivial, h⟩
  intro k
  induction k with
  | zero =>
    intro ls a w _ hr hy hS H
    refine ⟨fun h => (by rw [h] at hr; cases hr), fun j hj => ?_⟩
    by_cases e : j = i
    · subst e; exact now hy hS ⟨hS, H⟩
    · have h2 := ready_mono hj e
      rw [H.1] at h2
      cases h2
  | succ k ih =>
    intro ls a w hfr hr hy hS H
    refine ⟨fun h => (by rw [h] at hr; cases hr), fun j hj => ?_⟩
    by_cases e : j = i
    · subst e; exact now hy hS ⟨hS, H⟩
    · have hop := H.2 j (ready_mono hj e)
      obtain ⟨hun, oj, hoj, hall⟩ := mem_ready.1 hj
      have hno : ∀ f ∈ oj.after, Region.binds .any f = true → f.on ≠ i := fun f hf hb he => by
        have h1 := hall f hf hb
        have h0 := (mem_ready.1 hr).1
        rw [he] at h1
        rcases Nat.lt_or_ge i ls.size with h' | h'
        · simp [h'] at h0 h1
          rw [h0] at h1
          cases h1
        · simp [Array.getElem?_eq_none h'] at h1
      obtain ⟨a1, a2, a3⟩ := Oper.apart_spec (hfr j oj hoj e hun hno)
      have hsi : ∀ cs b, oi.op ≠ .select cs b := fun cs b => Region.noSelect_spec hsel i oi cs b hi
      have hsj : ∀ cs b, oj.op ≠ .select cs b := fun cs b => Region.noSelect_spec hsel j oj cs b hoj
      have hY : ∀ (ds : List Deferred) (u : Value), YieldsIf P ops S oi v (({ a with defers := ds } : Act).put oj.dst u) := fun ds u =>
        (YieldsIf.of_same (a := ({ a with defers := ds } : Act)) (YieldsIf.of_same hy rfl rfl) (execOp_put oi hsi _ oj.dst u a3) (wanted_put oi _ oj.dst u a3))
      have hop2 : wpOpIn (Fence.wide.inRound l) n P ops Q j (fun b w' => YieldsIf P ops S oi v b ∧ (S w' ∧ HI l n P ops Q S k ((ls.setIfInBounds i true).setIfInBounds j true) (b.put oi.dst v) w')) a w := by
        unfold wpOpIn at hop ⊢
        rw [hoj] at hop ⊢
        simp only at hop ⊢
        rw [wanted_put oj a oi.dst v a1] at hop
        by_cases hw : Region.wanted oj (yielded ops a.tmps) = true
        · rw [if_pos hw] at hop ⊢
          rw [round_op (noDefer_at hnd hoj)] at hop ⊢
          rw [execOp_put oj hsj a oi.dst v a1] at hop
          exact upon_late a2 hQ hY _ hop
        · rw [if_neg hw] at hop ⊢
          exact ⟨fun f _ => trivial, hY a.defers undef, by rw [← Act.put_comm a v undef a2]; exact hop.2⟩
      refine wpOpIn_mono (fun b w' hb => ⟨hb.2.1, ih (ls.setIfInBounds j true) b w' (fun m om hm hmi hum hnm => ?_) (ready_mono hr (Ne.symm e)) hb.1 hb.2.1 ?_⟩) hop2
      · refine hfr m om hm hmi ?_ hnm
        by_cases hjm : j = m
        · subst hjm; exact hun
        · rw [getD_set_ne true hjm] at hum; exact hum
      · rw [Array.setIfInBounds_comm _ _ e]
        exact hb.2.2
theorem HI.take {i : Nat} {oi : Oper} {v : Value} {k : Nat} {ls : Array Bool} {a : Act} {w : World} (hi : ops[i]? = some oi) (hnd : noDefer ops = true) (hs : Region.noSelect ops = true) (hf : Region.free .any ops ls i = true) (hr : (Region.ready .any ops ls).contains i = true)
    (hQ : ∀ c a w, Q (.panic c) (a.put oi.dst v) w → Q (.panic c) a w) (hy : YieldsIf P ops S oi v a) (hS : S w) (h : HI l n P ops Q S k (ls.setIfInBounds i true) (a.put oi.dst v) w) : HI l n P ops Q S (k + 1) ls a w :=
  HI.first hi hnd hs hQ k ls a w (Region.free_spec hi hf) (by simpa using hr) hy hS h
/-- One comes up alone. -/
theorem HI.lone {i : Nat} {o : Oper} {k : Nat} {ls : Array Bool} {a : Act} {w : World} (hi : ops[i]? = some o) (hr : Region.ready .any ops ls = [i])
    (h : ∀ K : Act → World → Prop, Shut (∀ b v, S v → (S v → HI l n P ops Q S k (ls.setIfInBounds i true) b v) → K b v) → if Region.wanted o (yielded ops a.tmps) = true then o.wpIn (Fence.wide.inRound l) n P a w K Q else (∀ f, o.about P w a.eval = some f → (Fence.wide.inRound l).fn f) ∧ K (a.put o.dst undef) w) : HI l n P ops Q S (k + 1) ls a w := by
  refine ⟨fun h0 => (by rw [hr] at h0; cases h0), fun j hj => ?_⟩
  rw [hr] at hj
  simp only [List.mem_singleton] at hj
  subst hj
  unfold wpOpIn
  rw [hi]
  exact h _ (fun b v hS hW => ⟨hS, hW hS⟩)
theorem HI.done {k : Nat} {ls : Array Bool} {a : Act} {w : World} (hr : Region.ready .any ops ls = []) (h : Q .normal a w) : HI l n P ops Q S k ls a w := by
  cases k with
  | zero => exact ⟨hr, h⟩
  | succ k => exact ⟨fun _ => h, by rw [hr]; simp⟩
theorem HI.region {id : Nat} {a : Act} {w : World} (hm : P.follows .mixedOrders = true) (hS : S w.drew) (h : S w.drew → HI l n P ops Q S ops.size (Array.replicate ops.size false) a w.drew) : (Code.region id ops true).wpIn (Fence.wide.inRound l) n P Q a w :=
  wpIn_region_any hm (HI.any _ _ _ _ (h hS))
end
end Go.Proofs.Ytoneepoaodoijaa
