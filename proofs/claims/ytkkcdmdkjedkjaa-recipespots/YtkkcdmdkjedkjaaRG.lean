/- A range over a function whose rounds all go on, where the function says what comes next; a region that draws its order, within a round. -/
import Derived.Test.YtkkcdmdkjedkjaaRF
import Derived.OrdersIn
import Derived.OwnWalkIn
namespace Go.Proofs.Ytkkcdmdkjedkjaa
open Go.RowKit

/-- What such a function tells: the elements of a list that S allows, one behind the other; each after those ahead as E allows. -/
def SeqE {α : Type} (F : Fence) (n : Nat) (P : Program) (g : Nat) (lb : Array Value) (encs : α → Array Value) (Kp : World → World → Prop) (S : List α → Prop) (E : List α → α → Prop) (w : World) : Prop :=
  ∀ (l : Nat) (J : List α → World → Prop) (W : World), Below w.heap.size w W → (∀ pre A B, J pre A → Below A.heap.size A B → J pre B) →
    (∀ pre x A, J pre A → E pre x → YieldAt F (n - 1) P l (encs x) A fun e B => e = .returned (.bool true) ∧ J (pre ++ [x]) B ∧ Kp A B) →
    J [] W → CallsIn F n P g (#[.func (.yield l) #[] #[]] ++ lb) W fun e B => (∃ v, e = .returned v) ∧ ∃ xs, S xs ∧ J xs B
variable {F : Fence} {n : Nat} {P : Program}
theorem range_each {α : Type} {g : Operand} {ps : Array Tmp} {assign body : Code} {Q : Exit → Act → World → Prop} {a : Act} {w : World}
    (hro : F.round = none) (h1 : 1 ≤ n) {gf : Nat} {lb : Array Value} (hg : a.eval g = .func (.func gf) #[] lb) (hFg : F.fn gf) (eg : ∀ args w, (callFunc gf args).run P w = .ok (.enter gf args) w)
    {encs : α → Array Value} {Kp : World → World → Prop} {S : List α → Prop} {E : List α → α → Prop} (hseq : SeqE F (n - 1) P gf lb encs Kp S E w) (hps : ∀ x, (encs x).size = ps.size)
    (hKt : ∀ {A B C : World}, Kp A B → Kp B C → Kp A C) (hKb : ∀ (W : World) (l : Nat) (o : Obj), w.heap.size ≤ l → Kp W (W.putObj l o))
    (I : List α → World → Prop) (Mid : List α → α → Act → World → Prop)
    (hIb : ∀ pre A B, I pre A → Below A.heap.size A B → I pre B) (hIo : ∀ pre A l o, I pre A → w.heap.size ≤ l → (∃ x : Obj, A.heap[l]? = some x ∧ x.isCells = false) → I pre (A.putObj l o))
    (hMo : ∀ pre x b A l o, Mid pre x b A → w.heap.size ≤ l → (∃ y : Obj, A.heap[l]? = some y ∧ y.isCells = false) → Mid pre x b (A.putObj l o))
    (h0 : I [] w)
    (hassign : ∀ (l : Nat) (pre : List α) (x : α) (W : World), I pre W → E pre x →
      assign.wpIn (F.inRound l) (n - 1 - 1) P (Exit.then (fun b B => KeepsFrom w.heap.size W B ∧ Kp W B ∧ Mid pre x b B) (fun _ _ _ => False)) { tmps := (ps.zip (encs x)).foldl (fun t (p, v) => t.setIfInBounds p v) a.tmps, defers := [] } W)
    (hbody : ∀ (l : Nat) (pre : List α) (x : α) (b : Act) (W : World), Mid pre x b W → E pre x → body.wpIn (F.inRound l) (n - 1 - 1) P (fun e _ B => e = .normal ∧ KeepsFrom w.heap.size W B ∧ Kp W B ∧ I (pre ++ [x]) B) b W)
    (hdone : ∀ (D : Nat) (xs : List α) (W : World), w.heap.size ≤ D → S xs → I xs W → W.heap[D]? = some (.deferred (some [])) → Q .normal { a with defers := { target := .collected D, args := #[] } :: a.defers } W) :
    (Code.rangeFunc g ps assign body).wpIn F n P Q a w := by
  refine wpIn_rangeFunc (fun fn hfn => ?_)
  rw [hro]
  let R : LoopState → Obj := fun s => .loop { state := s, pending := none, fn, tmps := a.tmps, params := ps, assign, body, defers := w.heap.size }
  let L := w.heap.size + 1
  let V := (w.alloc (.deferred (some []))).alloc (R .ready)
  have hbV : Below w.heap.size w V := ((Below.refl _ w).alloc (Nat.le_refl _) _).alloc (by simp) _
  have hVL : V.heap[L]? = some (R .ready) := by
    have := heap_alloc_new (w.alloc (.deferred (some []))) (R .ready)
    simpa [V, L] using this
  have hVD : V.heap[w.heap.size]? = some (.deferred (some [])) := by
    have h : (w.alloc (.deferred (some []))).heap[w.heap.size]? = some (.deferred (some [])) := heap_alloc_new w _
    exact (((Below.refl _ (w.alloc (.deferred (some [])))).alloc (Nat.le_refl _) (R .ready)).block _ (by simp)).trans h
  refine ⟨L, [{ target := .collected w.heap.size, args := #[] }], V, { target := .fn (.func gf) lb, args := #[.func (.yield L) #[] #[]] }, V, gf, #[.func (.yield L) #[] #[]] ++ lb, V, run_enterLoop_outer .., ?_, ?_, ?_, fun _ => h1, ?_⟩
  · simp only [resolve, hg]
    simp [go_sem]
  · intro f' hf'
    simp [Target.leads] at hf'
    subst hf'
    exact hFg
  · simp [invoke, go_sem, eg]
  · let J : List α → World → Prop := fun pre W => I pre W ∧ W.heap[L]? = some (R .ready) ∧ W.heap[w.heap.size]? = some (.deferred (some []))
    have stay : ∀ {A B : World} {k : Nat} {o : Obj}, Below A.heap.size A B → A.heap[k]? = some o → B.heap[k]? = some o := fun hb hk => (hb.block _ (Array.getElem?_eq_some_iff.1 hk).1).trans hk
    refine (hseq L J V hbV (fun pre A B hJ hb => ⟨hIb pre A B hJ.1 hb, stay hb hJ.2.1, stay hb hJ.2.2⟩) ?_ ⟨hIb [] w V h0 hbV, hVL, hVD⟩).mono ?_
    · rintro pre x A ⟨hi, hl, hd⟩ hlen
      have hy := run_yield (P := P) (args := encs x) hl (hps x)
      refine ⟨fn, _, assign, body, hy, roundIn_of_wpIn hfn (wpIn_mono (hassign L pre x A hi hlen) ?_)⟩
      rintro e b B hB
      cases e with
      | normal =>
        obtain ⟨hk, hp, hm⟩ := hB
        have hl1 := hk.same L _ (by simp only [L]; omega) hl rfl
        have hd1 := hk.same _ _ (Nat.le_refl _) hd rfl
        have hlt := (Array.getElem?_eq_some_iff.1 hl1).1
        refine ⟨_, run_beginRound hl1 rfl, wpIn_mono (hbody L pre x b _ (hMo pre x b B L _ hm (by simp only [L]; omega) ⟨_, hl1, rfl⟩) hlen) ?_⟩
        rintro e2 b2 C ⟨rfl, hk2, hp2, hi2⟩
        have hl2 := hk2.same L _ (by simp only [L]; omega) (World.putObj_heap_same hlt) rfl
        have hd2 := hk2.same _ _ (Nat.le_refl _) ((World.putObj_heap_other (by simp only [L]; omega)).trans hd1) rfl
        have hlt2 := (Array.getElem?_eq_some_iff.1 hl2).1
        refine ⟨_, _, run_endRound none hl2, rfl, ⟨hIo _ C L _ hi2 (by simp only [L]; omega) ⟨_, hl2, rfl⟩, World.putObj_heap_same hlt2, (World.putObj_heap_other (by simp only [L]; omega)).trans hd2⟩, ?_⟩
        exact hKt hp (hKt (hKb B L _ (by simp only [L]; omega)) (hKt hp2 (hKb C L _ (by simp only [L]; omega))))
      | _ => exact hB.elim
    · rintro e B ⟨⟨v, rfl⟩, xs, hS, hi, hl, hd⟩
      exact ⟨none, _, run_endLoop hl (by simp), hdone _ xs _ (Nat.le_refl _) hS (hIo _ B L _ hi (by simp only [L]; omega) ⟨_, hl, rfl⟩) ((World.putObj_heap_other (by simp only [L]; omega)).trans hd)⟩

theorem wpIn_norm {F : Fence} {n : Nat} {P : Program} {c : Code} {Q : Exit → Act → World → Prop} {a : Act} {w : World} (h : c.wpIn F n P (only (fun a w => Q .normal a w)) a w) : c.wpIn F n P Q a w := wpIn_mono h (fun e a w hq => by cases e <;> first | exact hq | exact hq.elim)
/-- Operations that enter nothing: loads, stores, moves, addresses. -/
def tame (o : Oper) : Bool := match o.op with
  | .load _ _ | .move _ | .assign _ | .fieldAddr _ _ _ | .indexAddr _ _ _ | .store _ _ _ => true
  | _ => false
theorem tame_upon {F : Fence} {n : Nat} {P : Program} {o : Oper} {a : Act} {w : World} {K : Act → World → Prop} {Q : Exit → Act → World → Prop} (ht : tame o = true) (h : o.wp P a w K Q) : o.wpIn F n P a w K Q := by
  unfold Oper.wpIn
  unfold Oper.wp at h
  obtain ⟨dst, op, ty, pos, after, guard⟩ := o
  cases op <;> simp only [tame, Bool.false_eq_true] at ht
  all_goals
    refine ⟨by simp [Oper.about], ?_⟩
    rw [Oper.semAt_plain F _ _ (by intro c hc; cases hc)]
    simp only [execOp, Sem.run_bind, Sem.run_pure] at h ⊢
  all_goals first
    | exact h
    | (generalize Sem.run P (Instr.loadAt _ _) w = r at h ⊢; cases r with | ok v w' => exact h | halt x w' => cases x <;> exact h)
    | (generalize Sem.run P (Instr.fieldAt _ _ _) w = r at h ⊢; cases r with | ok v w' => exact h | halt x w' => cases x <;> exact h)
    | (generalize Sem.run P (Instr.indexAt _ _ _) w = r at h ⊢; cases r with | ok v w' => exact h | halt x w' => cases x <;> exact h)
    | (generalize Sem.run P (Instr.storeAt _ _ _) w = r at h ⊢; cases r with | ok v w' => exact h | halt x w' => cases x <;> exact h)
theorem tame_about {P : Program} {o : Oper} {ρ : Operand → Value} {w : World} (ht : tame o = true) : o.about P w ρ = none := by
  obtain ⟨dst, op, ty, pos, after, guard⟩ := o
  cases op <;> simp only [tame, Bool.false_eq_true] at ht <;> simp [Oper.about]
theorem any_tame {F : Fence} {n : Nat} {P : Program} {md : Region.Mode} {ops : Array Oper} {Q : Exit → Act → World → Prop} (ht : ∀ (i : Nat) (o : Oper), ops[i]? = some o → tame o = true) (hQ : ¬ LetsOut Q) : ∀ (fuel : Nat) (listed : Array Bool) (a : Act) (w : World), wpAny P md ops Q fuel listed a w → wpAnyIn F n P md ops Q fuel listed a w
  | 0, _, _, _, h => h
  | fuel + 1, listed, a, w, h => ⟨h.1, fun i hi => by
    have h1 := h.2 i hi
    unfold wpOp at h1
    unfold wpOpIn
    cases hop : ops[i]? with
    | none => rw [hop] at h1; exact any_tame ht hQ fuel _ a w h1
    | some o =>
      rw [hop] at h1
      simp only at h1 ⊢
      have hto := ht i o hop
      by_cases hw : Region.wanted o (yielded ops a.tmps) = true
      · rw [if_pos hw] at h1 ⊢
        rcases h1 with h1 | h1
        · exact Oper.wpIn_mono (fun a w hk => any_tame ht hQ fuel _ a w hk) (tame_upon hto h1)
        · exact absurd h1.2 hQ
      · rw [if_neg hw] at h1 ⊢
        exact ⟨(fun f hf => by rw [tame_about hto] at hf; cases hf), any_tame ht hQ fuel _ _ w h1⟩⟩
/-- A region that draws its order, within a round: walked as anywhere. -/
theorem region_tame {F : Fence} {n : Nat} {P : Program} {id : Nat} {ops : Array Oper} {K : Act → World → Prop} {a : Act} {w : World} (hm : P.follows .mixedOrders = true) (ht : ops.toList.all tame = true)
    (h : wpAny P .any ops (only K) ops.size (Array.replicate ops.size false) a w.drew) : (Code.region id ops true).wpIn F n P (only K) a w :=
  wpIn_region_any hm (any_tame (fun i o ho => List.all_eq_true.1 ht o (by rw [← Array.getElem?_toList] at ho; exact List.mem_of_getElem? ho)) (fun ⟨_, _, hx⟩ => hx) _ _ _ _ h)
end Go.Proofs.Ytkkcdmdkjedkjaa
