/- A range over a function whose rounds all go on, where the function says what comes next. -/
import Derived.Test.YtoneepoaodoijaaRF
import Derived.OrdersIn
import Derived.OwnWalkIn
namespace Go.Proofs.Ytoneepoaodoijaa
open Go.RowKit

/-- What such a function tells: the elements of a list that S allows, one behind the other; each after those ahead as E allows. -/
def SeqV {α : Type} (F : Fence) (n : Nat) (P : Program) (g : Nat) (lb : Array Value) (encs : α → Array Value) (Kp : World → World → Prop) (S : List α → Prop) (E : List α → α → World → Prop) (w : World) : Prop :=
  ∀ (l : Nat) (J : List α → World → Prop) (W : World), Below w.heap.size w W → (∀ pre A B, J pre A → Below A.heap.size A B → J pre B) →
    (∀ pre x A, J pre A → E pre x A → YieldAt F (n - 1) P l (encs x) A fun e B => e = .returned (.bool true) ∧ J (pre ++ [x]) B ∧ Kp A B) →
    J [] W → CallsIn F n P g (#[.func (.yield l) #[] #[]] ++ lb) W fun e B => (∃ v, e = .returned v) ∧ ∃ xs, S xs ∧ J xs B
variable {F : Fence} {n : Nat} {P : Program}
theorem range_v {α : Type} {g : Operand} {ps : Array Tmp} {assign body : Code} {Q : Exit → Act → World → Prop} {a : Act} {w : World}
    (hro : F.round = none) (h1 : 1 ≤ n) {gf : Nat} {lb : Array Value} (hg : a.eval g = .func (.func gf) #[] lb) (hFg : F.fn gf) (eg : ∀ args w, (callFunc gf args).run P w = .ok (.enter gf args) w)
    {encs : α → Array Value} {Kp : World → World → Prop} {S : List α → Prop} {E : List α → α → World → Prop} (hseq : SeqV F (n - 1) P gf lb encs Kp S E w) (hps : ∀ x, (encs x).size = ps.size)
    (hKt : ∀ {A B C : World}, Kp A B → Kp B C → Kp A C) (hKb : ∀ (W : World) (l : Nat) (o : Obj), w.heap.size ≤ l → Kp W (W.putObj l o))
    (I : List α → World → Prop) (Mid : List α → α → Act → World → Prop)
    (hIb : ∀ pre A B, I pre A → Below A.heap.size A B → I pre B) (hIo : ∀ pre A l o, I pre A → w.heap.size ≤ l → (∃ x : Obj, A.heap[l]? = some x ∧ x.isCells = false) → I pre (A.putObj l o))
    (hMo : ∀ pre x b A l o, Mid pre x b A → w.heap.size ≤ l → (∃ y : Obj, A.heap[l]? = some y ∧ y.isCells = false) → Mid pre x b (A.putObj l o))
    (h0 : I [] w)
    (hassign : ∀ (l : Nat) (pre : List α) (x : α) (W : World), I pre W → E pre x W →
      assign.wpIn (F.inRound l) (n - 1 - 1) P (Exit.then (fun b B => KeepsFrom w.heap.size W B ∧ Kp W B ∧ Mid pre x b B) (fun _ _ _ => False)) { tmps := (ps.zip (encs x)).foldl (fun t (p, v) => t.setIfInBounds p v) a.tmps, defers := [] } W)
    (hbody : ∀ (l : Nat) (pre : List α) (x : α) (b : Act) (W : World), Mid pre x b W → body.wpIn (F.inRound l) (n - 1 - 1) P (fun e _ B => e = .normal ∧ KeepsFrom w.heap.size W B ∧ Kp W B ∧ I (pre ++ [x]) B) b W)
    (hdone : ∀ (D : Nat) (xs : List α) (W : World), w.heap.size ≤ D → S xs → I xs W → W.heap[D]? = some (.deferred (some [])) → Q .normal { a with defers := { target := .collected D, args := #[] } :: a.defers } W) :
    (Code.rangeFunc g ps assign body).wpIn F n P Q a w := by
  refine wpIn_rangeFunc (fun fn hfn => ?_)
  rw [hro]
  let R : LoopState → Obj := fun s => .loop { state := s, pending := none, fn, tmps := a.tmps, params := ps, assign, body, defers := w.heap.size }
  let L := w.heap.size + 1
  let V := (w.alloc (.deferred (some []))).alloc (R .ready)
  have hbV : Below w.heap.size w V := ((Below.refl _ w).alloc (Nat.le_refl _) _).alloc (by simp) _
  have hVL : V.heap[L]? = some (R .ready) := by
    have := heap_alloc_new (w.alloc (.deferred (some []))) (R .ready)
    simpa [V, L] using this
  have hVD : V.heap[w.heap.size]? = some (.deferred (some [])) := by
    have h : (w.alloc (.deferred (some []))).heap[w.heap.size]? = some (.deferred (some [])) := heap_alloc_new w _
    exact (((Below.refl _ (w.alloc (.deferred (some [])))).alloc (Nat.le_refl _) (R .ready)).block _ (by simp)).trans h
  refine ⟨L, [{ target := .collected w.heap.size, args := #[] }], V, { target := .fn (.func gf) lb, args := #[.func (.yield L) #[] #[]] }, V, gf, #[.func (.yield L) #[] #[]] ++ lb, V, run_enterLoop_outer .., ?_, ?_, ?_, fun _ => h1, ?_⟩
  · simp only [resolve, hg]
    simp [go_sem]
  · intro f' hf'
    simp [Target.leads] at hf'
    subst hf'
    exact hFg
  · simp [invoke, go_sem, eg]
  · let J : List α → World → Prop := fun pre W => I pre W ∧ W.heap[L]? = some (R .ready) ∧ W.heap[w.heap.size]? = some (.deferred (some []))
    have stay : ∀ {A B : World} {k : Nat} {o : Obj}, Below A.heap.size A B → A.heap[k]? = some o → B.heap[k]? = some o := fun hb hk => (hb.block _ (Array.getElem?_eq_some_iff.1 hk).1).trans hk
    refine (hseq L J V hbV (fun pre A B hJ hb => ⟨hIb pre A B hJ.1 hb, stay hb hJ.2.1, stay hb hJ.2.2⟩) ?_ ⟨hIb [] w V h0 hbV, hVL, hVD⟩).mono ?_
    · rintro pre x A ⟨hi, hl, hd⟩ hlen
      have hy := run_yield (P := P) (args := encs x) hl (hps x)
      refine ⟨fn, _, assign, body, hy, roundIn_of_wpIn hfn (wpIn_mono (hassign L pre x A hi hlen) ?_)⟩
      rintro e b B hB
      cases e with
      | normal =>
        obtain ⟨hk, hp, hm⟩ := hB
        have hl1 := hk.same L _ (by simp only [L]; omega) hl rfl
        have hd1 := hk.same _ _ (Nat.le_refl _) hd rfl
        have hlt := (Array.getElem?_eq_some_iff.1 hl1).1
        refine ⟨_, run_beginRound hl1 rfl, wpIn_mono (hbody L pre x b _ (hMo pre x b B L _ hm (by simp only [L]; omega) ⟨_, hl1, rfl⟩)) ?_⟩
        rintro e2 b2 C ⟨rfl, hk2, hp2, hi2⟩
        have hl2 := hk2.same L _ (by simp only [L]; omega) (World.putObj_heap_same hlt) rfl
        have hd2 := hk2.same _ _ (Nat.le_refl _) ((World.putObj_heap_other (by simp only [L]; omega)).trans hd1) rfl
        have hlt2 := (Array.getElem?_eq_some_iff.1 hl2).1
        refine ⟨_, _, run_endRound none hl2, rfl, ⟨hIo _ C L _ hi2 (by simp only [L]; omega) ⟨_, hl2, rfl⟩, World.putObj_heap_same hlt2, (World.putObj_heap_other (by simp only [L]; omega)).trans hd2⟩, ?_⟩
        exact hKt hp (hKt (hKb B L _ (by simp only [L]; omega)) (hKt hp2 (hKb C L _ (by simp only [L]; omega))))
      | _ => exact hB.elim
    · rintro e B ⟨⟨v, rfl⟩, xs, hS, hi, hl, hd⟩
      exact ⟨none, _, run_endLoop hl (by simp), hdone _ xs _ (Nat.le_refl _) hS (hIo _ B L _ hi (by simp only [L]; omega) ⟨_, hl, rfl⟩) ((World.putObj_heap_other (by simp only [L]; omega)).trans hd)⟩

theorem wpIn_norm {F : Fence} {n : Nat} {P : Program} {c : Code} {Q : Exit → Act → World → Prop} {a : Act} {w : World} (h : c.wpIn F n P (only (fun a w => Q .normal a w)) a w) : c.wpIn F n P Q a w := wpIn_mono h (fun e a w hq => by cases e <;> first | exact hq | exact hq.elim)
end Go.Proofs.Ytoneepoaodoijaa
