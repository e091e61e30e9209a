/- What a function that tells pieces may change, and what who hears them may: by age and kind of what lies in memory; a range over such a function. -/
import Derived.Test.YtoneepoaodoijaaP8
import Derived.Test.YtoneepoaodoijaaZ1
namespace Go.Proofs.Ytoneepoaodoijaa
open Go.RowKit

/-- Rows of bytes. -/
def soft : Obj → Bool
  | .cells _ t _ => t == 5
  | _ => false
/-- What is to be kept is kept. -/
structure Kg (keep : Nat → Obj → Prop) (A B : World) : Prop where
  size : A.heap.size ≤ B.heap.size
  kept : ∀ k o, A.heap[k]? = some o → keep k o → B.heap[k]? = some o
  same : B.os = A.os ∧ B.tape = A.tape ∧ B.output = A.output
theorem Kg.refl (keep : Nat → Obj → Prop) (A : World) : Kg keep A A := ⟨Nat.le_refl _, fun _ _ h _ => h, rfl, rfl, rfl⟩
theorem Kg.trans {keep : Nat → Obj → Prop} {A B C : World} (h : Kg keep A B) (k : Kg keep B C) : Kg keep A C := ⟨Nat.le_trans h.1 k.1, fun i o hi ho => k.2 i o (h.2 i o hi ho) ho, k.same.1.trans h.same.1, k.same.2.1.trans h.same.2.1, k.same.2.2.trans h.same.2.2⟩
theorem Kg.mono {keep keep' : Nat → Obj → Prop} {A B : World} (h : Kg keep A B) (hk : ∀ k o, k < A.heap.size → keep' k o → keep k o) : Kg keep' A B := ⟨h.1, fun i o hi ho => h.2 i o hi (hk i o (Array.getElem?_eq_some_iff.1 hi).1 ho), h.same⟩
theorem Kg.below {keep : Nat → Obj → Prop} {A B : World} (h : Below A.heap.size A B) : Kg keep A B := ⟨h.size, fun i _ hi _ => (h.block i (Array.getElem?_eq_some_iff.1 hi).1).trans hi, h.os, h.tape, h.output⟩
theorem Kg.chg {keep : Nat → Obj → Prop} {A B : World} {X : List Nat} (h : Chg X A B) (hX : ∀ k o, A.heap[k]? = some o → keep k o → k ∉ X) : Kg keep A B := ⟨h.size, fun i o hi ho => (h.block i (Array.getElem?_eq_some_iff.1 hi).1 (hX i o hi ho)).trans hi, h.os, h.tape, h.output⟩
/-- What was below stays below. -/
theorem Kg.under {keep : Nat → Obj → Prop} {w A B : World} {N : Nat} (h : Below N w A) (hk : Kg keep A B) (hN : ∀ k o, k < N → keep k o) (hw : N ≤ w.heap.size) : Below N w B :=
  ⟨hk.same.1.trans h.os, hk.same.2.1.trans h.tape, hk.same.2.2.trans h.output, Nat.le_trans h.size hk.size, fun k hlt => by
    have h1 := h.block k hlt
    have h2 : w.heap[k]? = some w.heap[k] := Array.getElem?_eq_getElem (by omega)
    rw [h2] at h1 ⊢
    exact hk.kept k _ h1 (hN k _ hlt)⟩
/-- The callee's freedom: what is older than n stays, and so do all rows of bytes. -/
abbrev Kc (n : Nat) : World → World → Prop := Kg (fun k o => k < n ∨ soft o = true)
/-- The hearer's: what is older than N stays, and so do maps and rows of other things than bytes, but for some blocks; and what is no row, from m on. -/
abbrev Kz (m N : Nat) (X : List Nat) : World → World → Prop := Kg (fun k o => (k ∉ X ∧ (k < N ∨ hard o = true)) ∨ (m ≤ k ∧ o.isCells = false))
theorem Kz.from {m N n : Nat} {X : List Nat} {A B : World} (h : Kz m N X A B) (hn : m ≤ n) : KeepsFrom n A B := ⟨h.1, fun k o hk ho hc => h.2 k o ho (.inr ⟨Nat.le_trans hn hk, hc⟩)⟩
theorem Kz.put {m N : Nat} {X : List Nat} {A : World} {l : Nat} {o : Obj} (hm : l < m) (hl : N ≤ l) (hx : ∃ x : Obj, A.heap[l]? = some x ∧ hard x = false) : Kz m N X A (A.putObj l o) := ⟨by simp, fun k y hk hy => by
  by_cases e : k = l
  · subst e
    obtain ⟨x, h1, h2⟩ := hx
    rw [hk] at h1
    cases h1
    rcases hy with ⟨_, h3⟩ | ⟨h3, _⟩
    · rcases h3 with h3 | h3
      · omega
      · rw [h2] at h3; cases h3
    · omega
  · exact (World.putObj_heap_other e).trans hk, rfl, rfl, rfl⟩
theorem Kc.put {n : Nat} {A : World} {l : Nat} {o : Obj} (hl : n ≤ l) (hx : ∃ x : Obj, A.heap[l]? = some x ∧ soft x = false) : Kc n A (A.putObj l o) := ⟨by simp, fun k y hk hy => by
  by_cases e : k = l
  · subst e
    obtain ⟨x, h1, h2⟩ := hx
    rw [hk] at h1
    cases h1
    rcases hy with h3 | h3
    · omega
    · rw [h2] at h3; cases h3
  · exact (World.putObj_heap_other e).trans hk, rfl, rfl, rfl⟩
theorem soft_not {x : Obj} (h : x.isCells = false) : soft x = false := by cases x <;> first | rfl | cases h
theorem Kc.putNon {n : Nat} {A : World} {l : Nat} {o : Obj} (hl : n ≤ l) (hx : ∃ x : Obj, A.heap[l]? = some x ∧ x.isCells = false) : Kc n A (A.putObj l o) := by
  obtain ⟨x, h1, h2⟩ := hx
  exact Kc.put hl ⟨x, h1, soft_not h2⟩
theorem Kc.less {n m : Nat} {A B : World} (h : Kc n A B) (hm : m ≤ n) : Kc m A B := h.mono (fun k o _ hk => hk.imp (fun h => by omega) id)
theorem Kc.old {n k : Nat} {A B : World} {o : Obj} (h : Kc n A B) (hk : A.heap[k]? = some o) (hn : k < n) : B.heap[k]? = some o := h.2 k o hk (.inl hn)
/-- Cells of a row that stays. -/
theorem RdY.stay {A B : World} {v : Value} {l : List Int} (h : RdY A v l) (hk : 0 < l.length → ∀ k ∈ ob v, ∀ o, A.heap[k]? = some o → B.heap[k]? = some o) : RdY B v l := by
  obtain ⟨a, cap, rfl, hl, hm, hn, hcell⟩ := h
  refine ⟨a, cap, rfl, hl, hm, hn, fun x hx i hi => ?_⟩
  subst hx
  have h0 := hcell x rfl i hi
  have hb := World.block_lt_of_cell? _ _ (h0.trans (List.getElem?_eq_getElem hi))
  rw [add_block] at hb
  have h1 := hk (by rw [yv_len] at hi; omega) x.block (mem_ob.2 rfl) _ (Array.getElem?_eq_getElem hb)
  have h2 : B.heap[(x.add i).block]? = A.heap[(x.add i).block]? := by rw [add_block, h1, Array.getElem?_eq_getElem hb]
  exact (World.cell?_of_block h2).trans h0
/-- An owned row that stays. -/
theorem own_stay {A B : World} {base : Nat} {e : TypeId} {k : Nat} {v : Value} {n : Nat} {xs : List Value} (h : A.ownsRow base e k v n xs) (hk : ∀ g ∈ ob v, ∀ o, A.heap[g]? = some o → B.heap[g]? = some o) : B.ownsRow base e k v n xs := by
  refine ⟨h.1, ?_⟩
  rcases h.2 with hn | ⟨g, cap, cur, rfl, hb, hh, rest⟩
  · exact .inl hn
  · exact .inr ⟨g, cap, cur, rfl, hb, hk g (mem_ob.2 rfl) _ hh, rest⟩
theorem OwnY.kc {n : Nat} {A B : World} {base : Nat} {v : Value} {l : List Int} (h : OwnY A base v l) (hk : Kc n A B) : OwnY B base v l := own_stay h (fun g hg o ho => by
  obtain ⟨cs, hc⟩ := own_ty h (mem_ob.1 hg)
  rw [hc] at ho
  cases ho
  exact hk.2 g _ hc (.inr rfl))
theorem OwnI.kz {m N : Nat} {X : List Nat} {A B : World} {base : Nat} {v : Value} {l : List Int} (h : OwnI A base v l) (hk : Kz m N X A B) (hX : ∀ g ∈ ob v, g ∉ X) : OwnI B base v l := own_stay h (fun g hg o ho => by
  obtain ⟨cs, hc⟩ := own_ty h (mem_ob.1 hg)
  rw [hc] at ho
  cases ho
  exact hk.2 g _ hc (.inl ⟨hX g hg, .inr rfl⟩))

/-- What such a function tells: the elements of a list, one behind the other; of its own it changes what is newer than its call, but for rows of bytes. -/
def SeqK {α : Type} (F : Fence) (n : Nat) (P : Program) (g : Nat) (lb : Array Value) (encs : α → Array Value) (Kp : World → World → Prop) (S : List α → Prop) (E : List α → α → World → Prop) (w : World) : Prop :=
  ∀ (l : Nat) (J : List α → World → Prop) (W : World), Below w.heap.size w W → w.heap.size + 1 < W.heap.size → (∀ pre A B, J pre A → Kc W.heap.size A B → J pre B) →
    (∀ pre x A, J pre A → E pre x A → YieldAt F (n - 1) P l (encs x) A fun e B => e = .returned (.bool true) ∧ J (pre ++ [x]) B ∧ Kp A B) →
    J [] W → CallsIn F n P g (#[.func (.yield l) #[] #[]] ++ lb) W fun e B => (∃ v, e = .returned v) ∧ ∃ xs, S xs ∧ J xs B
variable {F : Fence} {n : Nat} {P : Program}
theorem range_k {α : Type} {g : Operand} {ps : Array Tmp} {assign body : Code} {Q : Exit → Act → World → Prop} {a : Act} {w : World}
    (hro : F.round = none) (h1 : 1 ≤ n) {gf : Nat} {lb : Array Value} (hg : a.eval g = .func (.func gf) #[] lb) (hFg : F.fn gf) (eg : ∀ args w, (callFunc gf args).run P w = .ok (.enter gf args) w)
    {encs : α → Array Value} {Kp : World → World → Prop} {S : List α → Prop} {E : List α → α → World → Prop} (hseq : SeqK F (n - 1) P gf lb encs Kp S E w) (hps : ∀ x, (encs x).size = ps.size)
    (hKt : ∀ {A B C : World}, Kp A B → Kp B C → Kp A C) (hKb : ∀ (W : World) (o : Obj), (∃ r, W.heap[w.heap.size + 1]? = some (.loop r)) → Kp W (W.putObj (w.heap.size + 1) o))
    (I : List α → World → Prop) (Mid : List α → α → Act → World → Prop)
    (hIb : ∀ pre A B, I pre A → Kc w.heap.size A B → I pre B)
    (hMo : ∀ pre x b A l o, Mid pre x b A → w.heap.size ≤ l → (∃ y : Obj, A.heap[l]? = some y ∧ y.isCells = false) → Mid pre x b (A.putObj l o))
    (h0 : I [] w)
    (hassign : ∀ (l : Nat) (pre : List α) (x : α) (W : World), I pre W → E pre x W →
      assign.wpIn (F.inRound l) (n - 1 - 1) P (Exit.then (fun b B => KeepsFrom w.heap.size W B ∧ Kp W B ∧ Mid pre x b B) (fun _ _ _ => False)) { tmps := (ps.zip (encs x)).foldl (fun t (p, v) => t.setIfInBounds p v) a.tmps, defers := [] } W)
    (hbody : ∀ (l : Nat) (pre : List α) (x : α) (b : Act) (W : World), Mid pre x b W → body.wpIn (F.inRound l) (n - 1 - 1) P (fun e _ B => e = .normal ∧ KeepsFrom w.heap.size W B ∧ Kp W B ∧ I (pre ++ [x]) B) b W)
    (hdone : ∀ (D : Nat) (xs : List α) (W : World), w.heap.size ≤ D → S xs → I xs W → W.heap[D]? = some (.deferred (some [])) → Q .normal { a with defers := { target := .collected D, args := #[] } :: a.defers } W) :
    (Code.rangeFunc g ps assign body).wpIn F n P Q a w := by
  refine wpIn_rangeFunc (fun fn hfn => ?_)
  rw [hro]
  let R : LoopState → Obj := fun s => .loop { state := s, pending := none, fn, tmps := a.tmps, params := ps, assign, body, defers := w.heap.size }
  let L := w.heap.size + 1
  let V := (w.alloc (.deferred (some []))).alloc (R .ready)
  have hbV : Below w.heap.size w V := ((Below.refl _ w).alloc (Nat.le_refl _) _).alloc (by simp) _
  have hVL : V.heap[L]? = some (R .ready) := by
    have := heap_alloc_new (w.alloc (.deferred (some []))) (R .ready)
    simpa [V, L] using this
  have hVD : V.heap[w.heap.size]? = some (.deferred (some [])) := by
    have h : (w.alloc (.deferred (some []))).heap[w.heap.size]? = some (.deferred (some [])) := heap_alloc_new w _
    exact (((Below.refl _ (w.alloc (.deferred (some [])))).alloc (Nat.le_refl _) (R .ready)).block _ (by simp)).trans h
  have hVs : L < V.heap.size := (Array.getElem?_eq_some_iff.1 hVL).1
  have hIo : ∀ pre A l o, I pre A → w.heap.size ≤ l → (∃ x : Obj, A.heap[l]? = some x ∧ x.isCells = false) → I pre (A.putObj l o) := fun pre A l o hi hl hx => hIb pre A _ hi (Kc.putNon hl hx)
  refine ⟨L, [{ target := .collected w.heap.size, args := #[] }], V, { target := .fn (.func gf) lb, args := #[.func (.yield L) #[] #[]] }, V, gf, #[.func (.yield L) #[] #[]] ++ lb, V, run_enterLoop_outer .., ?_, ?_, ?_, fun _ => h1, ?_⟩
  · simp only [resolve, hg]
    simp [go_sem]
  · intro f' hf'
    simp [Target.leads] at hf'
    subst hf'
    exact hFg
  · simp [invoke, go_sem, eg]
  · let J : List α → World → Prop := fun pre W => I pre W ∧ W.heap[L]? = some (R .ready) ∧ W.heap[w.heap.size]? = some (.deferred (some []))
    refine (hseq L J V hbV hVs (fun pre A B hJ hb => ⟨hIb pre A B hJ.1 (hb.less (by simp only [L] at hVs; omega)), hb.old hJ.2.1 hVs, hb.old hJ.2.2 (by simp only [L] at hVs; omega)⟩) ?_ ⟨hIb [] w V h0 (Kg.below hbV), hVL, hVD⟩).mono ?_
    · rintro pre x A ⟨hi, hl, hd⟩ hlen
      have hy := run_yield (P := P) (args := encs x) hl (hps x)
      refine ⟨fn, _, assign, body, hy, roundIn_of_wpIn hfn (wpIn_mono (hassign L pre x A hi hlen) ?_)⟩
      rintro e b B hB
      cases e with
      | normal =>
        obtain ⟨hk, hp, hm⟩ := hB
        have hl1 := hk.same L _ (by simp only [L]; omega) hl rfl
        have hd1 := hk.same _ _ (Nat.le_refl _) hd rfl
        have hlt := (Array.getElem?_eq_some_iff.1 hl1).1
        refine ⟨_, run_beginRound hl1 rfl, wpIn_mono (hbody L pre x b _ (hMo pre x b B L _ hm (by simp only [L]; omega) ⟨_, hl1, rfl⟩)) ?_⟩
        rintro e2 b2 C ⟨rfl, hk2, hp2, hi2⟩
        have hl2 := hk2.same L _ (by simp only [L]; omega) (World.putObj_heap_same hlt) rfl
        have hd2 := hk2.same _ _ (Nat.le_refl _) ((World.putObj_heap_other (by simp only [L]; omega)).trans hd1) rfl
        have hlt2 := (Array.getElem?_eq_some_iff.1 hl2).1
        refine ⟨_, _, run_endRound none hl2, rfl, ⟨hIo _ C L _ hi2 (by simp only [L]; omega) ⟨_, hl2, rfl⟩, World.putObj_heap_same hlt2, (World.putObj_heap_other (by simp only [L]; omega)).trans hd2⟩, ?_⟩
        exact hKt hp (hKt (hKb B _ ⟨_, hl1⟩) (hKt hp2 (hKb C _ ⟨_, hl2⟩)))
      | _ => exact hB.elim
    · rintro e B ⟨⟨v, rfl⟩, xs, hS, hi, hl, hd⟩
      exact ⟨none, _, run_endLoop hl (by simp), hdone _ xs _ (Nat.le_refl _) hS (hIo _ B L _ hi (by simp only [L]; omega) ⟨_, hl, rfl⟩) ((World.putObj_heap_other (by simp only [L]; omega)).trans hd)⟩
end Go.Proofs.Ytoneepoaodoijaa
