/- A range over a function that says what comes next, and out of which world; the group's shards so. -/
import Derived.Test.YtbdmbhpmbklaiaaS4
namespace Go.Proofs.Ytbdmbhpmbklaiaa
open Go.RowKit Go.Lib Go.Shelf Gf

section
/-- What such a function tells: the elements of a list that S allows, one behind the other; each after those ahead as E allows. -/
def SeqU {α : Type} (F : Fence) (n : Nat) (P : Program) (g : Nat) (lb : Array Value) (encs : α → Array Value) (Kp : World → World → Prop) (S : List α → Prop) (E : List α → α → World → World → Prop) (w : World) : Prop :=
  ∀ (l : Nat) (J : List α → World → Prop) (W : World), Below w.heap.size w W → (∀ pre A B, J pre A → Below A.heap.size A B → J pre B) →
    (∀ pre x A0 A, J pre A0 → Below A0.heap.size A0 A → E pre x A0 A → YieldAt F (n - 1) P l (encs x) A fun e B => e = .returned (.bool true) ∧ J (pre ++ [x]) B ∧ Kp A B) →
    J [] W → CallsIn F n P g (#[.func (.yield l) #[] #[]] ++ lb) W fun e B => (∃ v, e = .returned v) ∧ ∃ xs, S xs ∧ J xs B
variable {F : Fence} {n : Nat} {P : Program}
theorem range_u {α : Type} {g : Operand} {ps : Array Tmp} {assign body : Code} {Q : Exit → Act → World → Prop} {a : Act} {w : World}
    (hro : F.round = none) (h1 : 1 ≤ n) {gf : Nat} {lb : Array Value} (hg : a.eval g = .func (.func gf) #[] lb) (hFg : F.fn gf) (eg : ∀ args w, (callFunc gf args).run P w = .ok (.enter gf args) w)
    {encs : α → Array Value} {Kp : World → World → Prop} {S : List α → Prop} {E : List α → α → World → World → Prop} (hseq : SeqU F (n - 1) P gf lb encs Kp S E w) (hps : ∀ x, (encs x).size = ps.size)
    (hKt : ∀ {A B C : World}, Kp A B → Kp B C → Kp A C) (hKb : ∀ (W : World) (l : Nat) (o : Obj), w.heap.size ≤ l → Kp W (W.putObj l o))
    (I : List α → World → Prop) (Mid : List α → α → Act → World → Prop)
    (hIb : ∀ pre A B, I pre A → Below A.heap.size A B → I pre B) (hIo : ∀ pre A l o, I pre A → w.heap.size ≤ l → (∃ x : Obj, A.heap[l]? = some x ∧ x.isCells = false) → I pre (A.putObj l o))
    (hMo : ∀ pre x b A l o, Mid pre x b A → w.heap.size ≤ l → (∃ y : Obj, A.heap[l]? = some y ∧ y.isCells = false) → Mid pre x b (A.putObj l o))
    (h0 : I [] w)
    (hassign : ∀ (l : Nat) (pre : List α) (x : α) (A0 W : World), I pre A0 → Below A0.heap.size A0 W → E pre x A0 W →
      assign.wpIn (F.inRound l) (n - 1 - 1) P (Exit.then (fun b B => KeepsFrom w.heap.size W B ∧ Kp W B ∧ Mid pre x b B) (fun _ _ _ => False)) { tmps := (ps.zip (encs x)).foldl (fun t (p, v) => t.setIfInBounds p v) a.tmps, defers := [] } W)
    (hbody : ∀ (l : Nat) (pre : List α) (x : α) (b : Act) (W : World), Mid pre x b W → body.wpIn (F.inRound l) (n - 1 - 1) P (fun e _ B => e = .normal ∧ KeepsFrom w.heap.size W B ∧ Kp W B ∧ I (pre ++ [x]) B) b W)
    (hdone : ∀ (D : Nat) (xs : List α) (W : World), w.heap.size ≤ D → S xs → I xs W → W.heap[D]? = some (.deferred (some [])) → Q .normal { a with defers := { target := .collected D, args := #[] } :: a.defers } W) :
    (Code.rangeFunc g ps assign body).wpIn F n P Q a w := by
  refine wpIn_rangeFunc (fun fn hfn => ?_)
  rw [hro]
  let R : LoopState → Obj := fun s => .loop { state := s, pending := none, fn, tmps := a.tmps, params := ps, assign, body, defers := w.heap.size }
  let L := w.heap.size + 1
  let V := (w.alloc (.deferred (some []))).alloc (R .ready)
  have hbV : Below w.heap.size w V := ((Below.refl _ w).alloc (Nat.le_refl _) _).alloc (by simp) _
  have hVL : V.heap[L]? = some (R .ready) := by
    have := heap_alloc_new (w.alloc (.deferred (some []))) (R .ready)
    simpa [V, L] using this
  have hVD : V.heap[w.heap.size]? = some (.deferred (some [])) := by
    have h : (w.alloc (.deferred (some []))).heap[w.heap.size]? = some (.deferred (some [])) := heap_alloc_new w _
    exact (((Below.refl _ (w.alloc (.deferred (some [])))).alloc (Nat.le_refl _) (R .ready)).block _ (by simp)).trans h
  refine ⟨L, [{ target := .collected w.heap.size, args := #[] }], V, { target := .fn (.func gf) lb, args := #[.func (.yield L) #[] #[]] }, V, gf, #[.func (.yield L) #[] #[]] ++ lb, V, run_enterLoop_outer .., ?_, ?_, ?_, fun _ => h1, ?_⟩
  · simp only [resolve, hg]
    simp [go_sem]
  · intro f' hf'
    simp [Target.leads] at hf'
    subst hf'
    exact hFg
  · simp [invoke, go_sem, eg]
  · let J : List α → World → Prop := fun pre W => I pre W ∧ W.heap[L]? = some (R .ready) ∧ W.heap[w.heap.size]? = some (.deferred (some []))
    have stay : ∀ {A B : World} {k : Nat} {o : Obj}, Below A.heap.size A B → A.heap[k]? = some o → B.heap[k]? = some o := fun hb hk => (hb.block _ (Array.getElem?_eq_some_iff.1 hk).1).trans hk
    refine (hseq L J V hbV (fun pre A B hJ hb => ⟨hIb pre A B hJ.1 hb, stay hb hJ.2.1, stay hb hJ.2.2⟩) ?_ ⟨hIb [] w V h0 hbV, hVL, hVD⟩).mono ?_
    · rintro pre x A0 A ⟨hi, hl0, hd0⟩ hbe hlen
      have hl := stay hbe hl0
      have hd := stay hbe hd0
      have hy := run_yield (P := P) (args := encs x) hl (hps x)
      refine ⟨fn, _, assign, body, hy, roundIn_of_wpIn hfn (wpIn_mono (hassign L pre x A0 A hi hbe hlen) ?_)⟩
      rintro e b B hB
      cases e with
      | normal =>
        obtain ⟨hk, hp, hm⟩ := hB
        have hl1 := hk.same L _ (by simp only [L]; omega) hl rfl
        have hd1 := hk.same _ _ (Nat.le_refl _) hd rfl
        have hlt := (Array.getElem?_eq_some_iff.1 hl1).1
        refine ⟨_, run_beginRound hl1 rfl, wpIn_mono (hbody L pre x b _ (hMo pre x b B L _ hm (by simp only [L]; omega) ⟨_, hl1, rfl⟩)) ?_⟩
        rintro e2 b2 C ⟨rfl, hk2, hp2, hi2⟩
        have hl2 := hk2.same L _ (by simp only [L]; omega) (World.putObj_heap_same hlt) rfl
        have hd2 := hk2.same _ _ (Nat.le_refl _) ((World.putObj_heap_other (by simp only [L]; omega)).trans hd1) rfl
        have hlt2 := (Array.getElem?_eq_some_iff.1 hl2).1
        refine ⟨_, _, run_endRound none hl2, rfl, ⟨hIo _ C L _ hi2 (by simp only [L]; omega) ⟨_, hl2, rfl⟩, World.putObj_heap_same hlt2, (World.putObj_heap_other (by simp only [L]; omega)).trans hd2⟩, ?_⟩
        exact hKt hp (hKt (hKb B L _ (by simp only [L]; omega)) (hKt hp2 (hKb C L _ (by simp only [L]; omega))))
      | _ => exact hB.elim
    · rintro e B ⟨⟨v, rfl⟩, xs, hS, hi, hl, hd⟩
      exact ⟨none, _, run_endLoop hl (by simp), hdone _ xs _ (Nat.le_refl _) hS (hIo _ B L _ hi (by simp only [L]; omega) ⟨_, hl, rfl⟩) ((World.putObj_heap_other (by simp only [L]; omega)).trans hd)⟩

end
section
attribute [local go_sem] Oper.semAt_some
set_option maxHeartbeats 8000000 in
set_option maxRecDepth 100000 in
theorem shards38_u {B : Nat × TypeId} (pa ra : Option Addr) (pn pc rn rc n f t : Nat) (pts : List G) (R : List Sd) (l q M : Nat) (X : List Nat) (J : List Yl → World → Prop) (W : World)
    (hst : ∀ A, KpX M X W A → RdG A (.slice pa pn pc) pts ∧ RdR A B (.slice ra rn rc) R) (hl : R.length = pts.length) (h0 : 0 < pts.length) (hm : pts.length ≤ 256) (hd : pts.Nodup) (hrow : ∀ j, j < R.length → (sl (R.getD j none)).length = n) (hn : n ≤ 4096) (hft : f ≤ t) (ht : t ≤ 256)
    (hq0 : W.heap[q]? = some (.cells #[.slice pa pn pc, .slice ra rn rc] 44 (0, 0))) (hq1 : One W (q + 1) (.int .i64 f) 3) (hq2 : One W (q + 2) (.int .i64 t) 3) (hqM : q + 2 < M) (hX : ∀ k ∈ X, k < q) (hWM : M ≤ W.heap.size)
    (hJb : ∀ pre A C, J pre A → Below A.heap.size A C → J pre C)
    (hY : ∀ pre x A0 A, J pre A0 → Below A0.heap.size A0 A → (x.1 = ((f + pre.length : Nat) : Int) ∧ f + pre.length < t ∧ M ≤ A.heap.size ∧ KpX M X W A ∧ ∃ a c, x.2 = (some a, n, c) ∧ M ≤ A0.heap.size ∧ OwnG A A0.heap.size (.slice (some a) n c) (grp pts R n (gn (f + pre.length)))) → YieldAt Fence.wide 8 Try.prog l (enc x) A fun e C => e = .returned (.bool true) ∧ J (pre ++ [x]) C ∧ KpX M X A C)
    (hj0 : J [] W) :
    CallsIn Fence.wide 9 Try.prog 38 #[.func (.yield l) #[] #[], .pointer (some ⟨q + 1, 0, none⟩), .pointer (some ⟨q + 2, 0, none⟩), .pointer (some ⟨q, 0, none⟩)] W fun e C => (∃ v, e = .returned v) ∧ ∃ xs, xs.length = t - f ∧ J xs C := by
  have HST := Hid.mk hst
  have HY := Hid.mk hY
  have HJb := Hid.mk hJb
  have HL := Hid.mk hl
  have HD := Hid.mk hd
  have HRow := Hid.mk hrow
  have HX := Hid.mk hX
  have c1 := cell_of_one hq1
  have HQ0 := Hid.mk hq0
  have HQ1 := Hid.mk hq1
  have HQ2 := Hid.mk hq2
  clear hst hY hJb hl hd hrow hX hq0 hq1 hq2
  refine callsIn_of_wp Try.func38 rfl trivial ?_ rfl
  simp only [Try.ntmps38, List.size_toArray, List.length_cons, List.length_nil, Nat.reduceAdd, Nat.reduceSub, Array.replicate_succ, Array.replicate_zero, List.push_toArray, List.append_toArray, List.nil_append, List.cons_append]
  gi_wp2
  gi_loopw [5] (fun s5 wr => ∃ (i : Nat) (pre : List Yl), f ≤ i ∧ i ≤ t ∧ s5 = .int .i64 (i : Int) ∧ Hid (f + pre.length = i) ∧ J pre wr ∧ Hid (KpX M X W wr)) (fun s5 _ => t - (RowKit.intOf s5).toNat)
  case atStart => exact ⟨f, [], Nat.le_refl _, hft, rfl, ⟨rfl⟩, hj0, ⟨KpX.refl _ _ _⟩⟩
  case round =>
    obtain ⟨i, pre, hfi, hit, rfl, HPl, hJ, HK⟩ := hrel
    have d2 := cell_of_one (HK.out.one (b := q + 2) hqM (fun hm => by have := HX.out _ hm; omega) HQ2.out)
    have HQo : Hid (wr.heap[q]? = some (.cells #[.slice pa pn pc, .slice ra rn rc] 44 (0, 0))) := ⟨(HK.out.2 q (by omega) (fun hm => by have := HX.out _ hm; omega)).trans HQ0.out⟩
    have e0 : wr.cell? ⟨q, 0, none⟩ = some (.slice pa pn pc) := by rw [cell_of_row _ _ _ _ _ _ HQo.out]; rfl
    have e1 : wr.cell? ⟨q, 1, none⟩ = some (.slice ra rn rc) := by rw [cell_of_row _ _ _ _ _ _ HQo.out]; rfl
    by_cases hlt : i < t
    · have hltz : (i : Int) < (t : Int) := by omega
      have t1 := shard39 (w := wr) pa ra pn pc rn rc n pts R (gn i) (HST.out wr HK.out).1 (HST.out wr HK.out).2 HL.out h0 hm HD.out HRow.out hn
      rw [gi_gn (by omega)] at t1
      gi_wp2_with fail
      refine ⟨trivial, ?_⟩
      refine (callsIn_wide.2 t1).mono ?_
      rintro e w2 ⟨ad, c, rfl, ho2, hb2⟩
      have HWr : Hid (M ≤ wr.heap.size) := ⟨Nat.le_trans hWM HK.out.1⟩
      have HK2 : Hid (KpX M X W w2) := ⟨HK.out.trans (KpX.of (Chg.ofBelow (X := []) hb2) HWr.out (by simp))⟩
      have HE : Hid (((i : Int) = ((f + pre.length : Nat) : Int)) ∧ f + pre.length < t ∧ M ≤ w2.heap.size ∧ KpX M X W w2 ∧ ∃ a c', ((some ad, n, c) : Option Addr × Nat × Nat) = (some a, n, c') ∧ M ≤ wr.heap.size ∧ OwnG w2 wr.heap.size (.slice (some a) n c') (grp pts R n (gn (f + pre.length)))) := ⟨by
        have := HPl.out
        refine ⟨by omega, by omega, Nat.le_trans HWr.out hb2.size, HK2.out, ad, c, rfl, HWr.out, ?_⟩
        rw [this]
        exact ho2⟩
      obtain ⟨fn, tmps, assign, body, hy, hR⟩ := HY.out pre ((i : Int), some ad, n, c) wr w2 hJ hb2 HE.out
      simp only [enc] at hy
      clear t1 hJ ho2 hb2 d2 e0 e1 HQo
      gi_wp2
      refine hR.mono ?_
      rintro e W3 ⟨rfl, hJ3, hk3⟩
      have HK3 : Hid (KpX M X W W3) := ⟨HK2.out.trans hk3⟩
      clear hk3 hR hy
      gi_wp2
      go_roundw
      case rel => exact ⟨i + 1, pre ++ [((i : Int), some ad, n, c)], by omega, by omega, by go_num, ⟨by have := HPl.out; rw [List.length_append]; simp; omega⟩, hJ3, HK3⟩
      case measure => simp [RowKit.intOf]; omega
    · gi_wp2
      go_end0
      refine ⟨⟨_, rfl⟩, pre, ?_, hJ⟩
      have := HPl.out
      omega
end
end Go.Proofs.Ytbdmbhpmbklaiaa
