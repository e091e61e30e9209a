/- The group's shards, told by a function. -/
import Derived.RangeFuncNested
import Derived.RangeFuncBound
import Derived.RangeFuncBox
import Derived.RangeFuncCalls
import Derived.RangeFuncLeaves
import Derived.Shelf.Abstract
import Derived.Shelf.RegionOpen
import Derived.OwnWalkIn
import Derived.TacticsInMore
import Derived.LoopNIn
import Derived.LoopIn
import Derived.Lib.QuietBelowIn
import Derived.Test.YtbdmbhpmbklaiaaRH
import Derived.Test.YtbdmbhpmbklaiaaS3
namespace Go.Proofs.Ytbdmbhpmbklaiaa
open Go.RowKit Go.Lib Go.Shelf Gf

/-- What a round must keep: all that lies below M, but for some blocks. -/
def KpX (M : Nat) (X : List Nat) (A B : World) : Prop := A.heap.size ≤ B.heap.size ∧ ∀ k, k < M → k ∉ X → B.heap[k]? = A.heap[k]?
theorem KpX.refl (M : Nat) (X : List Nat) (A : World) : KpX M X A A := ⟨Nat.le_refl _, fun _ _ _ => rfl⟩
theorem KpX.trans {M : Nat} {X : List Nat} {A B C : World} (h : KpX M X A B) (k : KpX M X B C) : KpX M X A C := ⟨Nat.le_trans h.1 k.1, fun j h1 h2 => (k.2 j h1 h2).trans (h.2 j h1 h2)⟩
theorem KpX.of {M : Nat} {X Y : List Nat} {A B : World} (h : Chg Y A B) (hM : M ≤ A.heap.size) (hx : ∀ k ∈ Y, k ∈ X ∨ M ≤ k) : KpX M X A B := ⟨h.size, fun k h1 h2 => h.block k (by omega) (fun hm => by rcases hx k hm with h | h; exact h2 h; omega)⟩
theorem KpX.put {M : Nat} {X : List Nat} {w : World} (hM : M ≤ w.heap.size) (W : World) (l : Nat) (o : Obj) (hl : w.heap.size ≤ l) : KpX M X W (W.putObj l o) :=
  ⟨by simp, fun k h1 _ => World.putObj_heap_other (by omega)⟩
theorem KpX.cell {M : Nat} {X : List Nat} {A B : World} (h : KpX M X A B) {ad : Addr} {v : Value} (h1 : ad.block < M) (h2 : ad.block ∉ X) (hc : A.cell? ad = some v) : B.cell? ad = some v := (World.cell?_of_block (h.2 _ h1 h2)).trans hc
theorem KpX.one {M : Nat} {X : List Nat} {A B : World} (h : KpX M X A B) {b : Nat} {v : Value} {t : TypeId} (h1 : b < M) (h2 : b ∉ X) (ho : One A b v t) : One B b v t := (h.2 b h1 h2).trans ho
/-- The same, with all but memory as it was. -/
theorem KpX.chg {M : Nat} {X : List Nat} {w W : World} (h : KpX M X w W) (hM : w.heap.size ≤ M) : Chg X w { W with os := w.os, tape := w.tape, output := w.output } := ⟨rfl, rfl, rfl, h.1, fun k hk hx => h.2 k (by omega) hx⟩
theorem chg_put (W : World) (l : Nat) (o : Obj) : Chg [l] W (W.putObj l o) := ⟨rfl, rfl, rfl, by simp, fun k _ hx => World.putObj_heap_other (by simpa using hx)⟩
theorem RdG.keep {M : Nat} {X : List Nat} {w W : World} {v : Value} {l : List G} (h : RdG w v l) (hk : KpX M X w W) (hM : w.heap.size ≤ M) (hx : ∀ k ∈ ob v, k ∉ X) : RdG W v l := by
  have := RdG.far h (hk.chg hM) (fun _ => hx)
  exact this
theorem RdR.keep {M : Nat} {B : Nat × TypeId} {X : List Nat} {w W : World} {v : Value} {L : List Sd} (h : RdR w B v L) (hk : KpX M X w W) (hM : w.heap.size ≤ M) (hX : ∀ k, k < B.1 ∨ Ty w B.2 k → k ∉ X) (hv : ∀ k ∈ ob v, k ∉ X) : RdR W B v L := by
  obtain ⟨vs, h1, h2⟩ := RdR.far h (hk.chg hM) hX (fun _ => hv)
  exact ⟨vs, h1, h2.1, fun i hi => by obtain ⟨u, hu, hs⟩ := h2.2 i hi; exact ⟨u, hu, hs.sh, hs.rd, hs.inn⟩⟩
/-- The point of a place. -/
def gn (i : Nat) : G := if h : i < 256 then ge i h else 0
theorem gi_gn {i : Nat} (h : i < 256) : gi (gn i) = (i : Int) := by unfold gn; rw [dif_pos h]; rfl
theorem gn_inj {i j : Nat} (hi : i < 256) (hj : j < 256) (h : gn i = gn j) : i = j := by
  have := congrArg gi h
  rw [gi_gn hi, gi_gn hj] at this
  omega
abbrev Yl := Int × Option Addr × Nat × Nat
def enc (x : Yl) : Array Value := #[.int .i64 x.1, .slice x.2.1 x.2.2.1 x.2.2.2]
section
variable {w : World}
theorem shards25 (pa ra : Option Addr) (pn pc rn rc : Nat) (f t : Int) : Calls Try.prog 25 #[.agg #[.slice pa pn pc, .slice ra rn rc], .int .i64 f, .int .i64 t] w fun e w' => e = .returned (.func (.func 38) #[] #[.pointer (some ⟨w.heap.size + 1, 0, none⟩), .pointer (some ⟨w.heap.size + 2, 0, none⟩), .pointer (some ⟨w.heap.size, 0, none⟩)]) ∧ w' = ((w.alloc (.cells #[.slice pa pn pc, .slice ra rn rc] 44)).alloc (.cells #[.int .i64 f] 3)).alloc (.cells #[.int .i64 t] 3) := by
  go_enter Try.func25, Try.ntmps25
  go_wp2_with fail
  go_ret
  exact ⟨rfl, rfl⟩
theorem shards_mem {w' : World} {pa ra : Option Addr} {pn pc rn rc : Nat} {f t : Int} (h : w' = ((w.alloc (.cells #[.slice pa pn pc, .slice ra rn rc] 44)).alloc (.cells #[.int .i64 f] 3)).alloc (.cells #[.int .i64 t] 3)) :
    w'.heap[w.heap.size]? = some (.cells #[.slice pa pn pc, .slice ra rn rc] 44 (0, 0)) ∧ One w' (w.heap.size + 1) (.int .i64 f) 3 ∧ One w' (w.heap.size + 2) (.int .i64 t) 3 ∧ Below w.heap.size w w' ∧ w'.heap.size = w.heap.size + 3 := by
  subst h
  refine ⟨?_, ?_, ?_, ?_, by simp⟩
  · exact ((((Below.refl _ (w.alloc (.cells #[.slice pa pn pc, .slice ra rn rc] 44))).alloc (Nat.le_refl _) (.cells #[.int .i64 f] 3)).alloc (by simp) (.cells #[.int .i64 t] 3)).block _ (by simp)).trans (heap_alloc_new w _)
  · have := heap_alloc_new (w.alloc (.cells #[.slice pa pn pc, .slice ra rn rc] 44)) (.cells #[.int .i64 f] 3)
    rw [World.size_alloc] at this
    exact (((Below.refl _ ((w.alloc (.cells #[.slice pa pn pc, .slice ra rn rc] 44)).alloc (.cells #[.int .i64 f] 3))).alloc (Nat.le_refl _) (.cells #[.int .i64 t] 3)).block _ (by simp)).trans this
  · have := heap_alloc_new ((w.alloc (.cells #[.slice pa pn pc, .slice ra rn rc] 44)).alloc (.cells #[.int .i64 f] 3)) (.cells #[.int .i64 t] 3)
    simp only [World.size_alloc] at this
    exact this
  · exact (((Below.refl _ w).alloc (Nat.le_refl _) _).alloc (by simp) _).alloc (by simp; omega) _
end
section
attribute [local go_sem] Oper.semAt_some
set_option maxHeartbeats 8000000 in
set_option maxRecDepth 100000 in
theorem shards38_in {B : Nat × TypeId} (pa ra : Option Addr) (pn pc rn rc n f t : Nat) (pts : List G) (R : List Sd) (l q M : Nat) (X : List Nat) (J : List Yl → World → Prop) (W : World)
    (hst : ∀ A, KpX M X W A → RdG A (.slice pa pn pc) pts ∧ RdR A B (.slice ra rn rc) R) (hl : R.length = pts.length) (h0 : 0 < pts.length) (hm : pts.length ≤ 256) (hd : pts.Nodup) (hrow : ∀ j, j < R.length → (sl (R.getD j none)).length = n) (hn : n ≤ 4096) (hft : f ≤ t) (ht : t ≤ 256)
    (hq0 : W.heap[q]? = some (.cells #[.slice pa pn pc, .slice ra rn rc] 44 (0, 0))) (hq1 : One W (q + 1) (.int .i64 f) 3) (hq2 : One W (q + 2) (.int .i64 t) 3) (hqM : q + 2 < M) (hX : ∀ k ∈ X, k < q) (hWM : M ≤ W.heap.size)
    (hJb : ∀ pre A C, J pre A → Below A.heap.size A C → J pre C)
    (hY : ∀ pre x A, J pre A → (x.1 = ((f + pre.length : Nat) : Int) ∧ f + pre.length < t ∧ M ≤ A.heap.size ∧ KpX M X W A ∧ ∃ a c, x.2 = (some a, n, c) ∧ OwnG A M (.slice (some a) n c) (grp pts R n (gn (f + pre.length)))) → YieldAt Fence.wide 8 Try.prog l (enc x) A fun e C => e = .returned (.bool true) ∧ J (pre ++ [x]) C ∧ KpX M X A C)
    (hj0 : J [] W) :
    CallsIn Fence.wide 9 Try.prog 38 #[.func (.yield l) #[] #[], .pointer (some ⟨q + 1, 0, none⟩), .pointer (some ⟨q + 2, 0, none⟩), .pointer (some ⟨q, 0, none⟩)] W fun e C => (∃ v, e = .returned v) ∧ ∃ xs, xs.length = t - f ∧ J xs C := by
  have HST := Hid.mk hst
  have HY := Hid.mk hY
  have HJb := Hid.mk hJb
  have HL := Hid.mk hl
  have HD := Hid.mk hd
  have HRow := Hid.mk hrow
  have HX := Hid.mk hX
  have c1 := cell_of_one hq1
  have HQ0 := Hid.mk hq0
  have HQ1 := Hid.mk hq1
  have HQ2 := Hid.mk hq2
  clear hst hY hJb hl hd hrow hX hq0 hq1 hq2
  refine callsIn_of_wp Try.func38 rfl trivial ?_ rfl
  simp only [Try.ntmps38, List.size_toArray, List.length_cons, List.length_nil, Nat.reduceAdd, Nat.reduceSub, Array.replicate_succ, Array.replicate_zero, List.push_toArray, List.append_toArray, List.nil_append, List.cons_append]
  gi_wp2
  gi_loopw [5] (fun s5 wr => ∃ (i : Nat) (pre : List Yl), f ≤ i ∧ i ≤ t ∧ s5 = .int .i64 (i : Int) ∧ Hid (f + pre.length = i) ∧ J pre wr ∧ Hid (KpX M X W wr)) (fun s5 _ => t - (RowKit.intOf s5).toNat)
  case atStart => exact ⟨f, [], Nat.le_refl _, hft, rfl, ⟨rfl⟩, hj0, ⟨KpX.refl _ _ _⟩⟩
  case round =>
    obtain ⟨i, pre, hfi, hit, rfl, HPl, hJ, HK⟩ := hrel
    have d2 := cell_of_one (HK.out.one (b := q + 2) hqM (fun hm => by have := HX.out _ hm; omega) HQ2.out)
    have HQo : Hid (wr.heap[q]? = some (.cells #[.slice pa pn pc, .slice ra rn rc] 44 (0, 0))) := ⟨(HK.out.2 q (by omega) (fun hm => by have := HX.out _ hm; omega)).trans HQ0.out⟩
    have e0 : wr.cell? ⟨q, 0, none⟩ = some (.slice pa pn pc) := by rw [cell_of_row _ _ _ _ _ _ HQo.out]; rfl
    have e1 : wr.cell? ⟨q, 1, none⟩ = some (.slice ra rn rc) := by rw [cell_of_row _ _ _ _ _ _ HQo.out]; rfl
    by_cases hlt : i < t
    · have hltz : (i : Int) < (t : Int) := by omega
      have t1 := shard39 (w := wr) pa ra pn pc rn rc n pts R (gn i) (HST.out wr HK.out).1 (HST.out wr HK.out).2 HL.out h0 hm HD.out HRow.out hn
      rw [gi_gn (by omega)] at t1
      gi_wp2_with fail
      refine ⟨trivial, ?_⟩
      refine (callsIn_wide.2 t1).mono ?_
      rintro e w2 ⟨ad, c, rfl, ho2, hb2⟩
      have hj2 : J pre w2 := HJb.out _ _ _ hJ hb2
      have HWr : Hid (M ≤ wr.heap.size) := ⟨Nat.le_trans hWM HK.out.1⟩
      have HK2 : Hid (KpX M X W w2) := ⟨HK.out.trans (KpX.of (Chg.ofBelow (X := []) hb2) HWr.out (by simp))⟩
      have HE : Hid (((i : Int) = ((f + pre.length : Nat) : Int)) ∧ f + pre.length < t ∧ M ≤ w2.heap.size ∧ KpX M X W w2 ∧ ∃ a c', ((some ad, n, c) : Option Addr × Nat × Nat) = (some a, n, c') ∧ OwnG w2 M (.slice (some a) n c') (grp pts R n (gn (f + pre.length)))) := ⟨by
        have := HPl.out
        refine ⟨by omega, by omega, Nat.le_trans HWr.out hb2.size, HK2.out, ad, c, rfl, ?_⟩
        rw [this]
        exact own_base ho2 (fun g hg => by have := (ho2.lt g (mem_ob.2 hg)).1; have := HWr.out; omega)⟩
      obtain ⟨fn, tmps, assign, body, hy, hR⟩ := HY.out pre ((i : Int), some ad, n, c) w2 hj2 HE.out
      simp only [enc] at hy
      clear t1 hJ ho2 hb2 hj2 d2 e0 e1 HQo
      gi_wp2
      refine hR.mono ?_
      rintro e W3 ⟨rfl, hJ3, hk3⟩
      have HK3 : Hid (KpX M X W W3) := ⟨HK2.out.trans hk3⟩
      clear hk3 hR hy
      gi_wp2
      go_roundw
      case rel => exact ⟨i + 1, pre ++ [((i : Int), some ad, n, c)], by omega, by omega, by go_num, ⟨by have := HPl.out; rw [List.length_append]; simp; omega⟩, hJ3, HK3⟩
      case measure => simp [RowKit.intOf]; omega
    · gi_wp2
      go_end0
      refine ⟨⟨_, rfl⟩, pre, ?_, hJ⟩
      have := HPl.out
      omega
end
end Go.Proofs.Ytbdmbhpmbklaiaa
