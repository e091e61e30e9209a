/- The pieces of squeezed bytes, told by a function, as long as they are asked for. -/
import Derived.RangeFuncNested
import Derived.RangeFuncBound
import Derived.RangeFuncBox
import Derived.RangeFuncCalls
import Derived.RangeFuncLeaves
import Derived.Shelf.Abstract
import Derived.Shelf.RegionOpen
import Derived.OwnWalkIn
import Derived.TacticsInMore
import Derived.LoopNIn
import Derived.LoopIn
import Derived.Lib.QuietBelowIn
import Derived.Test.YtoneepoaodoijaaRX
import Derived.Test.YtoneepoaodoijaaQ4
namespace Go.Proofs.Ytoneepoaodoijaa
open Go.RowKit Go.Lib Go.Shelf Oct

/-- What a round must keep: all that lies below M, but for some blocks. -/
def KpX (M : Nat) (X : List Nat) (A B : World) : Prop := A.heap.size ≤ B.heap.size ∧ ∀ k, k < M → k ∉ X → B.heap[k]? = A.heap[k]?
theorem KpX.refl (M : Nat) (X : List Nat) (A : World) : KpX M X A A := ⟨Nat.le_refl _, fun _ _ _ => rfl⟩
theorem KpX.trans {M : Nat} {X : List Nat} {A B C : World} (h : KpX M X A B) (k : KpX M X B C) : KpX M X A C := ⟨Nat.le_trans h.1 k.1, fun j h1 h2 => (k.2 j h1 h2).trans (h.2 j h1 h2)⟩
theorem KpX.of {M : Nat} {X Y : List Nat} {A B : World} (h : Chg Y A B) (hM : M ≤ A.heap.size) (hx : ∀ k ∈ Y, k ∈ X ∨ M ≤ k) : KpX M X A B := ⟨h.size, fun k h1 h2 => h.block k (by omega) (fun hm => by rcases hx k hm with h | h; exact h2 h; omega)⟩
theorem KpX.put {M : Nat} {X : List Nat} {w : World} (hM : M ≤ w.heap.size) (W : World) (l : Nat) (o : Obj) (hl : w.heap.size ≤ l) : KpX M X W (W.putObj l o) :=
  ⟨by simp, fun k h1 _ => World.putObj_heap_other (by omega)⟩
theorem KpX.cell {M : Nat} {X : List Nat} {A B : World} (h : KpX M X A B) {ad : Addr} {v : Value} (h1 : ad.block < M) (h2 : ad.block ∉ X) (hc : A.cell? ad = some v) : B.cell? ad = some v := (World.cell?_of_block (h.2 _ h1 h2)).trans hc
/-- The same, with all but memory as it was. -/
theorem KpX.chg {M : Nat} {X : List Nat} {w W : World} (h : KpX M X w W) (hM : w.heap.size ≤ M) : Chg X w { W with os := w.os, tape := w.tape, output := w.output } := ⟨rfl, rfl, rfl, h.1, fun k hk hx => h.2 k (by omega) hx⟩
theorem chg_put (W : World) (l : Nat) (o : Obj) : Chg [l] W (W.putObj l o) := ⟨rfl, rfl, rfl, by simp, fun k _ hx => World.putObj_heap_other (by simpa using hx)⟩
theorem RdY.keep {M : Nat} {X : List Nat} {w W : World} {v : Value} {l : List Int} (h : RdY w v l) (hk : KpX M X w W) (hM : w.heap.size ≤ M) (hx : 0 < l.length → ∀ k ∈ ob v, k ∉ X) : RdY W v l := by
  have := Rd.far h (hk.chg hM) (fun h0 k hk => hx (by rw [yv_len] at h0; exact h0) k (mem_ob.2 hk))
  exact this
theorem RdY.lt {w : World} {v : Value} {l : List Int} (h : RdY w v l) (h0 : 0 < l.length) : ∀ k ∈ ob v, k < w.heap.size ∧ ∃ o : Obj, w.heap[k]? = some o ∧ o.isCells = true := fun k hk => by
  obtain ⟨g, o, c', e, _, hh⟩ := h.at h0
  have h3 := mem_ob.1 hk
  rw [e] at h3
  simp [Value.ownBlock] at h3
  subst h3
  exact ⟨World.block_lt_of_cell? _ _ (hh 0 h0), cells_of_cell (hh 0 h0)⟩
theorem RdY.put {w : World} {v : Value} {l : List Int} (h : RdY w v l) {k : Nat} {o : Obj} (hx : ∃ x : Obj, w.heap[k]? = some x ∧ x.isCells = false) : RdY (w.putObj k o) v l := by
  refine Rd.far h (chg_put w k o) (fun h0 j hj hm => ?_)
  rw [yv_len] at h0
  simp at hm
  subst hm
  obtain ⟨x, h1, h2⟩ := hx
  obtain ⟨y, h3, h4⟩ := (RdY.lt h h0 j (mem_ob.2 hj)).2
  rw [h1] at h3
  cases h3
  rw [h2] at h4
  cases h4
theorem OwnY.put {w : World} {base : Nat} {v : Value} {l : List Int} (h : OwnY w base v l) {k : Nat} {o : Obj} (hx : ∃ x : Obj, w.heap[k]? = some x ∧ x.isCells = false) : OwnY (w.putObj k o) base v l := by
  refine own_far h (chg_put w k o) (fun g hg hm => ?_)
  simp at hm
  subst hm
  obtain ⟨x, h1, h2⟩ := hx
  obtain ⟨cs, h3⟩ := own_ty h hg
  rw [h1] at h3
  cases h3
  cases h2
theorem stay_alloc {v : World} (o : Obj) {k : Nat} {x : Obj} (h : v.heap[k]? = some x) : (v.alloc o).heap[k]? = some x := (((Below.refl _ v).alloc (Nat.le_refl _) o).block k (Array.getElem?_eq_some_iff.1 h).1).trans h
theorem new_alloc {v : World} (o : Obj) {k : Nat} (h : v.heap.size = k) : (v.alloc o).heap[k]? = some o := by subst h; exact heap_alloc_new v o
/-- What comes: where the bytes of a piece lie, how far, how many, an error. -/
abbrev Yq := (Option Addr × Nat × Nat) × Nat × Nat × Int
def encq (x : Yq) : Array Value := #[pcv x.1.1 x.1.2.1 x.1.2.2 x.2.1 x.2.2.1, .int .i64 x.2.2.2]
/-- The piece k, as it comes. -/
structure IsPc (A : World) (v : Value) (b : List Int) (k : Nat) (x : Yq) : Prop where
  lt : pos b k < b.length
  ok : ∀ j, j < k → pos b j < b.length ∧ (tkP b (pos b j)).2.2 = 0
  far : x.2.1 = (tkP b (pos b k)).1.far
  n : x.2.2.1 = (tkP b (pos b k)).1.n
  e : x.2.2.2 = (tkP b (pos b k)).2.2
  rd : RdY A (.slice x.1.1 x.1.2.1 x.1.2.2) (tkP b (pos b k)).1.pl
  inn : ∀ g ∈ ob (.slice x.1.1 x.1.2.1 x.1.2.2), g ∈ ob v
theorem IsPc.put {A : World} {v : Value} {b : List Int} {k : Nat} {x : Yq} (h : IsPc A v b k x) {j : Nat} {o : Obj} (hx : ∃ x : Obj, A.heap[j]? = some x ∧ x.isCells = false) : IsPc (A.putObj j o) v b k x := ⟨h.lt, h.ok, h.far, h.n, h.e, h.rd.put hx, h.inn⟩
theorem IsPc.below {A C : World} {v : Value} {b : List Int} {k : Nat} {x : Yq} (h : IsPc A v b k x) (hb : Below A.heap.size A C) : IsPc C v b k x := ⟨h.lt, h.ok, h.far, h.n, h.e, Rd.far h.rd (Chg.ofBelow (X := []) hb) (by simp), h.inn⟩
theorem pos_le {b : List Int} (hb : By b) : ∀ k, (∀ j, j < k → pos b j < b.length ∧ (tkP b (pos b j)).2.2 = 0) → k ≤ pos b k ∧ pos b k ≤ b.length
  | 0, _ => ⟨Nat.le_refl _, Nat.zero_le _⟩
  | k + 1, h => by
    have ih := pos_le hb k (fun j hj => h j (by omega))
    have h1 := tkP_ok hb (h k (Nat.lt_succ_self k)).1 (h k (Nat.lt_succ_self k)).2
    simp only [pos]
    omega
section
variable {w : World}
theorem laid19 (v : Value) (hv : ∃ a n c, v = .slice a n c) : Calls Try.prog 19 #[v] w fun e w' => e = .returned (.func (.func 28) #[] #[.pointer (some ⟨w.heap.size, 0, none⟩)]) ∧ w' = w.alloc (.cells #[v] 22) := by
  obtain ⟨a, n, c, rfl⟩ := hv
  go_enter Try.func19, Try.ntmps19
  go_wp2_with fail
  go_ret
  exact ⟨rfl, rfl⟩
end
section
attribute [local go_sem] Oper.semAt_some
set_option maxHeartbeats 8000000 in
set_option maxRecDepth 100000 in
theorem laid28_x (v : Value) (b : List Int) (l q M : Nat) (X : List Nat) (J Jx : List Yq → World → Prop) (W : World)
    (hst : ∀ A, KpX M X W A → RdY A v b) (hb : By b) (hq : W.heap[q]? = some (.cells #[v] 22 (0, 0))) (hqM : q < M) (hX : q ∉ X) (hWM : M ≤ W.heap.size)
    (hJb : ∀ pre A C, J pre A → Below A.heap.size A C → J pre C)
    (hY : ∀ pre x A, J pre A → (M ≤ A.heap.size ∧ KpX M X W A ∧ IsPc A v b pre.length x) → YieldAt Fence.wide 8 Try.prog l (encq x) A fun e C => (e = .returned (.bool true) ∧ J (pre ++ [x]) C ∧ KpX M X A C) ∨ (e = .returned (.bool false) ∧ Jx (pre ++ [x]) C))
    (hj0 : J [] W) :
    CallsIn Fence.wide 9 Try.prog 28 #[.func (.yield l) #[] #[], .pointer (some ⟨q, 0, none⟩)] W fun e C => (∃ v, e = .returned v) ∧ ((∃ xs, (b.length ≤ pos b xs.length ∨ ∃ j, j < xs.length ∧ (tkP b (pos b j)).2.2 ≠ 0) ∧ J xs C) ∨ ∃ xs, Jx xs C) := by
  have HST := Hid.mk hst
  have HY := Hid.mk hY
  have HJb := Hid.mk hJb
  have HQ := Hid.mk hq
  have HBy := Hid.mk hb
  have hlen : b.length ≤ maxLen := by obtain ⟨_, _, _, h1, h2, _⟩ := (hst W (KpX.refl _ _ _)).shape; omega
  obtain ⟨va, vc, ev, _⟩ := (hst W (KpX.refl _ _ _)).shape
  subst ev
  obtain ⟨n, Hn⟩ : ∃ n, Hid (b.length = n) := ⟨_, ⟨rfl⟩⟩
  have c0 : W.cell? ⟨q, 0, none⟩ = some (.slice va b.length vc) := by rw [cell_of_row _ _ _ _ _ _ hq]; rfl
  clear hst hY hJb hq hb
  rw [Hn.out] at hlen c0 HQ HST HY
  refine callsIn_of_wp Try.func28 rfl trivial ?_ rfl
  simp only [Try.ntmps28, List.size_toArray, List.length_cons, List.length_nil, Nat.reduceAdd, Nat.reduceSub, Array.replicate_succ, Array.replicate_zero, List.push_toArray, List.append_toArray, List.nil_append, List.cons_append]
  gi_wp2
  gi_loopw [3] (fun s3 wr => ∃ (k p : Nat) (pre : List Yq), s3 = .int .i64 (p : Int) ∧ p ≤ n ∧ Hid (pos b k = p) ∧ Hid (pre.length = k) ∧ Hid (∀ j, j < k → pos b j < b.length ∧ (tkP b (pos b j)).2.2 = 0) ∧ J pre wr ∧ Hid (KpX M X W wr)) (fun s3 _ => n - (RowKit.intOf s3).toNat)
  case atStart => exact ⟨0, 0, [], rfl, Nat.zero_le _, ⟨rfl⟩, ⟨rfl⟩, ⟨fun j hj => by omega⟩, hj0, ⟨KpX.refl _ _ _⟩⟩
  case round =>
    obtain ⟨k, p, pre, rfl, hpn, HP, HPl, HG, hJ, HK⟩ := hrel
    have HQr : Hid (wr.heap[q]? = some (.cells #[.slice va n vc] 22 (0, 0))) := ⟨(HK.out.2 q hqM hX).trans HQ.out⟩
    have e0 : wr.cell? ⟨q, 0, none⟩ = some (.slice va n vc) := by rw [cell_of_row _ _ _ _ _ _ HQr.out]; rfl
    by_cases hlt : p < n
    · have hltz : (p : Int) < (n : Int) := by omega
      have t1 := tp29 (w := wr) (.slice va n vc) b p (HST.out wr HK.out) HBy.out (by rw [Hn.out]; exact hlt)
      gi_wp2_with fail
      refine ⟨trivial, ?_⟩
      refine (callsIn_wide.2 t1).mono ?_
      rintro e w2 ⟨⟨pa, pn, pc, rfl, hr2, ho2⟩, hb2⟩
      have HWr : Hid (M ≤ wr.heap.size) := ⟨Nat.le_trans hWM HK.out.1⟩
      obtain ⟨T, HT⟩ : ∃ T, Hid (tkP b p = T) := ⟨_, ⟨rfl⟩⟩
      rw [HT.out] at hr2 ⊢
      obtain ⟨⟨pl, far, m⟩, nx, er⟩ := T
      simp only at hr2 ⊢
      unfold pcv
      have hb3 : Below wr.heap.size wr (w2.alloc (.cells #[.slice pa pn pc, .int .i64 (far : Int), .int .i64 (m : Int)] 38)) := hb2.alloc hb2.size _
      have hj3 : J pre (w2.alloc (.cells #[.slice pa pn pc, .int .i64 (far : Int), .int .i64 (m : Int)] 38)) := HJb.out _ _ _ hJ hb3
      have HK3 : Hid (KpX M X W (w2.alloc (.cells #[.slice pa pn pc, .int .i64 (far : Int), .int .i64 (m : Int)] 38))) := ⟨HK.out.trans (KpX.of (Chg.ofBelow (X := []) hb3) HWr.out (by simp))⟩
      have HI : Hid (IsPc (w2.alloc (.cells #[.slice pa pn pc, .int .i64 (far : Int), .int .i64 (m : Int)] 38)) (.slice va n vc) b pre.length ((pa, pn, pc), far, m, er)) := ⟨by
        have hT := HT.out
        rw [← HP.out] at hT
        rw [HPl.out]
        refine ⟨by rw [HP.out, Hn.out]; exact hlt, HG.out, by rw [hT], by rw [hT], by rw [hT], ?_, ho2⟩
        rw [hT]
        exact Rd.far hr2 (Chg.ofBelow (X := []) ((Below.refl _ w2).alloc (Nat.le_refl _) _)) (by simp)⟩
      have HNX : Hid (pos b (k + 1) = nx) := ⟨by have hT := HT.out; rw [← HP.out] at hT; simp only [pos, hT]⟩
      have HEr : Hid ((tkP b (pos b k)).2.2 = er) := ⟨by rw [HP.out, HT.out]⟩
      have HPn : Hid (er = 0 → p < nx ∧ nx ≤ n) := ⟨fun h => by
        have := tkP_ok HBy.out (at' := p) (by rw [Hn.out]; exact hlt) (by rw [HT.out]; exact h)
        rw [HT.out, Hn.out] at this
        exact ⟨this.1, this.2.1⟩⟩
      obtain ⟨fn, tmps, assign, body, hy, hR⟩ := HY.out pre ((pa, pn, pc), far, m, er) _ hj3 ⟨Nat.le_trans HWr.out hb3.size, HK3.out, HI.out⟩
      simp only [encq, pcv] at hy
      clear t1 hJ hr2 ho2 hb2 hb3 hj3 e0 HQr
      by_cases her : er = 0
      · subst her
        obtain ⟨hn1, hn2⟩ := HPn.out rfl
        gi_wp2
        refine hR.mono ?_
        rintro e W3 (⟨rfl, hJ3, hk3⟩ | ⟨rfl, hx3⟩)
        · have HK4 : Hid (KpX M X W W3) := ⟨HK3.out.trans hk3⟩
          clear hk3 hR hy
          gi_wp2
          go_roundw
          case rel => exact ⟨k + 1, nx, pre ++ [((pa, pn, pc), far, m, 0)], rfl, hn2, HNX, ⟨by rw [List.length_append, HPl.out]; rfl⟩, ⟨fun j hj => by
            by_cases e : j = k
            · subst e
              exact ⟨by rw [HP.out, Hn.out]; exact hlt, HEr.out⟩
            · exact HG.out j (by omega)⟩, hJ3, HK4⟩
          case measure => simp [RowKit.intOf]; omega
        · clear hR hy
          gi_wp2
          (try simp only [Exit.inBlock, Exit.then]); refine bodyPost_ret (results_none rfl _ _ _) rfl ?_
          exact ⟨⟨_, rfl⟩, .inr ⟨_, hx3⟩⟩
      · have hne : (er != 0) = true := by simpa using her
        have HX : Hid (∃ j, j < (pre ++ [(((pa, pn, pc), far, m, er) : Yq)]).length ∧ (tkP b (pos b j)).2.2 ≠ 0) := ⟨⟨k, by rw [List.length_append, HPl.out]; simp, by rw [HEr.out]; exact her⟩⟩
        clear her
        gi_wp2
        refine hR.mono ?_
        rintro e W3 (⟨rfl, hJ3, hk3⟩ | ⟨rfl, hx3⟩)
        · clear hk3 hR hy
          gi_wp2
          (try simp only [Exit.inBlock, Exit.then]); refine bodyPost_ret (results_none rfl _ _ _) rfl ?_
          exact ⟨⟨_, rfl⟩, .inl ⟨_, .inr HX.out, hJ3⟩⟩
        · clear hR hy
          gi_wp2
          (try simp only [Exit.inBlock, Exit.then]); refine bodyPost_ret (results_none rfl _ _ _) rfl ?_
          exact ⟨⟨_, rfl⟩, .inr ⟨_, hx3⟩⟩
    · gi_wp2
      go_end0
      refine ⟨⟨_, rfl⟩, .inl ⟨pre, .inl ?_, hJ⟩⟩
      rw [HPl.out, HP.out, Hn.out]
      omega
end
end Go.Proofs.Ytoneepoaodoijaa
