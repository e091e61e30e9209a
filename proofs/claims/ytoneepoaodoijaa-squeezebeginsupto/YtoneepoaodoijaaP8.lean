/- tellPlain: bytes as they are, in pieces. -/
import Derived.Test.YtoneepoaodoijaaP6
import Derived.Test.YtoneepoaodoijaaQ6
namespace Go.Proofs.Ytoneepoaodoijaa
open Go.RowKit Go.Lib Go.Shelf Oct

theorem roundIn_lev {n m : Nat} {P : Program} {l : Nat} {f : FuncId} {tmps : Array Value} {assign body : Code} {w : World} {R : Ending → World → Prop} (h : RoundIn Fence.wide n P l f tmps assign body w R) : RoundIn Fence.wide m P l f tmps assign body w R := ⟨h.1, fun c cs _ => h.2 c cs (room_wide _)⟩
theorem YieldAt.lev {n m : Nat} {P : Program} {l : Nat} {args : Array Value} {w : World} {R : Ending → World → Prop} (h : YieldAt Fence.wide n P l args w R) : YieldAt Fence.wide m P l args w R := by
  obtain ⟨fn, tmps, assign, body, h1, h2⟩ := h
  exact ⟨fn, tmps, assign, body, h1, roundIn_lev h2⟩
/-- Rows of something else, and maps. -/
def hard : Obj → Bool
  | .cells _ t _ => t != 5
  | .map _ _ => true
  | _ => false
/-- What comes: a chunk of the bytes; the blocks of the teller's own are rows of no bytes. -/
def IsCh (N : Nat) (X : List Nat) (W : World) (b : List Int) (k : Nat) (x : Yc) (A : World) : Prop := N ≤ A.heap.size ∧ KpX W.heap.size X W A ∧ k < cnk b.length ∧ RdY A (.slice x.1 x.2.1 x.2.2) (chk b k) ∧ x.2.1 = (chk b k).length ∧ ∀ j, W.heap.size ≤ j → j < N → ∃ o : Obj, A.heap[j]? = some o ∧ hard o = true
theorem results_cell1 {P : Program} {fn : Func} {p : Tmp} {ty : TypeId} (h : fn.results = #[.cell p ty]) (tmps : Array Value) (w : World) {a : Addr} {x : Value}
    (hp : tmps.getD p undef = .pointer (some a)) (hx : (loadVar ty a).run P w = .ok x w) :
    (results fn tmps).run P w = .ok x w := by
  have hp' : tmps[p]?.getD undef = .pointer (some a) := by simpa using hp
  simp [results, h, hp', asAddr, hx]
theorem load_4 {w : World} {b : Nat} {v : Value} (h : w.cell? ⟨b, 0, none⟩ = some v) : (loadVar 4 ⟨b, 0, none⟩).run Try.prog w = .ok v w := by
  have h1 : (isAgg 4).run Try.prog w = .ok false w := by kernel_rfl
  simp [loadVar, h1, load, Sem.run, h]
theorem mem4 {w w4 : World} {o0 o1 o2 o3 : Obj} (h : (((w.alloc o0).alloc o1).alloc o2).alloc o3 = w4) :
    w4.heap[w.heap.size]? = some o0 ∧ w4.heap[w.heap.size + 1]? = some o1 ∧ w4.heap[w.heap.size + 2]? = some o2 ∧ w4.heap[w.heap.size + 3]? = some o3 ∧ w4.heap.size = w.heap.size + 4 ∧ Below w.heap.size w w4 := by
  subst h
  refine ⟨stay_alloc _ (stay_alloc _ (stay_alloc _ (new_alloc _ rfl))), stay_alloc _ (stay_alloc _ (new_alloc _ (by simp))), stay_alloc _ (new_alloc _ (by simp)), new_alloc _ (by simp), by simp, (((((Below.refl _ w).alloc (Nat.le_refl _) _).alloc (by simp) _).alloc (by simp; omega) _).alloc (by simp; omega) _)⟩
section
attribute [local go_sem] Oper.semAt_some
set_option maxHeartbeats 8000000 in
set_option maxRecDepth 100000 in
theorem tell25 (v : Value) (b : List Int) (lo N : Nat) (X : List Nat) (J : List Yc → World → Prop) (W : World) (hb : b.length ≤ 8192) (hv : RdY W v b) (hXv : 0 < b.length → ∀ k ∈ ob v, k ∉ X) (hX : ∀ k ∈ X, k < W.heap.size) (hN : N = W.heap.size + 4)
    (hJb : ∀ pre A C, J pre A → Below A.heap.size A C → J pre C)
    (hJo : ∀ pre A k o, J pre A → W.heap.size ≤ k → (∃ x : Obj, A.heap[k]? = some x ∧ x.isCells = false) → J pre (A.putObj k o))
    (hJc : ∀ pre A C, J pre A → (∃ cs, A.heap[W.heap.size + 1]? = some (.cells cs 4 (0, 0))) → Chg [W.heap.size + 1] A C → J pre C)
    (hY : ∀ pre x A, J pre A → IsCh N X W b pre.length x A → YieldAt Fence.wide 7 Try.prog lo #[pcv x.1 x.2.1 x.2.2 0 0] A fun e C => e = .returned (.bool true) ∧ J (pre ++ [x]) C ∧ KpX N X A C ∧ KeepsFrom N A C)
    (hj0 : ∀ A, Below W.heap.size W A → N ≤ A.heap.size → J [] A) :
    CallsIn Fence.wide 10 Try.prog 25 #[v, .func (.yield lo) #[] #[]] W fun e C => e = .returned (.bool true) ∧ ∃ xs, xs.length = cnk b.length ∧ J xs C := by
  obtain ⟨va, vc, ev, _⟩ := hv.shape
  subst ev
  have HV := Hid.mk hv
  have HXv := Hid.mk hXv
  have HX := Hid.mk hX
  have HY := Hid.mk hY
  have HJb := Hid.mk hJb
  have HJo := Hid.mk hJo
  have HJ0 := Hid.mk hj0
  have HJc := Hid.mk hJc
  have HN := Hid.mk hN
  have t34 := fun w' => chunk34 (w := w') (.slice va b.length vc) ⟨_, _, _, rfl⟩
  obtain ⟨n, Hn⟩ : ∃ n, Hid (b.length = n) := ⟨_, ⟨rfl⟩⟩
  rw [Hn.out] at t34 HV HXv hb ⊢
  clear hv hXv hX hY hJb hJo hj0 hN hJc
  refine callsIn_of_wp_marks Try.func25 rfl trivial ?_ rfl
  simp only [Try.ntmps25, List.size_toArray, List.length_cons, List.length_nil, Nat.reduceAdd, Nat.reduceSub, Array.replicate_succ, Array.replicate_zero, List.push_toArray, List.append_toArray, List.nil_append, List.cons_append]
  gi_wp2_with fail
  refine ⟨trivial, ?_⟩
  refine (callsIn_wide.2 (t34 _)).mono ?_
  rintro e w4 ⟨rfl, hw4⟩
  have HM := Hid.mk (mem4 hw4.symm)
  obtain ⟨q, Hq⟩ : ∃ q, Hid (W.heap.size = q) := ⟨_, ⟨rfl⟩⟩
  have hsz : ((W.alloc (.cells #[.func (.yield lo) #[] #[]] 50)).alloc (.cells #[.bool false] 4)).heap.size = q + 2 := by rw [← Hq.out]; simp
  rw [hsz]
  have HB4 : Hid (Below W.heap.size W w4) := ⟨HM.out.2.2.2.2.2⟩
  rw [Hq.out] at HM HN HX HJo HJc ⊢
  have HS4 : Hid (w4.heap.size = q + 4) := ⟨HM.out.2.2.2.2.1⟩
  have hN : N = q + 4 := HN.out
  subst hN
  clear hw4 hsz t34
  have HKW : Hid (∀ A, KpX (q + 4) X w4 A → KpX W.heap.size X W A) := ⟨fun A hA => ⟨Nat.le_trans HB4.out.size hA.1, fun k h1 h2 => (hA.2 k (by have := Hq.out; omega) h2).trans (HB4.out.block k h1)⟩⟩
  have HR4 : Hid (∀ A, KpX (q + 4) X w4 A → RdY A (.slice va n vc) b) := ⟨fun A hA => RdY.keep HV.out (HKW.out A hA) (Nat.le_refl _) (by rw [Hn.out]; exact HXv.out)⟩
  have hqX : ∀ j, q + j ∉ X := fun j h => by have := HX.out _ h; omega
  have HCe : Hid (∀ A, KpX (q + 4) X w4 A → A.heap[q]? = some (.cells #[.func (.yield lo) #[] #[]] 50 (0, 0)) ∧ A.heap[q + 1]? = some (.cells #[.bool false] 4 (0, 0))) := ⟨fun A hA => ⟨(hA.2 q (by omega) (hqX 0)).trans HM.out.1, (hA.2 (q + 1) (by omega) (hqX 1)).trans HM.out.2.1⟩⟩
  have HHd : Hid (∀ A, KpX (q + 4) X w4 A → ∀ j, W.heap.size ≤ j → j < q + 4 → ∃ o : Obj, A.heap[j]? = some o ∧ hard o = true) := ⟨fun A hA j h1 h2 => by
    have hq := Hq.out
    obtain ⟨i, rfl⟩ : ∃ i, j = q + i := ⟨j - q, by omega⟩
    have hk := hA.2 (q + i) (by omega) (hqX i)
    have hi : i < 4 := by omega
    match i, hi with
    | 0, _ => exact ⟨_, hk.trans HM.out.1, rfl⟩
    | 1, _ => exact ⟨_, hk.trans HM.out.2.1, rfl⟩
    | 2, _ => exact ⟨_, hk.trans HM.out.2.2.1, rfl⟩
    | 3, _ => exact ⟨_, hk.trans HM.out.2.2.2.1, rfl⟩⟩
  have HSQ : Hid (SeqV Fence.wide 9 Try.prog 38 #[.pointer (some ⟨q + 2, 0, none⟩), .pointer (some ⟨q + 2 + 1, 0, none⟩)] encc (KpX (q + 4) X) (fun xs => xs.length = cnk n)
      (fun pre x A => KpX (q + 4) X w4 A ∧ IsCh (q + 4) X W b pre.length x A) w4) := ⟨fun l J' V hV hJb' hY' hj0' => by
    have hs4 := HS4.out
    have hKV : KpX (q + 4) X w4 V := KpX.of (Chg.ofBelow (X := []) hV) (by omega) (by simp)
    have := chunk38_v (.slice va n vc) b l (q + 2) (q + 4) X J' V (by rw [Hn.out]; exact hb) (fun A hA => HR4.out A (hKV.trans hA)) ((hV.block (q + 2) (by omega)).trans HM.out.2.2.1) ((hV.block (q + 2 + 1) (by omega)).trans HM.out.2.2.2.1) (by omega) ⟨hqX 2, hqX 3⟩ (by have := hV.size; omega) hJb'
      (fun pre x A hJ hE => hY' pre x A hJ ⟨hKV.trans hE.2.1, hE.1, HKW.out A (hKV.trans hE.2.1), hE.2.2.1, hE.2.2.2.1, hE.2.2.2.2, HHd.out A (hKV.trans hE.2.1)⟩) hj0'
    rw [Hn.out] at this
    exact this⟩
  gi_wp2
  refine range_v rfl (by decide) (gf := 38) (lb := #[.pointer (some ⟨q + 2, 0, none⟩), .pointer (some ⟨q + 2 + 1, 0, none⟩)]) rfl trivial (enters_of Try.func38 (by kernel_rfl) rfl) HSQ.out (fun _ => rfl) (fun h k => KpX.trans h k) (KpX.put (by have := HS4.out; omega))
    (fun pre A => J pre A ∧ KpX (q + 4) X w4 A)
    (fun pre y act A => act = { tmps := #[.slice va n vc, .func (.yield lo) #[] #[], undef, .pointer (some ⟨q, 0, none⟩), .pointer (some ⟨q + 1, 0, none⟩), .slice y.1 y.2.1 y.2.2, .slice va n vc, .func (.func 38) #[] #[.pointer (some ⟨q + 2, 0, none⟩), .pointer (some ⟨q + 2 + 1, 0, none⟩)], .slice y.1 y.2.1 y.2.2, undef, undef, undef, undef, undef], defers := [] } ∧ J pre A ∧ KpX (q + 4) X w4 A ∧ IsCh (q + 4) X W b pre.length y A)
    ?hIb ?hIo ?hMo ?h0 ?hassign ?hbody ?hdone
  case hIb =>
    rintro pre A C ⟨h1, h2⟩ hbl
    exact ⟨HJb.out _ _ _ h1 hbl, h2.trans (KpX.of (Chg.ofBelow (X := []) hbl) (by have := h2.1; have := HS4.out; omega) (by simp))⟩
  case hIo =>
    rintro pre A l o ⟨h1, h2⟩ hl hx
    exact ⟨HJo.out _ _ _ _ h1 (by have := HS4.out; omega) hx, h2.trans (KpX.put (by have := HS4.out; omega) A l o hl)⟩
  case hMo =>
    rintro pre y act A l o ⟨h0, h1, h2, h3, h4, h5, h6, h7, h8⟩ hl hx
    have hk : KpX (q + 4) X w4 (A.putObj l o) := h2.trans (KpX.put (by have := HS4.out; omega) A l o hl)
    exact ⟨h0, HJo.out _ _ _ _ h1 (by have := HS4.out; omega) hx, hk, by simpa using h3, HKW.out _ hk, h5, h6.put hx, h7, HHd.out _ hk⟩
  case h0 => exact ⟨HJ0.out w4 HB4.out (by have := HS4.out; omega), KpX.refl _ _ _⟩
  case hassign =>
    rintro l pre ⟨ya, yn, yc⟩ A ⟨h1, h2⟩ ⟨h3, h4⟩
    have H1 := Hid.mk h1
    have H4 := Hid.mk h4
    have H2 := Hid.mk h2
    simp only [encc]
    clear h1 h2 h3 h4
    gi_wp2
    exact ⟨⟨Nat.le_refl _, fun k' o _ hk' _ => hk'⟩, KpX.refl _ _ _, trivial, H1.out, H2.out, H4.out⟩
  case hbody =>
    rintro l pre ⟨ya, yn, yc⟩ act A ⟨rfl, h1, h2, h3⟩
    obtain ⟨x0, x1⟩ := HCe.out A h2
    have d0 : A.cell? ⟨q, 0, none⟩ = some (.func (.yield lo) #[] #[]) := by rw [cell_of_row _ _ _ _ _ _ x0]; rfl
    obtain ⟨fn, tmps, assign, body, hy, hR⟩ := HY.out pre (ya, yn, yc) A h1 h3
    have HR := Hid.mk hR
    have H2 := Hid.mk h2
    simp only [pcv] at hy ⊢
    clear h1 h2 h3 x0 x1 hR
    gi_wp2
    refine RoundIn.mono (F := Fence.wide.inRound l) HR.out ?_
    rintro e C ⟨rfl, hJ3, hk3, hf3⟩
    have H3 : Hid (J (pre ++ [(ya, yn, yc)]) C ∧ KpX (q + 4) X A C ∧ KeepsFrom (q + 4) A C) := ⟨hJ3, hk3, hf3⟩
    clear hJ3 hk3 hf3 hy
    gi_wp2
    exact ⟨by rw [HS4.out]; exact H3.out.2.2, H3.out.2.1, H3.out.1, H2.out.trans H3.out.2.1⟩
  case hdone =>
    rintro D xs A hD hxs ⟨h1, h2⟩ hKD
    obtain ⟨x0, x1⟩ := HCe.out A h2
    have d1 : A.cell? ⟨q + 1, 0, none⟩ = some (.bool false) := by rw [cell_of_row _ _ _ _ _ _ x1]; rfl
    have f1 : A.frozen? ⟨q + 1, 0, none⟩ = false := frozen_of_row A (q + 1) 0 _ 4 x1
    have H1 := Hid.mk h1
    have H2 := Hid.mk h2
    have HX1 : Hid (Boxed A (q + 1) 4 (.bool false)) := ⟨x1⟩
    have HKD := Hid.mk hKD
    have Hxs := Hid.mk hxs
    clear h1 h2 x0 x1 hKD hxs
    have hcc := (Chg.refl [q + 1] A).setCell (a := ⟨q + 1, 0, none⟩) (.inl (by simp)) (.bool true)
    have g1 := Boxed.set (.bool true) HX1.out
    have hs4 := HS4.out
    have hkd := (hcc.block D (Array.getElem?_eq_some_iff.1 HKD.out).1 (by simp; omega)).trans HKD.out
    have HJe : Hid (J xs ((A.setCell ⟨q + 1, 0, none⟩ (.bool true)).putObj D (.deferred none))) := ⟨HJo.out _ _ _ _ (HJc.out _ _ _ H1.out ⟨_, HX1.out⟩ hcc) (by omega) ⟨_, hkd, rfl⟩⟩
    have HG1 : Hid (((A.setCell ⟨q + 1, 0, none⟩ (.bool true)).putObj D (.deferred none)).cell? ⟨q + 1, 0, none⟩ = some (.bool true)) := ⟨Boxed.cell (t := 4) ((World.putObj_heap_other (by omega)).trans g1)⟩
    have Hkd := Hid.mk hkd
    clear hcc g1 hkd
    gi_wp2
    refine ⟨by simp, .inl ⟨_, _, rfl, run_takeDeferred Hkd.out, ?_⟩⟩
    exact ⟨_, results_cell1 rfl _ _ rfl (load_4 HG1.out), rfl, xs, Hxs.out, HJe.out⟩
end
end Go.Proofs.Ytoneepoaodoijaa
