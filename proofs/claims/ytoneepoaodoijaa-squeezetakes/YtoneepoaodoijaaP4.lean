/- The longest match at a place: longest. -/
import Derived.Lib.MinMax
import Derived.Test.YtoneepoaodoijaaP2
import Derived.Test.YtoneepoaodoijaaP3
import Derived.Test.YtoneepoaodoijaaRI
import Derived.Test.YtoneepoaodoijaaQ6
namespace Go.Proofs.Ytoneepoaodoijaa
open Go.RowKit Go.Lib Go.Shelf Oct

theorem mem6 {w w6 : World} {o0 o1 o2 o3 o4 o5 : Obj} (h : (((((w.alloc o0).alloc o1).alloc o2).alloc o3).alloc o4).alloc o5 = w6) :
    w6.heap[w.heap.size]? = some o0 ∧ w6.heap[w.heap.size + 1]? = some o1 ∧ w6.heap[w.heap.size + 2]? = some o2 ∧ w6.heap[w.heap.size + 3]? = some o3 ∧ w6.heap[w.heap.size + 4]? = some o4 ∧ w6.heap[w.heap.size + 5]? = some o5 ∧ w6.heap.size = w.heap.size + 6 ∧ Below w.heap.size w w6 := by
  subst h
  have m5 := mem5 (w := w) (o0 := o0) (o1 := o1) (o2 := o2) (o3 := o3) (o4 := o4) rfl
  exact ⟨stay_alloc _ m5.1, stay_alloc _ m5.2.1, stay_alloc _ m5.2.2.1, stay_alloc _ m5.2.2.2.1, stay_alloc _ m5.2.2.2.2.1, new_alloc _ (by simp), by simp, m5.2.2.2.2.2.2.alloc (by simp; omega) _⟩
theorem RdI.keep {M : Nat} {X : List Nat} {w W : World} {v : Value} {l : List Int} (h : RdI w v l) (hk : KpX M X w W) (hM : w.heap.size ≤ M) (hx : 0 < l.length → ∀ k ∈ ob v, k ∉ X) : RdI W v l := by
  have := Rd.far h (hk.chg hM) (fun h0 k hk => hx (by rw [iv_len] at h0; exact h0) k (mem_ob.2 hk))
  exact this
theorem wpIn_only {F : Fence} {n : Nat} {P : Program} {c : Code} {K : Act → World → Prop} {Q : Exit → Act → World → Prop} {a : Act} {w : World} (h : c.wpIn F n P (only K) a w) : c.wpIn F n P (Exit.then K Q) a w := wpIn_mono h (fun e a w hq => by cases e <;> first | exact hq | exact hq.elim)
theorem set3t {w : World} {q : Nat} {t : TypeId} {x0 x1 x2 : Value} (h : w.heap[q]? = some (.cells #[x0, x1, x2] t (0, 0))) (a b c : Value) :
    (((w.setCell ⟨q, 0, none⟩ a).setCell ⟨q, 1, none⟩ b).setCell ⟨q, 2, none⟩ c).heap[q]? = some (.cells #[a, b, c] t (0, 0)) ∧ Chg [q] w (((w.setCell ⟨q, 0, none⟩ a).setCell ⟨q, 1, none⟩ b).setCell ⟨q, 2, none⟩ c) := by
  have h1 := heap_setCell_same w q 0 _ t a h
  have h2 := heap_setCell_same _ q 1 _ t b h1
  have h3 := heap_setCell_same _ q 2 _ t c h2
  exact ⟨h3, (((Chg.refl [q] w).setCell (a := ⟨q, 0, none⟩) (.inl (by simp)) a).setCell (a := ⟨q, 1, none⟩) (.inl (by simp)) b).setCell (a := ⟨q, 2, none⟩) (.inl (by simp)) c⟩
/-- A match as a value. -/
def mtv (at' far n : Nat) : Value := .agg #[.int .i64 (at' : Int), .int .i64 (far : Int), .int .i64 (n : Int)]
/-- Between two rounds. -/
def InvL (M q : Nat) (w6 w : World) (p : List Int) (at' : Nat) (F : List Nat) (k : Nat) (A : World) : Prop := KpX M [q] w6 A ∧ Below w.heap.size w A ∧ M ≤ A.heap.size ∧ dk at' F k ≤ min at' 4096 ∧ A.heap[q]? = some (.cells #[.int .i64 (at' : Int), .int .i64 ((bst p at' (dk at' F k)).2 : Int), .int .i64 ((bst p at' (dk at' F k)).1 : Int)] 55 (0, 0))
def OutL (M q : Nat) (w6 w : World) (p : List Int) (at' : Nat) (A : World) : Prop := KpX M [q] w6 A ∧ Below w.heap.size w A ∧ M ≤ A.heap.size ∧ A.heap[q]? = some (.cells #[.int .i64 (at' : Int), .int .i64 ((mt p at').2 : Int), .int .i64 ((mt p at').1 : Int)] 55 (0, 0))
theorem results_row {P : Program} {fn : Func} {p : Tmp} {ty : TypeId} (h : fn.results = #[.cell p ty]) (tmps : Array Value) (w : World) (g : Nat) (t : TypeId) (cs : Array Value) (fr : Nat × Nat) (d : TypeDesc)
    (hp : tmps.getD p undef = .pointer (some ⟨g, 0, none⟩)) (hg : w.heap[g]? = some (.cells cs t fr))
    (hu : P.underlying ty = some d) (hd : (match d with | .struct _ | .array _ _ => true | _ => false) = true) (hi : (P.info? ty).map (·.size) = some cs.size) :
    (results fn tmps).run P w = .ok (.agg cs) w := results_cell_row h tmps w g t cs fr d hp hg hu hd hi
section
variable {w : World}
attribute [local go_sem] Oper.semAt_some
set_option maxHeartbeats 8000000 in
set_option maxRecDepth 100000 in
theorem longest33 (v fv : Value) (p : List Int) (at' : Nat) (F : List Nat) (hv : RdY w v p) (hf : RdI w fv (F.map Int.ofNat)) (hF : Frm p at' (fo p at') F) (h4 : at' + 4 ≤ p.length) (hp : p.length ≤ 8192) (hFl : F.length ≤ 8192) :
    Calls Try.prog 33 #[v, .int .i64 at', fv] w fun e w' => e = .returned (mtv at' (mt p at').2 (mt p at').1) ∧ Below w.heap.size w w' := by
  obtain ⟨va, vc, rfl, h1, h2, _⟩ := hv.shape
  obtain ⟨fa, fc, rfl, h5, h6, _⟩ := hf.shape
  have HV0 := Hid.mk hv
  have HF0 := Hid.mk hf
  have HF := Hid.mk hF
  have HFm : Hid ((F.map Int.ofNat).length = F.length) := ⟨by simp⟩
  rw [HFm.out] at HF0 h5 ⊢
  obtain ⟨n, Hn⟩ : ∃ n, Hid (p.length = n) := ⟨_, ⟨rfl⟩⟩
  obtain ⟨fn, Hfn⟩ : ∃ n, Hid (F.length = n) := ⟨_, ⟨rfl⟩⟩
  have HP4 := Hid.mk h4
  rw [Hn.out] at h1 h4 hp HV0 ⊢
  rw [Hfn.out] at h5 hFl HF0 ⊢
  obtain ⟨m, Hm⟩ : ∃ m, Hid (mst p at' = m) := ⟨_, ⟨rfl⟩⟩
  have hm : m = min 131 (n - at') := by rw [← Hm.out, mst, Hn.out]
  have hmz : min (131 : Int) ((n : Int) - at') = (m : Int) := by rw [hm]; omega
  have hmb : 4 ≤ m ∧ m ≤ 131 ∧ m ≤ n - at' := by omega
  have hs0 : IntKind.i64.wrap ((n : Int) - at') = (n : Int) - at' := IntWalk.i64_in _ ⟨by omega, by omega⟩
  obtain ⟨b1, b2, HB⟩ : ∃ b1 b2, Hid (mt p at' = (b1, b2)) := ⟨_, _, ⟨rfl⟩⟩
  rw [HB.out]
  clear hv hf hF hm
  refine (callsIn_wide (n := 10)).1 ?_
  refine callsIn_of_wp_marks Try.func33 rfl trivial ?_ rfl
  simp only [Try.ntmps33, List.size_toArray, List.length_cons, List.length_nil, Nat.reduceAdd, Nat.reduceSub, Array.replicate_succ, Array.replicate_zero, List.push_toArray, List.append_toArray, List.nil_append, List.cons_append]
  gi_wp2_with fail
  refine ⟨trivial, ?_⟩
  refine (callsIn_wide.2 (backward36 _ ⟨_, _, _, rfl⟩)).mono ?_
  rintro e w6 ⟨rfl, hw6⟩
  have HM := Hid.mk (mem6 hw6.symm)
  obtain ⟨q, Hq⟩ : ∃ q, Hid (w.heap.size = q) := ⟨_, ⟨rfl⟩⟩
  have hsz : (((((w.alloc (.cells #[.slice va n vc] 22)).alloc (.cells #[.int .i64 (at' : Int)] 3)).alloc (.cells #[.int .i64 0, .int .i64 0, .int .i64 0] 55)).alloc (.cells #[.int .i64 (m : Int)] 3)).alloc (.cells #[.int .i64 (at' : Int), .int .i64 0, .int .i64 0] 55)).heap.size = q + 5 := by rw [← Hq.out]; simp
  rw [hsz]
  rw [Hq.out] at HM ⊢
  have HB06 : Hid (Below w.heap.size w w6) := ⟨by rw [Hq.out]; exact HM.out.2.2.2.2.2.2.2⟩
  have HS6 : Hid (w6.heap.size = q + 6) := ⟨HM.out.2.2.2.2.2.2.1⟩
  clear hw6 hsz
  obtain ⟨g, off, hva⟩ : ∃ g o, va = some ⟨g, o, none⟩ := by
    obtain ⟨g, o, c, e, _⟩ := HV0.out.at (i := 0) (by rw [Hn.out]; omega)
    simp only [Value.slice.injEq] at e
    exact ⟨g, o, e.1⟩
  subst hva
  have HV6 : Hid (∀ A, KpX (q + 6) [q + 4] w6 A → RdY A (.slice (some ⟨g, off, none⟩) n vc) p ∧ RdI A (.slice fa fn fc) (F.map Int.ofNat) ∧ A.heap[q]? = some (.cells #[.slice (some ⟨g, off, none⟩) n vc] 22 (0, 0)) ∧ A.heap[q + 1]? = some (.cells #[.int .i64 (at' : Int)] 3 (0, 0)) ∧ A.heap[q + 2]? = some (.cells #[.int .i64 0, .int .i64 0, .int .i64 0] 55 (0, 0)) ∧ A.heap[q + 3]? = some (.cells #[.int .i64 (m : Int)] 3 (0, 0))) := ⟨fun A hA => by
    have hs := HS6.out
    have hq0 := Hq.out
    refine ⟨RdY.keep (HV0.out.far (Chg.ofBelow (X := []) HB06.out) (by simp)) hA (by omega) (fun h0 k hk => ?_), ?_, (hA.2 q (by omega) (by simp)).trans HM.out.1, (hA.2 (q + 1) (by omega) (by simp)).trans HM.out.2.1, (hA.2 (q + 2) (by omega) (by simp)).trans HM.out.2.2.1, (hA.2 (q + 3) (by omega) (by simp)).trans HM.out.2.2.2.1⟩
    · have h3 := (RdY.lt HV0.out h0 k hk).1
      simp
      omega
    · refine RdI.keep (Rd.far HF0.out (Chg.ofBelow (X := []) HB06.out) (by simp)) hA (by omega) (fun h0 k hk => ?_)
      obtain ⟨g', o', c', e, _, hh⟩ := HF0.out.at h0
      have hg := World.block_lt_of_cell? _ _ (hh 0 h0)
      have hk2 := mem_ob.1 hk
      rw [e] at hk2
      simp [Value.ownBlock] at hk2
      simp at hg ⊢
      omega⟩
  have HSQ : Hid (SeqX Fence.wide 9 Try.prog 40 #[.pointer (some ⟨q + 5, 0, none⟩)] encb (KpX (q + 6) [q + 4]) (fun xs => xs.length = fn)
      (fun pre x A => q + 6 ≤ A.heap.size ∧ KpX (q + 6) [q + 4] w6 A ∧ pre.length < fn ∧ x.2 = ((F.getD (fn - 1 - pre.length) 0 : Nat) : Int)) w6) := ⟨fun l J Jx W hW hJb hXb hY hj0 => by
    have hs6 := HS6.out
    have hKW : KpX (q + 6) [q + 4] w6 W := KpX.of (Chg.ofBelow (X := []) hW) (by omega) (by simp)
    have hres := backward40_x (.slice fa fn fc) (F.map Int.ofNat) l (q + 5) (q + 6) [q + 4] J Jx W (fun A hA => (HV6.out A (hKW.trans hA)).2.1) ((hW.block (q + 5) (by omega)).trans HM.out.2.2.2.2.2.1) (by omega) (by simp) (by have := hW.size; omega) (by rw [HFm.out, Hfn.out]; omega)
      (fun pre x A hJ hE => hY pre x A hJ ⟨hE.1, hKW.trans hE.2.1, by have := hE.2.2.1; rw [HFm.out, Hfn.out] at this; exact this, by
        have h1 := hE.2.2.1
        have h2 := hE.2.2.2
        rw [HFm.out, Hfn.out] at h1 h2
        rw [h2]
        simp [List.getD, List.getElem?_map, List.getElem?_eq_getElem (show fn - 1 - pre.length < F.length by rw [Hfn.out]; omega)]⟩) hj0
    rw [HFm.out, Hfn.out] at hres
    exact hres⟩
  gi_wp2
  refine range_x rfl (by decide) (gf := 40) (lb := #[.pointer (some ⟨q + 5, 0, none⟩)]) rfl trivial (enters_of Try.func40 (by kernel_rfl) rfl) HSQ.out (fun _ => rfl) (fun h k => KpX.trans h k) (KpX.put (by have := HS6.out; omega))
    (fun pre A => InvL (q + 6) (q + 4) w6 w p at' F pre.length A)
    (fun c _ A => c = .exit 0 ∧ OutL (q + 6) (q + 4) w6 w p at' A)
    (fun pre y act A => act = { tmps := #[.slice (some ⟨g, off, none⟩) n vc, .int .i64 (at' : Int), .slice fa fn fc, .pointer (some ⟨q, 0, none⟩), .pointer (some ⟨q + 1, 0, none⟩), undef, .pointer (some ⟨q + 1 + 1, 0, none⟩), .pointer (some ⟨q + 1 + 1 + 1, 0, none⟩), .pointer (some ⟨q + 1 + 1 + 1 + 1, 0, none⟩), undef, .int .i64 y.2, undef, .slice (some ⟨g, off, none⟩) n vc, .int .i64 (n : Int), .int .i64 (at' : Int), .int .i64 ((n : Int) - at'), .int .i64 (m : Int), .int .i64 (at' : Int), .agg #[.int .i64 (at' : Int), .int .i64 0, .int .i64 0], .slice fa fn fc, .func (.func 40) #[] #[.pointer (some ⟨q + 5, 0, none⟩)], .int .i64 y.1, .int .i64 y.2, undef, undef, undef, undef, undef, undef, undef, undef, undef, undef, undef, undef, undef, undef, undef, undef, undef, undef, undef, undef, undef, undef, undef, undef, undef, undef, undef, undef, undef], defers := [] } ∧ InvL (q + 6) (q + 4) w6 w p at' F pre.length A ∧ pre.length < fn ∧ y.2 = ((F.getD (fn - 1 - pre.length) 0 : Nat) : Int))
    ?hIb ?hIo ?hXb ?hXo ?hMo ?h0 ?hassign ?hbody ?hdone ?hstop
  case hIb =>
    rintro pre A C ⟨i1, i2, i3, i4, i5⟩ hb
    exact ⟨i1.trans (KpX.of (Chg.ofBelow (X := []) hb) i3 (by simp)), i2.trans (hb.mono i2.size), Nat.le_trans i3 hb.size, i4, (hb.block _ (Array.getElem?_eq_some_iff.1 i5).1).trans i5⟩
  case hIo =>
    rintro pre A l o ⟨i1, i2, i3, i4, i5⟩ hl hx
    have hs := HS6.out
    have hq0 := Hq.out
    exact ⟨i1.trans ⟨by simp, fun j hj _ => World.putObj_heap_other (by omega)⟩, i2.trans ((chg_put A l o).below i2.size (by simp; omega)), by simpa using i3, i4, (World.putObj_heap_other (by omega)).trans i5⟩
  case hXb =>
    rintro c pre A C ⟨h1, i1, i2, i3, i5⟩ hb
    exact ⟨h1, i1.trans (KpX.of (Chg.ofBelow (X := []) hb) i3 (by simp)), i2.trans (hb.mono i2.size), Nat.le_trans i3 hb.size, (hb.block _ (Array.getElem?_eq_some_iff.1 i5).1).trans i5⟩
  case hXo =>
    rintro c pre A l o ⟨h1, i1, i2, i3, i5⟩ hl hx
    have hs := HS6.out
    have hq0 := Hq.out
    exact ⟨h1, i1.trans ⟨by simp, fun j hj _ => World.putObj_heap_other (by omega)⟩, i2.trans ((chg_put A l o).below i2.size (by simp; omega)), by simpa using i3, (World.putObj_heap_other (by omega)).trans i5⟩
  case hMo =>
    rintro pre y act A l o ⟨h1, ⟨i1, i2, i3, i4, i5⟩, h3, h4⟩ hl hx
    have hs := HS6.out
    have hq0 := Hq.out
    exact ⟨h1, ⟨i1.trans ⟨by simp, fun j hj _ => World.putObj_heap_other (by omega)⟩, i2.trans ((chg_put A l o).below i2.size (by simp; omega)), by simpa using i3, i4, (World.putObj_heap_other (by omega)).trans i5⟩, h3, h4⟩
  case h0 => exact ⟨KpX.refl _ _ _, HB06.out, by have := HS6.out; omega, Nat.zero_le _, HM.out.2.2.2.2.1⟩
  case hassign =>
    rintro l pre y W hI ⟨e1, e2, e3, e4⟩
    have HI := Hid.mk hI
    have HE := Hid.mk e4
    have H3 := Hid.mk e3
    obtain ⟨y1, y2⟩ := y
    simp only [encb]
    clear hI e1 e2 e3 e4
    gi_wp2
    exact ⟨KeepsFrom.refl _ _, KpX.refl _ _ _, HI.out, H3.out, HE.out⟩
  case hbody =>
    rintro l pre ⟨y1, y2⟩ act W ⟨rfl, hI, hk, hy⟩ hl hr
    simp only at hy
    subst hy
    obtain ⟨k, Hk⟩ : ∃ k, Hid (pre.length = k) := ⟨_, ⟨rfl⟩⟩
    rw [Hk.out] at hI hk ⊢
    obtain ⟨i1, i2, i3, i4, i5⟩ := hI
    obtain ⟨x0, x1, x2, x3, x4, x5⟩ := HV6.out W i1
    have hkF : k < F.length := by rw [Hfn.out]; exact hk
    have hjlt := HF.out.lt (i := fn - 1 - k) (by rw [Hfn.out]; omega)
    have hdk : dk at' F (k + 1) = at' - F.getD (fn - 1 - k) 0 := by unfold dk; rw [if_neg (by omega), Hfn.out, show fn - (k + 1) = fn - 1 - k by omega]
    have hstep := HF.out.step HP4.out hkF
    rw [Hm.out, Hfn.out, show fn - (k + 1) = fn - 1 - k by omega, hdk] at hstep
    have hbl := bst_le p at' (dk at' F k)
    rw [Hm.out] at hbl
    obtain ⟨j, Hj⟩ : ∃ j, Hid (F.getD (fn - 1 - k) 0 = j) := ⟨_, ⟨rfl⟩⟩
    rw [Hj.out] at hjlt hdk hstep ⊢
    obtain ⟨bn, bf, Hbb⟩ : ∃ bn bf, Hid (bst p at' (dk at' F k) = (bn, bf)) := ⟨_, _, ⟨rfl⟩⟩
    rw [Hbb.out] at i5 hstep hbl
    simp only at i5 hstep hbl
    have d1 : W.cell? ⟨q + 1, 0, none⟩ = some (.int .i64 (at' : Int)) := by rw [cell_of_row _ _ _ _ _ _ x3]; rfl
    have d3 : W.cell? ⟨q + 1 + 1 + 1, 0, none⟩ = some (.int .i64 (m : Int)) := by rw [cell_of_row _ _ _ _ _ _ x5]; rfl
    have d4 : W.cell? ⟨q + 1 + 1 + 1 + 1, 2, none⟩ = some (.int .i64 (bn : Int)) := by rw [cell_of_row _ _ _ _ _ _ i5]; rfl
    have hs1 : IntKind.i64.wrap ((at' : Int) - (j : Int)) = (at' : Int) - j := IntWalk.i64_in _ ⟨by omega, by omega⟩
    have HI1 := Hid.mk i1
    have HI2 := Hid.mk i2
    have HI5 := Hid.mk i5
    have HX0 := Hid.mk x0
    have HX2 := Hid.mk x2
    have HX3 := Hid.mk x3
    have HX5 := Hid.mk x5
    have HStep := Hid.mk hstep
    have HDk := Hid.mk hdk
    have HBl := Hid.mk hbl
    have HOut : Hid (bst p at' (dk at' F k) = mt p at' → OutL (q + 6) (q + 4) w6 w p at' W) := ⟨fun h => ⟨HI1.out, HI2.out, i3, by rw [← h, Hbb.out]; exact HI5.out⟩⟩
    clear i1 i2 i5 x0 x1 x2 x3 x4 x5 hstep hdk hbl hr
    by_cases hfar : 4096 < at' - j
    · have hz : (4096 : Int) < (at' : Int) - j := by omega
      have HO := Hid.mk (HOut.out (HF.out.stop HP4.out (by omega) i4 (.inr ⟨hkF, .inl (by rw [HDk.out]; exact hfar)⟩)))
      clear hfar
      gi_wp2
      exact ⟨KeepsFrom.refl _ _, rfl, HO.out⟩
    · have hz : ¬ (4096 : Int) < (at' : Int) - j := by omega
      by_cases hful : bn = m
      · subst hful
        have HO := Hid.mk (HOut.out (HF.out.stop HP4.out (by omega) i4 (.inr ⟨hkF, .inr (by rw [Hbb.out, Hm.out])⟩)))
        gi_wp2
        exact ⟨KeepsFrom.refl _ _, rfl, HO.out⟩
      · have hnz : ¬ (bn : Int) = (m : Int) := by omega
        have hnb : ((bn : Int) == (m : Int)) = false := by simpa using hnz
        have HK0 : Hid (∀ w', Below W.heap.size W w' → w'.cell? ⟨q, 0, none⟩ = some (.slice (some ⟨g, off, none⟩) n vc) ∧ w'.cell? ⟨q + 1, 0, none⟩ = some (.int .i64 (at' : Int)) ∧ w'.cell? ⟨q + 1 + 1 + 1, 0, none⟩ = some (.int .i64 (m : Int))) := ⟨fun w' h => by
          have y2 := (h.block _ (Array.getElem?_eq_some_iff.1 HX2.out).1).trans HX2.out
          have y3 := (h.block _ (Array.getElem?_eq_some_iff.1 HX3.out).1).trans HX3.out
          have y5 := (h.block _ (Array.getElem?_eq_some_iff.1 HX5.out).1).trans HX5.out
          exact ⟨by rw [cell_of_row _ _ _ _ _ _ y2]; rfl, by rw [cell_of_row _ _ _ _ _ _ y3]; rfl, by rw [cell_of_row _ _ _ _ _ _ y5]; rfl⟩⟩
        have hjn : (j : Int) ≤ (n : Int) := by omega
        have han : (at' : Int) ≤ (n : Int) := by omega
        have hjv : j ≤ n ∧ at' ≤ n ∧ n ≤ vc := by omega
        have hvj : ¬ vc = j := by omega
        have hvt : ¬ vc = at' := by omega
        gi_wp2_with fail
        refine wpIn_only ?_
        refine HI.region (S := fun w' => Below W.heap.size W w') (by kernel_rfl) (Below.refl _ _).drew (fun hS => ?_)
        refine HI.take (i := 0) (v := .slice (some ⟨g, off, none⟩) n vc) rfl (by kernel_rfl) (by kernel_rfl) (by kernel_rfl) (by kernel_rfl) (fun _ _ _ h => h) (Or.inl ⟨by kernel_rfl, fun wx hx => by have hx0 := (HK0.out wx hx).1; go_simp⟩) hS ?_
        refine HI.take (i := 1) (v := .int .i64 (j : Int)) rfl (by kernel_rfl) (by kernel_rfl) (by kernel_rfl) (by kernel_rfl) (fun _ _ _ h => h) (Or.inl ⟨by kernel_rfl, fun wx hx => by go_simp⟩) hS ?_
        refine HI.take (i := 2) (v := .slice (some ⟨g, off + j, none⟩) (n - j) (vc - j)) rfl (by kernel_rfl) (by kernel_rfl) (by kernel_rfl) (by kernel_rfl) (fun _ _ _ h => h) (Or.inl ⟨by kernel_rfl, fun wx hx => by go_simp⟩) hS ?_
        refine HI.take (i := 3) (v := .slice (some ⟨g, off, none⟩) n vc) rfl (by kernel_rfl) (by kernel_rfl) (by kernel_rfl) (by kernel_rfl) (fun _ _ _ h => h) (Or.inl ⟨by kernel_rfl, fun wx hx => by have hx0 := (HK0.out wx hx).1; go_simp⟩) hS ?_
        refine HI.take (i := 4) (v := .int .i64 (at' : Int)) rfl (by kernel_rfl) (by kernel_rfl) (by kernel_rfl) (by kernel_rfl) (fun _ _ _ h => h) (Or.inl ⟨by kernel_rfl, fun wx hx => by have hx0 := (HK0.out wx hx).2.1; go_simp⟩) hS ?_
        refine HI.take (i := 5) (v := .slice (some ⟨g, off + at', none⟩) (n - at') (vc - at')) rfl (by kernel_rfl) (by kernel_rfl) (by kernel_rfl) (by kernel_rfl) (fun _ _ _ h => h) (Or.inl ⟨by kernel_rfl, fun wx hx => by go_simp⟩) hS ?_
        refine HI.take (i := 6) (v := .int .i64 (m : Int)) rfl (by kernel_rfl) (by kernel_rfl) (by kernel_rfl) (by kernel_rfl) (fun _ _ _ h => h) (Or.inl ⟨by kernel_rfl, fun wx hx => by have hx0 := (HK0.out wx hx).2.2; go_simp⟩) hS ?_
        refine HI.lone (i := 7) rfl (by kernel_rfl) (fun Kc hK => ?_)
        go_simp
        have t1 := alike37 (w := W.drew) _ _ (p.drop j) (p.drop at') m (by
          have := rdY_sub (k := j) (m := n - j) (Rd.far HX0.out (Chg.ofBelow (X := []) (Below.refl _ _).drew) (by simp) : RdY W.drew _ p) (by omega) (vc - j) ⟨by omega, by omega⟩
          rw [List.take_of_length_le (by rw [List.length_drop, Hn.out]; exact Nat.le_refl _)] at this
          exact this) (by
          have := rdY_sub (k := at') (m := n - at') (Rd.far HX0.out (Chg.ofBelow (X := []) (Below.refl _ _).drew) (by simp) : RdY W.drew _ p) (by omega) (vc - at') ⟨by omega, by omega⟩
          rw [List.take_of_length_le (by rw [List.length_drop, Hn.out]; exact Nat.le_refl _)] at this
          exact this) (by rw [List.length_drop, Hn.out]; omega) (by rw [List.length_drop, Hn.out]; omega) (by omega)
        refine ⟨trivial, ?_⟩
        refine ((callsIn_wide.2 t1).inRound l).mono ?_
        rintro e V ⟨⟨x, rfl, hx1, hx2, hx3⟩, hbV⟩
        have halk : alk p j at' m 0 = x := alk_one hx1 (fun s hs => by have := hx2 s hs; simpa [List.getD] using this) (fun hs => by have := hx3 hs; simpa [List.getD] using this)
        have HV : Hid (Below W.heap.size W V) := ⟨hS.trans hbV⟩
        rw [halk] at HStep
        clear t1 hx2 hx3 hbV halk
        refine hK.out _ _ HV.out (fun hS => ?_)
        clear hK
        refine HI.take (i := 8) (v := .int .i64 (x : Int)) rfl (by kernel_rfl) (by kernel_rfl) (by kernel_rfl) (by kernel_rfl) (fun _ _ _ h => h) (Or.inl ⟨by kernel_rfl, fun wx hx => by go_simp⟩) hS ?_
        refine HI.done (by kernel_rfl) ?_
        unfold only
        go_simp
        have HY4 : Hid (V.heap[q + 4]? = some (.cells #[.int .i64 (at' : Int), .int .i64 (bf : Int), .int .i64 (bn : Int)] 55 (0, 0))) := ⟨(HV.out.block _ (Array.getElem?_eq_some_iff.1 HI5.out).1).trans HI5.out⟩
        have v4 : V.cell? ⟨q + 1 + 1 + 1 + 1, 2, none⟩ = some (.int .i64 (bn : Int)) := by rw [cell_of_row _ _ _ _ _ _ HY4.out]; rfl
        have v41 : V.cell? ⟨q + 1 + 1 + 1 + 1, 1, none⟩ = some (.int .i64 (bf : Int)) := by rw [cell_of_row _ _ _ _ _ _ HY4.out]; rfl
        have v40 : V.cell? ⟨q + 1 + 1 + 1 + 1, 0, none⟩ = some (.int .i64 (at' : Int)) := by rw [cell_of_row _ _ _ _ _ _ HY4.out]; rfl
        have v1 := (HK0.out V HV.out).2.1
        have f40 : V.frozen? ⟨q + 1 + 1 + 1 + 1, 0, none⟩ = false := frozen_of_row V (q + 4) 0 _ 55 HY4.out
        have f41 : V.frozen? ⟨q + 1 + 1 + 1 + 1, 1, none⟩ = false := frozen_of_row V (q + 4) 1 _ 55 HY4.out
        have f42 : V.frozen? ⟨q + 1 + 1 + 1 + 1, 2, none⟩ = false := frozen_of_row V (q + 4) 2 _ 55 HY4.out
        have HKV : Hid (KpX (q + 6) [q + 4] W V) := ⟨KpX.of (Chg.ofBelow (X := []) HV.out) i3 (by simp)⟩
        have HBV : Hid (Below w.heap.size w V) := ⟨HI2.out.trans (HV.out.mono HI2.out.size)⟩
        have Hk1 : Hid ((pre ++ [((y1, (j : Int)) : Yb)]).length = k + 1) := ⟨by rw [List.length_append, Hk.out]; rfl⟩
        have hVs := HV.out.size
        have HDm : Hid (dk at' F (k + 1) ≤ min at' 4096) := ⟨by rw [HDk.out]; omega⟩
        have HSv := HS6.out
        have hqv := Hq.out
        have hKF : Hid (KeepsFrom w6.heap.size W V) := ⟨⟨hVs, fun k' o _ hk' _ => (HV.out.block k' (Array.getElem?_eq_some_iff.1 hk').1).trans hk'⟩⟩
        clear d1 d3 d4 hS HSv hqv
        by_cases hbet : bn < x
        · have hbz : (bn : Int) < (x : Int) := by omega
          rw [if_pos hbet] at HStep
          gi_wp2
          have hst := set3t HY4.out (.int .i64 (at' : Int)) (.int .i64 ((at' : Int) - j)) (.int .i64 (x : Int))
          have hK2 : KpX (q + 6) [q + 4] V (((V.setCell ⟨q + 4, 0, none⟩ (.int .i64 (at' : Int))).setCell ⟨q + 4, 1, none⟩ (.int .i64 ((at' : Int) - j))).setCell ⟨q + 4, 2, none⟩ (.int .i64 (x : Int))) := KpX.of hst.2 (by omega) (by simp)
          have hs6 := HS6.out
          have hqv := Hq.out
          have hBs := HBV.out.size
          refine ⟨⟨Nat.le_trans hVs hst.2.size, fun k' o hk0 hk' _ => (hst.2.block k' (Nat.lt_of_lt_of_le (Array.getElem?_eq_some_iff.1 hk').1 hVs) (by simp; omega)).trans ((HV.out.block k' (Array.getElem?_eq_some_iff.1 hk').1).trans hk')⟩, HKV.out.trans hK2, ?_⟩
          show InvL _ _ _ _ _ _ _ _ _
          rw [Hk1.out]
          refine ⟨HI1.out.trans (HKV.out.trans hK2), HBV.out.trans (hst.2.below hBs (by simp; omega)), Nat.le_trans (by omega) hst.2.size, HDm.out, ?_⟩
          rw [HDk.out, HStep.out]
          rw [show ((at' - j : Nat) : Int) = (at' : Int) - j by omega]
          exact hst.1
        · have hbz : ¬ (bn : Int) < (x : Int) := by omega
          rw [if_neg hbet] at HStep
          gi_wp2
          refine ⟨hKF.out, HKV.out, ?_⟩
          show InvL _ _ _ _ _ _ _ _ _
          rw [Hk1.out]
          exact ⟨HI1.out.trans HKV.out, HBV.out, by omega, HDm.out, by rw [HDk.out, HStep.out]; exact HY4.out⟩
  case hdone =>
    rintro D xs W hD hxs ⟨i1, i2, i3, i4, i5⟩ hKD
    rw [hxs] at i4 i5
    have hst := HF.out.stop HP4.out (k := fn) (by rw [Hfn.out]; exact Nat.le_refl _) i4 (.inl Hfn.out.symm)
    rw [hst] at i5
    clear hst
    have d0 : W.cell? ⟨q + 1 + 1 + 1 + 1, 0, none⟩ = some (.int .i64 (at' : Int)) := by rw [cell_of_row _ _ _ _ _ _ i5]; rfl
    have d1 : W.cell? ⟨q + 1 + 1 + 1 + 1, 1, none⟩ = some (.int .i64 ((mt p at').2 : Int)) := by rw [cell_of_row _ _ _ _ _ _ i5]; rfl
    have d2 : W.cell? ⟨q + 1 + 1 + 1 + 1, 2, none⟩ = some (.int .i64 ((mt p at').1 : Int)) := by rw [cell_of_row _ _ _ _ _ _ i5]; rfl
    obtain ⟨_, _, _, _, x4, _⟩ := HV6.out W i1
    have r0 : W.cell? ⟨q + 1 + 1, 0, none⟩ = some (.int .i64 0) := by rw [cell_of_row _ _ _ _ _ _ x4]; rfl
    have r1 : W.cell? ⟨q + 1 + 1, 1, none⟩ = some (.int .i64 0) := by rw [cell_of_row _ _ _ _ _ _ x4]; rfl
    have r2 : W.cell? ⟨q + 1 + 1, 2, none⟩ = some (.int .i64 0) := by rw [cell_of_row _ _ _ _ _ _ x4]; rfl
    have f0 : W.frozen? ⟨q + 1 + 1, 0, none⟩ = false := frozen_of_row W (q + 2) 0 _ 55 x4
    have f1 : W.frozen? ⟨q + 1 + 1, 1, none⟩ = false := frozen_of_row W (q + 2) 1 _ 55 x4
    have f2 : W.frozen? ⟨q + 1 + 1, 2, none⟩ = false := frozen_of_row W (q + 2) 2 _ 55 x4
    have HX4 := Hid.mk x4
    have HI2 := Hid.mk i2
    have HKD := Hid.mk hKD
    rw [HB.out] at d1 d2
    simp only at d1 d2
    clear i1 i2 i5 hKD x4
    gi_wp2
    have hst := set3t HX4.out (.int .i64 (at' : Int)) (.int .i64 (b2 : Int)) (.int .i64 (b1 : Int))
    have hs6 := HS6.out
    have hqv := Hq.out
    have hws := HI2.out.size
    have hkd := (hst.2.block D (Array.getElem?_eq_some_iff.1 HKD.out).1 (by simp; omega)).trans HKD.out
    refine ⟨by simp, .inl ⟨_, _, rfl, run_takeDeferred hkd, ?_⟩⟩
    refine ⟨_, results_row rfl _ _ (q + 2) 55 _ _ _ rfl ((World.putObj_heap_other (by omega)).trans hst.1) Try.underlying55 rfl rfl, rfl, ?_⟩
    exact (HI2.out.trans (hst.2.below hws (by simp; omega))).trans ((chg_put _ D (.deferred none)).below (Nat.le_trans hws hst.2.size) (by simp; omega))
  case hstop =>
    rintro D c xs W hD ⟨rfl, i1, i2, i3, i5⟩ hKD
    have d0 : W.cell? ⟨q + 1 + 1 + 1 + 1, 0, none⟩ = some (.int .i64 (at' : Int)) := by rw [cell_of_row _ _ _ _ _ _ i5]; rfl
    have d1 : W.cell? ⟨q + 1 + 1 + 1 + 1, 1, none⟩ = some (.int .i64 ((mt p at').2 : Int)) := by rw [cell_of_row _ _ _ _ _ _ i5]; rfl
    have d2 : W.cell? ⟨q + 1 + 1 + 1 + 1, 2, none⟩ = some (.int .i64 ((mt p at').1 : Int)) := by rw [cell_of_row _ _ _ _ _ _ i5]; rfl
    obtain ⟨_, _, _, _, x4, _⟩ := HV6.out W i1
    have r0 : W.cell? ⟨q + 1 + 1, 0, none⟩ = some (.int .i64 0) := by rw [cell_of_row _ _ _ _ _ _ x4]; rfl
    have r1 : W.cell? ⟨q + 1 + 1, 1, none⟩ = some (.int .i64 0) := by rw [cell_of_row _ _ _ _ _ _ x4]; rfl
    have r2 : W.cell? ⟨q + 1 + 1, 2, none⟩ = some (.int .i64 0) := by rw [cell_of_row _ _ _ _ _ _ x4]; rfl
    have f0 : W.frozen? ⟨q + 1 + 1, 0, none⟩ = false := frozen_of_row W (q + 2) 0 _ 55 x4
    have f1 : W.frozen? ⟨q + 1 + 1, 1, none⟩ = false := frozen_of_row W (q + 2) 1 _ 55 x4
    have f2 : W.frozen? ⟨q + 1 + 1, 2, none⟩ = false := frozen_of_row W (q + 2) 2 _ 55 x4
    have HX4 := Hid.mk x4
    have HI2 := Hid.mk i2
    have HKD := Hid.mk hKD
    rw [HB.out] at d1 d2
    simp only at d1 d2
    clear i1 i2 i5 hKD x4
    gi_wp2
    have hst := set3t HX4.out (.int .i64 (at' : Int)) (.int .i64 (b2 : Int)) (.int .i64 (b1 : Int))
    have hs6 := HS6.out
    have hqv := Hq.out
    have hws := HI2.out.size
    have hkd := (hst.2.block D (Array.getElem?_eq_some_iff.1 HKD.out).1 (by simp; omega)).trans HKD.out
    refine ⟨by simp, .inl ⟨_, _, rfl, run_takeDeferred hkd, ?_⟩⟩
    refine ⟨_, results_row rfl _ _ (q + 2) 55 _ _ _ rfl ((World.putObj_heap_other (by omega)).trans hst.1) Try.underlying55 rfl rfl, rfl, ?_⟩
    exact (HI2.out.trans (hst.2.below hws (by simp; omega))).trans ((chg_put _ D (.deferred none)).below (Nat.le_trans hws hst.2.size) (by simp; omega))
end
end Go.Proofs.Ytoneepoaodoijaa
