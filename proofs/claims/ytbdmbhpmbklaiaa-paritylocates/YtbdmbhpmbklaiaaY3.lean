/- The parity of data: Encode, whose shards lie apart. -/
import Derived.Test.YtbdmbhpmbklaiaaY1
import Derived.Test.YtbdmbhpmbklaiaaY2
namespace Go.Proofs.Ytbdmbhpmbklaiaa
open Go.RowKit Go.Lib Go.Shelf Gf

theorem InvA.grow {w A : World} {b M lo hi hi' : Nat} {f : Nat → Sd} {pre : List Yl} (h : InvA w b M lo hi f pre A) (hh : hi ≤ hi') : InvA w b M lo hi' f pre A := by
  obtain ⟨⟨sv, h1, h2, h3⟩, h4⟩ := h
  exact ⟨⟨sv, h1, h2.grow hh, h3⟩, h4⟩
/-- Within a round: what comes lies behind all that was told. -/
def MidA (w : World) (b M : Nat) (f : Nat → Sd) (pre : List Yl) (y : Value) (A : World) : Prop := ∃ hi, InvA w b M w.heap.size hi f pre A ∧ w.heap.size ≤ hi ∧ hi ≤ A.heap.size ∧ ∀ g ∈ ob y, hi ≤ g ∧ g < A.heap.size
theorem MidA.put {w A : World} {b M : Nat} {f : Nat → Sd} {pre : List Yl} {y : Value} (h : MidA w b M f pre y A) {l : Nat} {o : Obj} (hl : M ≤ l) (hx : ∃ x : Obj, A.heap[l]? = some x ∧ x.isCells = false) (hb : w.heap.size ≤ M ∧ b < M) : MidA w b M f pre y (A.putObj l o) := by
  obtain ⟨hi, h1, h2, h3, h4⟩ := h
  exact ⟨hi, h1.put hl hx hb, h2, by rw [World.putObj_size]; exact h3, by rw [World.putObj_size]; exact h4⟩
section
variable {w : World}
attribute [local go_sem] Oper.semAt_some
set_option maxHeartbeats 8000000 in
set_option maxRecDepth 100000 in
theorem enc_okA (v : Value) (L : List Sd) (m : Nat) {B : Nat × TypeId} (hv : RdR w B v L) (hk : 1 ≤ L.length ∧ L.length ≤ 32) (hm : m ≤ 16) (h4 : ∀ i, i < L.length → (sl (L.getD i none)).length ≤ 4096) (hf : frm L = false) :
    Calls Try.prog 11 #[v, .int .i64 m] w fun e w' => ∃ a n c, e = .returned (.tuple #[.slice a n c, .int .i64 0]) ∧ OwnA w' w.heap.size w'.heap.size w.heap.size (.slice a n c) ((List.range m).map (encS L)) ∧ Below w.heap.size w w' := by
  obtain ⟨va, vc, rfl, h1, h2, _⟩ := hv.shape
  have HV0 : Hid (RdR w (w.heap.size, 1000) (.slice va L.length vc) L) := ⟨by obtain ⟨vs, x1, x2⟩ := hv; exact ⟨vs, x1, x2.1, fun i hi => by obtain ⟨u, hu, hs⟩ := x2.2 i hi; exact ⟨u, hu, hs.sh, hs.rd, fun h0 k hk => .inl (hs.rd.lt h0 k hk)⟩⟩⟩
  have t1 := isData21 (w := w) (L.length : Int)
  have t2 := isParity22 (w := w) (m : Int)
  have t3 := checkRows23 (w := w) _ L hv (by omega) h4
  rw [decide_eq_true (by omega)] at t1
  rw [decide_eq_true (by omega)] at t2
  rw [hf, if_neg (by decide)] at t3
  have HF := Hid.mk hf
  have H4 := Hid.mk h4
  obtain ⟨k, Hk⟩ : ∃ k, Hid (L.length = k) := ⟨_, ⟨rfl⟩⟩
  rw [Hk.out] at hk h1 HV0 t1 t3 ⊢
  clear hv hf h4
  obtain ⟨f, Hf⟩ : ∃ f, Hid (encS L = f) := ⟨_, ⟨rfl⟩⟩
  rw [Hf.out]
  refine (callsIn_wide (n := 10)).1 ?_
  refine callsIn_of_wp_marks Try.func11 rfl trivial ?_ rfl
  simp only [Try.ntmps11, List.size_toArray, List.length_cons, List.length_nil, Nat.reduceAdd, Nat.reduceSub, Array.replicate_succ, Array.replicate_zero, List.push_toArray, List.append_toArray, List.nil_append, List.cons_append]
  gi_wp2_with fail
  refine ⟨trivial, ?_⟩
  refine (callsIn_wide.2 t1).mono ?_
  rintro e wx ⟨rfl, rfl⟩
  clear t1
  gi_wp2_with fail
  refine ⟨trivial, ?_⟩
  refine (callsIn_wide.2 t2).mono ?_
  rintro e wx ⟨rfl, rfl⟩
  clear t2
  gi_wp2_with fail
  refine ⟨trivial, ?_⟩
  refine (callsIn_wide.2 t3).mono ?_
  rintro e w1 ⟨rfl, hb1⟩
  have HB1 := Hid.mk hb1
  clear t3 hb1
  obtain ⟨w2, hmk, hO2, hB2, hS2⟩ := run_makeR w1 (0, 5) m (by omega)
  have HO2 := Hid.mk hO2
  have HB2 := Hid.mk hB2
  have HS2 := Hid.mk hS2
  clear hO2 hB2 hS2
  obtain ⟨r0, Hr0⟩ : ∃ r, Hid (w1.heap.size = r) := ⟨_, ⟨rfl⟩⟩
  rw [Hr0.out] at HO2 HS2 hmk
  obtain ⟨w3, Hw3⟩ : ∃ x, Hid (w2.alloc (.cells #[.slice (some ⟨r0, 0, none⟩) 0 m] 22) = x) := ⟨_, ⟨rfl⟩⟩
  have HC3 : Hid (Below w2.heap.size w2 w3) := ⟨by rw [← Hw3.out]; exact (Below.refl _ w2).alloc (Nat.le_refl _) _⟩
  have HX3 : Hid (w3.heap[w2.heap.size]? = some (.cells #[.slice (some ⟨r0, 0, none⟩) 0 m] 22 (0, 0))) := ⟨by rw [← Hw3.out]; exact heap_alloc_new w2 _⟩
  have HS3 : Hid (w3.heap.size = w2.heap.size + 1) := ⟨by rw [← Hw3.out]; simp⟩
  have HO3 : Hid (OwnR w3 (0, 5) r0 (.slice (some ⟨r0, 0, none⟩) 0 m) []) := ⟨HO2.out.below HC3.out⟩
  have HB02 : Hid (Below w.heap.size w w2) := ⟨HB1.out.trans (HB2.out.mono HB1.out.size)⟩
  have HB03 : Hid (Below w.heap.size w w3) := ⟨HB02.out.trans (HC3.out.mono HB02.out.size)⟩
  obtain ⟨b, Hb⟩ : ∃ b, Hid (w2.heap.size = b) := ⟨_, ⟨rfl⟩⟩
  rw [Hb.out] at HX3 HS3 HS2
  have HV3 : Hid (RdR w3 (w.heap.size, 1000) (.slice va k vc) L) := ⟨HV0.out.below HB03.out⟩
  have t4 := baseOf24 (w := w3) _ L HV3.out HB03.out.size rfl (by rw [Hk.out]; omega)
  rw [Hk.out] at t4
  gi_wp2_with fail
  rw [Hw3.out, Hb.out]
  refine ⟨trivial, ?_⟩
  refine (callsIn_wide.2 t4).mono ?_
  rintro e w4 ⟨pa, pn, pc, ra, rn, rc, rfl, hP4, hR4, hC4⟩
  have HP4 := Hid.mk hP4
  have HR4 := Hid.mk hR4
  have HC4 := Hid.mk hC4
  have HB04 : Hid (Below w.heap.size w w4) := ⟨HB03.out.trans (hC4.mono HB03.out.size)⟩
  have HX4 : Hid (w4.heap[b]? = some (.cells #[.slice (some ⟨r0, 0, none⟩) 0 m] 22 (0, 0))) := ⟨(hC4.block b (by rw [HS3.out]; omega)).trans HX3.out⟩
  have HO4 : Hid (OwnR w4 (0, 5) r0 (.slice (some ⟨r0, 0, none⟩) 0 m) []) := ⟨HO3.out.below hC4⟩
  clear t4 hP4 hR4 hC4 hmk HO2 HO3
  have t5 := shards25 (w := w4) pa ra pn pc rn rc (k : Int) ((k : Int) + m)
  obtain ⟨w5, Hw5⟩ : ∃ x, Hid (((w4.alloc (.cells #[.slice pa pn pc, .slice ra rn rc] 44)).alloc (.cells #[.int .i64 (k : Int)] 3)).alloc (.cells #[.int .i64 ((k : Int) + m)] 3) = x) := ⟨_, ⟨rfl⟩⟩
  have HM5 := Hid.mk (shards_mem (w := w4) (w' := w5) Hw5.out.symm)
  rw [Hw5.out] at t5
  obtain ⟨q, Hq⟩ : ∃ q, Hid (w4.heap.size = q) := ⟨_, ⟨rfl⟩⟩
  rw [Hq.out] at t5 HM5
  have HC5 : Hid (Below w4.heap.size w4 w5) := ⟨by rw [Hq.out]; exact HM5.out.2.2.2.1⟩
  have HB05 : Hid (Below w.heap.size w w5) := ⟨HB04.out.trans (HC5.out.mono HB04.out.size)⟩
  have HX5 : Hid (w5.heap[b]? = some (.cells #[.slice (some ⟨r0, 0, none⟩) 0 m] 22 (0, 0))) := ⟨(HC5.out.block b (Array.getElem?_eq_some_iff.1 HX4.out).1).trans HX4.out⟩
  have HO5 : Hid (OwnR w5 (0, 5) r0 (.slice (some ⟨r0, 0, none⟩) 0 m) []) := ⟨HO4.out.below HC5.out⟩
  have HP5 : Hid (OwnG w5 w3.heap.size (.slice pa pn pc) (pls k)) := ⟨HP4.out.far (Chg.ofBelow (X := []) HC5.out) (by simp)⟩
  have HR5 : Hid (OwnR w5 (w.heap.size, 1000) w3.heap.size (.slice ra rn rc) L) := ⟨HR4.out.below HC5.out⟩
  have hbq : b + 1 ≤ q := by have h1 := HS3.out; have h2 := HC4.out.size; have h3 := Hq.out; omega
  have hrb : r0 + 1 = b := by have := HS2.out; omega
  have hwr : w.heap.size ≤ r0 := by have h1 := HB1.out.size; have := Hr0.out; omega
  have HT5 : Hid (Ty w5 22 b) := ⟨⟨_, HX5.out⟩⟩
  have HTr : Hid (Ty w5 33 r0) := ⟨HO5.out.ty r0 (by simp [ob, Value.ownBlock])⟩
  have HST : Hid (∀ A, KpX (q + 3) [b, r0] w5 A → RdG A (.slice pa pn pc) (pls k) ∧ RdR A (w.heap.size, 1000) (.slice ra rn rc) L) := ⟨fun A hA => by
    have hs5 := HM5.out.2.2.2.2
    refine ⟨HP5.out.rd.keep hA (by omega) (fun k' hk' hm => ?_), HR5.out.rd.keep hA (by omega) (fun k' hk' hm => ?_) (fun k' hk' hm => ?_)⟩
    · have h1 := (HP5.out.lt k' hk').1
      have h2 := HS3.out
      simp at hm
      omega
    · simp at hm
      rcases hk' with h | h
      · have h2 : k' < w.heap.size := h
        omega
      · rcases hm with rfl | rfl
        · exact (Ty.ne h HT5.out (show (1000 : TypeId) ≠ 22 by decide)) rfl
        · exact (Ty.ne h HTr.out (show (1000 : TypeId) ≠ 33 by decide)) rfl
    · have h1 := (HR5.out.lt k' hk').1
      have h2 := HS3.out
      simp at hm
      omega⟩
  obtain ⟨N, HN⟩ : ∃ N, Hid (rowN L = N) := ⟨_, ⟨rfl⟩⟩
  have HRow : Hid (∀ j, j < L.length → (sl (L.getD j none)).length = N) := ⟨fun j hj => by rw [frm_len HF.out hj]; exact HN.out⟩
  have hN : N ≤ 4096 := by rw [← HN.out]; exact H4.out 0 (by rw [Hk.out]; omega)
  have HSQ : Hid (SeqU Fence.wide 9 Try.prog 38 #[.pointer (some ⟨q + 1, 0, none⟩), .pointer (some ⟨q + 2, 0, none⟩), .pointer (some ⟨q, 0, none⟩)] enc (KpX (q + 3) [b, r0]) (fun xs => xs.length = m)
      (fun pre x A0 A => x.1 = ((k + pre.length : Nat) : Int) ∧ k + pre.length < k + m ∧ q + 3 ≤ A.heap.size ∧ KpX (q + 3) [b, r0] w5 A ∧ ∃ a c, x.2 = (some a, N, c) ∧ q + 3 ≤ A0.heap.size ∧ OwnG A A0.heap.size (.slice (some a) N c) (grp (pls k) L N (gn (k + pre.length)))) w5) := ⟨fun l J W hW hJb hY hj0 => by
    have hs5 := HM5.out.2.2.2.2
    have hKW : KpX (q + 3) [b, r0] w5 W := KpX.of (Chg.ofBelow (X := []) hW) (by omega) (by simp)
    have hres := shards38_u (B := (w.heap.size, 1000)) pa ra pn pc rn rc N k (k + m) (pls k) L l q (q + 3) [b, r0] J W
      (fun A hA => HST.out A (hKW.trans hA)) (by rw [pls_len, Hk.out]) (by rw [pls_len]; omega) (by rw [pls_len]; omega) (pls_nodup (by omega)) HRow.out hN (by omega) (by omega)
      ((hW.block q (by omega)).trans HM5.out.1) ((hW.block (q + 1) (by omega)).trans HM5.out.2.1) (by
        have h2 := (hW.block (q + 2) (by omega)).trans HM5.out.2.2.1
        rw [show ((k + m : Nat) : Int) = (k : Int) + m by omega]
        exact h2) (by omega) (by simp; omega) (by have := hW.size; omega) hJb
      (fun pre x A0 A hJ hbe hE => hY pre x A0 A hJ hbe ⟨hE.1, hE.2.1, hE.2.2.1, hKW.trans hE.2.2.2.1, hE.2.2.2.2⟩) hj0
    refine hres.mono ?_
    rintro e C ⟨h1, xs, h2, h3⟩
    exact ⟨h1, xs, by omega, h3⟩⟩
  have hsum : IntKind.i64.wrap ((k : Int) + m) = (k : Int) + m := IntWalk.i64_in _ ⟨by omega, by omega⟩
  have HFn : Hid (∀ j, j < m → encS L j = some (grp (pls k) L N (gn (k + j)))) := ⟨fun j _ => by unfold encS; rw [Hk.out, HN.out]⟩
  rw [Hf.out] at HFn
  gi_wp2_with fail
  refine ⟨trivial, ?_⟩
  refine (callsIn_wide.2 t5).mono ?_
  rintro e wx ⟨rfl, ex⟩
  rw [ex]
  clear ex wx t5
  gi_wp2
  refine range_u rfl (by decide) (gf := 38) (lb := #[.pointer (some ⟨q + 1, 0, none⟩), .pointer (some ⟨q + 2, 0, none⟩), .pointer (some ⟨q, 0, none⟩)]) rfl trivial (enters_of Try.func38 (by kernel_rfl) rfl) HSQ.out (fun _ => rfl) (fun h k => KpX.trans h k) (KpX.put (by have := HM5.out.2.2.2.2; omega))
    (fun pre A => InvA w b (q + 3) w.heap.size A.heap.size f pre A)
    (fun pre y act A => act = { tmps := #[.slice va k vc, .int .i64 (m : Int), undef, undef, .slice none 0 0, .int .i64 0, .int .i64 0, .pointer (some ⟨b, 0, none⟩), undef, .slice y.2.1 y.2.2.1 y.2.2.2, .slice va k vc, .int .i64 (k : Int), .bool true, .bool false, .bool false, .int .i64 (m : Int), .bool true, .bool false, .bool false, .slice va k vc, .int .i64 0, .int .i64 0, .bool false, undef, .int .i64 (m : Int), .slice (some ⟨r0, 0, none⟩) 0 m, .slice va k vc, .agg #[.slice pa pn pc, .slice ra rn rc], .slice va k vc, .int .i64 (k : Int), .slice va k vc, .int .i64 (k : Int), .int .i64 (m : Int), .int .i64 ((k : Int) + m), .func (.func 38) #[] #[.pointer (some ⟨q + 1, 0, none⟩), .pointer (some ⟨q + 2, 0, none⟩), .pointer (some ⟨q, 0, none⟩)], .int .i64 y.1, .slice y.2.1 y.2.2.1 y.2.2.2, undef, undef, undef, undef, undef], defers := [] } ∧ MidA w b (q + 3) f pre (.slice y.2.1 y.2.2.1 y.2.2.2) A ∧ pre.length < m ∧ RdS A (0, 5) (.slice y.2.1 y.2.2.1 y.2.2.2) (f pre.length))
    ?hIb ?hIo ?hMo ?h0 ?hassign ?hbody ?hdone
  case hIb => exact fun pre A C h hb => (h.far (Chg.ofBelow (X := []) hb) (by simp) ⟨by omega, by omega⟩).grow hb.size
  case hIo => exact fun pre A l o h hl hx => by rw [World.putObj_size]; exact h.put (by have := HM5.out.2.2.2.2; omega) hx ⟨by omega, by omega⟩
  case hMo =>
    rintro pre y act A l o ⟨h1, h2, h3, h4⟩ hl hx
    refine ⟨h1, h2.put (by have := HM5.out.2.2.2.2; omega) hx ⟨by omega, by omega⟩, h3, h4.far (chg_put A l o) (fun k' hk' hm => ?_)⟩
    simp at hm
    subst hm
    obtain ⟨z, hz, hzc⟩ := hx
    rcases hk' with h | h
    · exact absurd h (Nat.not_lt_zero _)
    · obtain ⟨cs, hcs⟩ := h
      rw [hz] at hcs
      cases hcs
      cases hzc
  case h0 => exact ⟨⟨_, HX5.out, (HO5.out.base hwr).empty _ _, fun k' hk' => .inl (by simp [ob, Value.ownBlock] at hk'; omega)⟩, HB05.out, by have := HM5.out.2.2.2.2; omega⟩
  case hassign =>
    rintro l pre y A0 W hI hbe ⟨e1, e2, e3, e4, a, c, e5, e7, e6⟩
    have HI : Hid (MidA w b (q + 3) f pre (.slice (some a) N c) W) := ⟨⟨A0.heap.size, hI.far (Chg.ofBelow (X := []) hbe) (by simp) ⟨by omega, by omega⟩, by omega, hbe.size, e6.lt⟩⟩
    have HG := Hid.mk e6
    have Hpl : Hid (pre.length < m) := ⟨by omega⟩
    obtain ⟨y1, y2⟩ := y
    simp only at e5
    subst e5
    simp only [enc]
    clear hI e1 e2 e3 e4 e6 e7 hbe
    gi_wp2
    exact ⟨⟨Nat.le_refl _, fun k' o _ hk' _ => hk'⟩, KpX.refl _ _ _, trivial, HI.out, Hpl.out, by rw [HFn.out _ Hpl.out]; exact HG.out.sd rfl ⟨_, _, _, rfl⟩⟩
  case hbody =>
    rintro l pre y act W ⟨rfl, ⟨hi, ⟨⟨sv, h1, h2, h3⟩, h4, h5⟩, hh1, hh2, hyb⟩, h6, h7⟩
    obtain ⟨y1, ya, yn, yc⟩ := y
    simp only at h7 hyb ⊢
    have Hyb := Hid.mk hyb
    have Hhh : Hid (w.heap.size ≤ hi ∧ hi ≤ W.heap.size) := ⟨⟨hh1, hh2⟩⟩
    have c1 := (Boxed.cell (show Boxed W b 22 sv from h1))
    obtain ⟨sa, sc, es, _⟩ := h2.rd.shape
    subst es
    obtain ⟨V, HV⟩ : ∃ V, Hid (W.alloc (.cells #[.slice ya yn yc] 33) = V) := ⟨_, ⟨rfl⟩⟩
    have HBV : Hid (Below W.heap.size W V) := ⟨by rw [← HV.out]; exact (Below.refl _ W).alloc (Nat.le_refl _) _⟩
    have HcV : Hid (V.cell? ⟨W.heap.size, 0, none⟩ = some (.slice ya yn yc)) := ⟨by rw [← HV.out, cell_of_row _ _ _ _ _ _ (heap_alloc_new W _)]; rfl⟩
    obtain ⟨pl, Hpl⟩ : ∃ pl, Hid (((List.range pre.length).map f).length = pl) := ⟨_, ⟨rfl⟩⟩
    have Hpl2 : Hid (pl = pre.length) := ⟨by rw [← Hpl.out]; simp⟩
    have HNX : Hid ((List.range (pre.length + 1)).map f = (List.range pre.length).map f ++ [f pre.length]) := ⟨by rw [List.range_succ, List.map_append]; rfl⟩
    have hlen : ((List.range pre.length).map f).length ≤ 1000000000000 := by rw [Hpl.out, Hpl2.out]; omega
    rw [Hpl.out] at h1 h2 h3 c1
    have HOV : Hid (OwnA V w.heap.size hi w.heap.size (.slice sa pl sc) ((List.range pre.length).map f)) := ⟨h2.below HBV.out⟩
    have HSV : Hid (RdS V (0, 5) (.slice ya yn yc) (f pre.length)) := ⟨h7.below HBV.out⟩
    have HbV : Hid (V.heap[b]? = some (.cells #[.slice sa pl sc] 22 (0, 0))) := ⟨(HBV.out.block _ (Array.getElem?_eq_some_iff.1 h1).1).trans h1⟩
    have HB4' : Hid (Below w.heap.size w V) := ⟨h4.trans (HBV.out.mono h4.size)⟩
    have H5 := Hid.mk h5
    have H3 := Hid.mk h3
    have hl3 : w.heap.size ≤ V.heap.size := HB4'.out.size
    have HKV : Hid (KpX (q + 3) [b, r0] W V) := ⟨KpX.of (Chg.ofBelow (X := []) HBV.out) h5 (by simp)⟩
    have HnA : Hid (∀ A, Chg (ob (.slice sa pl sc)) V A → A.heap[b]? = some (.cells #[.slice sa pl sc] 22 (0, 0))) := ⟨fun A hA => (hA.block b (Array.getElem?_eq_some_iff.1 HbV.out).1 (fun hm => (Ty.ne (⟨_, HbV.out⟩ : Ty V 22 b) (HOV.out.ty b hm) (by decide)) rfl)).trans HbV.out⟩
    clear h1 h2 h3 h4 h5 h7 hh1 hh2 hyb
    gi_wp2_with (rw [HV.out]; refine wpi_appA1 rfl (.tmp 37) (.tmp 39) rfl rfl HOV.out HSV.out Hyb.out Hhh.out ⟨W.heap.size, 0, none⟩ HcV.out rfl hlen hl3 ?_; intro v6 w6 hO6 hG6 hV6; obtain ⟨a6, c6, e6, _⟩ := hO6.rd.shape; subst e6; obtain ⟨k6, Hk6⟩ : ∃ k, Hid (((List.range pre.length).map f ++ [f pre.length]).length = k) := ⟨_, ⟨rfl⟩⟩; rw [Hk6.out] at hO6 hV6 ⊢; have HO6 := Hid.mk hO6; have HV6 := Hid.mk hV6; have HG6 : Hid (Chg (ob (.slice sa pl sc)) V w6) := ⟨hG6⟩; have Hb6 := Hid.mk (HnA.out w6 HG6.out); have hc6 := Boxed.cell (show Boxed w6 b 22 (.slice sa pl sc) from Hb6.out); have hf6 := Boxed.frozen (show Boxed w6 b 22 (.slice sa pl sc) from Hb6.out); clear hO6 hG6 hV6)
    have hcs := (Chg.refl [b] w6).setCell (a := ⟨b, 0, none⟩) (.inl (by simp)) (.slice a6 k6 c6)
    have hT6 : Ty w6 22 b := ⟨_, Hb6.out⟩
    have hown : ∀ g ∈ ob (Value.slice sa pl sc), g = r0 ∨ q + 3 ≤ g := fun g hg => by rcases H3.out g hg with h | h <;> omega
    have hWb := H5.out
    have hVW := HBV.out.size
    have h06 := HG6.out.size
    refine ⟨⟨Nat.le_trans hVW (Nat.le_trans h06 hcs.size), fun g o hB hg ho => ?_⟩, ?_, ⟨⟨_, Boxed.set (.slice a6 k6 c6) (show Boxed w6 b 22 (.slice sa pl sc) from Hb6.out), ?_, ?_⟩, ?_, ?_⟩⟩
    · have hg0 := (Array.getElem?_eq_some_iff.1 hg).1
      have hs5 := HM5.out.2.2.2.2
      have e1 := (HBV.out.block g hg0).trans hg
      have e2 := (HG6.out.block g (Nat.lt_of_lt_of_le hg0 hVW) (fun hm => by
        obtain ⟨cs, hcs'⟩ := HOV.out.ty g hm
        rw [e1] at hcs'
        cases hcs'
        cases ho)).trans e1
      exact (hcs.block g (Array.getElem?_eq_some_iff.1 e2).1 (by simp; omega)).trans e2
    · exact HKV.out.trans ((KpX.of HG6.out (by omega) (fun g hg => by rcases hown g hg with h | h; exact .inl (by simp [h]); exact .inr h)).trans (KpX.of hcs (by omega) (by simp)))
    · have h8 : OwnA w6 w.heap.size W.heap.size w.heap.size (.slice a6 k6 c6) ((List.range (pre ++ [(y1, ya, yn, yc)]).length).map f) := by
        rw [List.length_append, show [(y1, ya, yn, yc)].length = 1 from rfl, HNX.out]
        exact HO6.out
      refine (h8.far hcs (fun k' hk' hm => by
        simp at hm
        subst hm
        rcases hk' with h | h
        · exact absurd h (Nat.not_lt_zero _)
        · exact (Ty.ne h hT6 (show (5 : TypeId) ≠ 22 by decide)) rfl) (fun k' hk' hm => by simp at hm; subst hm; exact (Ty.ne (HO6.out.ty k' hk') hT6 (by decide)) rfl)).grow ?_
      have := hcs.size
      omega
    · intro g hg
      rcases HV6.out with h | h
      · exact H3.out g (mem_ob.2 (h.symm.trans (mem_ob.1 hg)))
      · have e := mem_ob.1 hg
        rw [h] at e
        simp at e
        omega
    · exact (HB4'.out.trans (HG6.out.below HB4'.out.size (fun g hg => (HOV.out.lt g hg).1))).trans (hcs.below (by have := HB4'.out.size; omega) (by simp; omega))
    · have := hcs.size
      omega
  case hdone =>
    rintro D xs W hD hxs ⟨⟨sv, h1, h2, h3⟩, h4, h5⟩ hK
    have c1 := (Boxed.cell (show Boxed W b 22 sv from h1))
    obtain ⟨sa, sc, es, _⟩ := h2.rd.shape
    subst es
    have H2 := Hid.mk h2
    have H4 := Hid.mk h4
    clear h1 h2 h3 h4 h5
    gi_wp2
    refine ⟨by simp, .inl ⟨_, _, rfl, run_takeDeferred hK, ?_⟩⟩
    have hc := chg_put W D (.deferred none)
    have hDb : q + 3 ≤ D := by have := HM5.out.2.2.2.2; omega
    refine ⟨_, results_tmp2 rfl _ _ _, _, _, _, rfl, ?_, H4.out.trans (hc.below H4.out.size (by simp; omega))⟩
    have hnt : ∀ t, ¬ Ty W t D := fun t ⟨cs, hcs⟩ => by rw [hK] at hcs; cases hcs
    have := H2.out.far hc (fun k' hk' hm => by
      simp at hm
      subst hm
      rcases hk' with h | h
      · exact absurd h (Nat.not_lt_zero _)
      · exact hnt _ h) (fun k' hk' hm => by simp at hm; subst hm; exact hnt _ (H2.out.ty k' hk'))
    rw [hxs] at this
    have e : ((List.range m).map f).length = m := by simp
    rw [World.putObj_size]
    rw [e] at this
    exact this
end
end Go.Proofs.Ytbdmbhpmbklaiaa
