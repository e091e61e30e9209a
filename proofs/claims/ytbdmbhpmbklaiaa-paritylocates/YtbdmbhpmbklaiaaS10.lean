/- The parity of data: Encode. -/
import Derived.Test.YtbdmbhpmbklaiaaS9
namespace Go.Proofs.Ytbdmbhpmbklaiaa
open Go.RowKit Go.Lib Go.Shelf Gf

theorem pls_get {n i : Nat} (h : i < n) : (pls n).getD i 0 = gn i := by simp [pls, List.getD, h]
theorem pls_nodup {n : Nat} (h : n ≤ 256) : (pls n).Nodup := by
  rw [List.nodup_iff_pairwise_ne, List.pairwise_iff_getElem]
  intro i j hi hj hij e
  rw [pls_len] at hi hj
  simp only [pls, List.getElem_map, List.getElem_range] at e
  have := gn_inj (by omega) (by omega) e
  omega
theorem frm_len {L : List Sd} (h : frm L = false) {i : Nat} (hi : i < L.length) : (sl (L.getD i none)).length = (sl (L.getD 0 none)).length := by
  unfold frm at h
  rw [List.any_eq_false] at h
  have e : L.getD i none = L[i] := by simp [List.getD, List.getElem?_eq_getElem hi]
  have := h _ (List.getElem_mem hi)
  rw [← e] at this
  simpa [pOther] using this
theorem run_makeR (w : World) (C : Nat × TypeId) (c : Nat) (hc : c ≤ 1000000) : ∃ w', (Instr.makeSlice 22 (.int .i64 0) (.int .i64 (c : Int))).run Try.prog w = .ok (.slice (some ⟨w.heap.size, 0, none⟩) 0 c) w' ∧ OwnR w' C w.heap.size (.slice (some ⟨w.heap.size, 0, none⟩) 0 c) [] ∧ Below w.heap.size w w' ∧ w'.heap.size = w.heap.size + 1 := by
  obtain ⟨i0, hi, hz0, hz1, hz2⟩ := info_parts' infoRow
  have hr := run_make (P := Try.prog) w 22 33 i0 _ Try.underlying22 hi hz0 .i64 .i64 0 c (Int.le_refl _) (by omega) (by rw [hz2]; omega) (by omega)
  simp only [Int.toNat_zero, Int.toNat_natCast] at hr
  refine ⟨_, hr, ?_, (Below.refl _ w).alloc (Nat.le_refl _) _, by simp⟩
  have := World.ownsRow_made (e := 33) (size := i0.size) w (madeCells (Value.cells (.slice none 0 0)) (c * i0.size)) c (Nat.le_refl _) (by unfold maxLen; omega) (size_madeCells _ _)
  rw [hz1] at this
  refine ⟨[], ?_, Each.nil _ _⟩
  simpa [hz1] using this
def rowN (L : List Sd) : Nat := (sl (L.getD 0 none)).length
/-- The j-th shard of parity. -/
def encS (L : List Sd) (j : Nat) : Sd := some (grp (pls L.length) L (rowN L) (gn (L.length + j)))
section
variable {w : World}
attribute [local go_sem] Oper.semAt_some
set_option maxHeartbeats 8000000 in
set_option maxRecDepth 100000 in
theorem enc_ok (v : Value) (L : List Sd) (m : Nat) {B : Nat × TypeId} (hv : RdR w B v L) (hk : 1 ≤ L.length ∧ L.length ≤ 32) (hm : m ≤ 16) (h4 : ∀ i, i < L.length → (sl (L.getD i none)).length ≤ 4096) (hf : frm L = false) :
    Calls Try.prog 11 #[v, .int .i64 m] w fun e w' => ∃ a n c, e = .returned (.tuple #[.slice a n c, .int .i64 0]) ∧ OwnR w' (0, 5) w.heap.size (.slice a n c) ((List.range m).map (encS L)) ∧ Below w.heap.size w w' := by
  obtain ⟨va, vc, rfl, h1, h2, _⟩ := hv.shape
  have HV0 : Hid (RdR w (w.heap.size, 1000) (.slice va L.length vc) L) := ⟨by obtain ⟨vs, x1, x2⟩ := hv; exact ⟨vs, x1, x2.1, fun i hi => by obtain ⟨u, hu, hs⟩ := x2.2 i hi; exact ⟨u, hu, hs.sh, hs.rd, fun h0 k hk => .inl (hs.rd.lt h0 k hk)⟩⟩⟩
  have t1 := isData21 (w := w) (L.length : Int)
  have t2 := isParity22 (w := w) (m : Int)
  have t3 := checkRows23 (w := w) _ L hv (by omega) h4
  rw [decide_eq_true (by omega)] at t1
  rw [decide_eq_true (by omega)] at t2
  rw [hf, if_neg (by decide)] at t3
  have HF := Hid.mk hf
  have H4 := Hid.mk h4
  obtain ⟨k, Hk⟩ : ∃ k, Hid (L.length = k) := ⟨_, ⟨rfl⟩⟩
  rw [Hk.out] at hk h1 HV0 t1 t3 ⊢
  clear hv hf h4
  obtain ⟨f, Hf⟩ : ∃ f, Hid (encS L = f) := ⟨_, ⟨rfl⟩⟩
  rw [Hf.out]
  refine (callsIn_wide (n := 10)).1 ?_
  refine callsIn_of_wp_marks Try.func11 rfl trivial ?_ rfl
  simp only [Try.ntmps11, List.size_toArray, List.length_cons, List.length_nil, Nat.reduceAdd, Nat.reduceSub, Array.replicate_succ, Array.replicate_zero, List.push_toArray, List.append_toArray, List.nil_append, List.cons_append]
  gi_wp2_with fail
  refine ⟨trivial, ?_⟩
  refine (callsIn_wide.2 t1).mono ?_
  rintro e wx ⟨rfl, rfl⟩
  clear t1
  gi_wp2_with fail
  refine ⟨trivial, ?_⟩
  refine (callsIn_wide.2 t2).mono ?_
  rintro e wx ⟨rfl, rfl⟩
  clear t2
  gi_wp2_with fail
  refine ⟨trivial, ?_⟩
  refine (callsIn_wide.2 t3).mono ?_
  rintro e w1 ⟨rfl, hb1⟩
  have HB1 := Hid.mk hb1
  clear t3 hb1
  obtain ⟨w2, hmk, hO2, hB2, hS2⟩ := run_makeR w1 (0, 5) m (by omega)
  have HO2 := Hid.mk hO2
  have HB2 := Hid.mk hB2
  have HS2 := Hid.mk hS2
  clear hO2 hB2 hS2
  obtain ⟨r0, Hr0⟩ : ∃ r, Hid (w1.heap.size = r) := ⟨_, ⟨rfl⟩⟩
  rw [Hr0.out] at HO2 HS2 hmk
  obtain ⟨w3, Hw3⟩ : ∃ x, Hid (w2.alloc (.cells #[.slice (some ⟨r0, 0, none⟩) 0 m] 22) = x) := ⟨_, ⟨rfl⟩⟩
  have HC3 : Hid (Below w2.heap.size w2 w3) := ⟨by rw [← Hw3.out]; exact (Below.refl _ w2).alloc (Nat.le_refl _) _⟩
  have HX3 : Hid (w3.heap[w2.heap.size]? = some (.cells #[.slice (some ⟨r0, 0, none⟩) 0 m] 22 (0, 0))) := ⟨by rw [← Hw3.out]; exact heap_alloc_new w2 _⟩
  have HS3 : Hid (w3.heap.size = w2.heap.size + 1) := ⟨by rw [← Hw3.out]; simp⟩
  have HO3 : Hid (OwnR w3 (0, 5) r0 (.slice (some ⟨r0, 0, none⟩) 0 m) []) := ⟨HO2.out.below HC3.out⟩
  have HB02 : Hid (Below w.heap.size w w2) := ⟨HB1.out.trans (HB2.out.mono HB1.out.size)⟩
  have HB03 : Hid (Below w.heap.size w w3) := ⟨HB02.out.trans (HC3.out.mono HB02.out.size)⟩
  obtain ⟨b, Hb⟩ : ∃ b, Hid (w2.heap.size = b) := ⟨_, ⟨rfl⟩⟩
  rw [Hb.out] at HX3 HS3 HS2
  have HV3 : Hid (RdR w3 (w.heap.size, 1000) (.slice va k vc) L) := ⟨HV0.out.below HB03.out⟩
  have t4 := baseOf24 (w := w3) _ L HV3.out HB03.out.size rfl (by rw [Hk.out]; omega)
  rw [Hk.out] at t4
  gi_wp2_with fail
  rw [Hw3.out, Hb.out]
  refine ⟨trivial, ?_⟩
  refine (callsIn_wide.2 t4).mono ?_
  rintro e w4 ⟨pa, pn, pc, ra, rn, rc, rfl, hP4, hR4, hC4⟩
  have HP4 := Hid.mk hP4
  have HR4 := Hid.mk hR4
  have HC4 := Hid.mk hC4
  have HB04 : Hid (Below w.heap.size w w4) := ⟨HB03.out.trans (hC4.mono HB03.out.size)⟩
  have HX4 : Hid (w4.heap[b]? = some (.cells #[.slice (some ⟨r0, 0, none⟩) 0 m] 22 (0, 0))) := ⟨(hC4.block b (by rw [HS3.out]; omega)).trans HX3.out⟩
  have HO4 : Hid (OwnR w4 (0, 5) r0 (.slice (some ⟨r0, 0, none⟩) 0 m) []) := ⟨HO3.out.below hC4⟩
  clear t4 hP4 hR4 hC4 hmk HO2 HO3
  have t5 := shards25 (w := w4) pa ra pn pc rn rc (k : Int) ((k : Int) + m)
  obtain ⟨w5, Hw5⟩ : ∃ x, Hid (((w4.alloc (.cells #[.slice pa pn pc, .slice ra rn rc] 44)).alloc (.cells #[.int .i64 (k : Int)] 3)).alloc (.cells #[.int .i64 ((k : Int) + m)] 3) = x) := ⟨_, ⟨rfl⟩⟩
  have HM5 := Hid.mk (shards_mem (w := w4) (w' := w5) Hw5.out.symm)
  rw [Hw5.out] at t5
  obtain ⟨q, Hq⟩ : ∃ q, Hid (w4.heap.size = q) := ⟨_, ⟨rfl⟩⟩
  rw [Hq.out] at t5 HM5
  have HC5 : Hid (Below w4.heap.size w4 w5) := ⟨by rw [Hq.out]; exact HM5.out.2.2.2.1⟩
  have HB05 : Hid (Below w.heap.size w w5) := ⟨HB04.out.trans (HC5.out.mono HB04.out.size)⟩
  have HX5 : Hid (w5.heap[b]? = some (.cells #[.slice (some ⟨r0, 0, none⟩) 0 m] 22 (0, 0))) := ⟨(HC5.out.block b (Array.getElem?_eq_some_iff.1 HX4.out).1).trans HX4.out⟩
  have HO5 : Hid (OwnR w5 (0, 5) r0 (.slice (some ⟨r0, 0, none⟩) 0 m) []) := ⟨HO4.out.below HC5.out⟩
  have HP5 : Hid (OwnG w5 w3.heap.size (.slice pa pn pc) (pls k)) := ⟨HP4.out.far (Chg.ofBelow (X := []) HC5.out) (by simp)⟩
  have HR5 : Hid (OwnR w5 (w.heap.size, 1000) w3.heap.size (.slice ra rn rc) L) := ⟨HR4.out.below HC5.out⟩
  have hbq : b + 1 ≤ q := by have h1 := HS3.out; have h2 := HC4.out.size; have h3 := Hq.out; omega
  have hrb : r0 + 1 = b := by have := HS2.out; omega
  have hwr : w.heap.size ≤ r0 := by have h1 := HB1.out.size; have := Hr0.out; omega
  have HT5 : Hid (Ty w5 22 b) := ⟨⟨_, HX5.out⟩⟩
  have HTr : Hid (Ty w5 33 r0) := ⟨HO5.out.ty r0 (by simp [ob, Value.ownBlock])⟩
  have HST : Hid (∀ A, KpX (q + 3) [b, r0] w5 A → RdG A (.slice pa pn pc) (pls k) ∧ RdR A (w.heap.size, 1000) (.slice ra rn rc) L) := ⟨fun A hA => by
    have hs5 := HM5.out.2.2.2.2
    refine ⟨HP5.out.rd.keep hA (by omega) (fun k' hk' hm => ?_), HR5.out.rd.keep hA (by omega) (fun k' hk' hm => ?_) (fun k' hk' hm => ?_)⟩
    · have h1 := (HP5.out.lt k' hk').1
      have h2 := HS3.out
      simp at hm
      omega
    · simp at hm
      rcases hk' with h | h
      · have h2 : k' < w.heap.size := h
        omega
      · rcases hm with rfl | rfl
        · exact (Ty.ne h HT5.out (show (1000 : TypeId) ≠ 22 by decide)) rfl
        · exact (Ty.ne h HTr.out (show (1000 : TypeId) ≠ 33 by decide)) rfl
    · have h1 := (HR5.out.lt k' hk').1
      have h2 := HS3.out
      simp at hm
      omega⟩
  obtain ⟨N, HN⟩ : ∃ N, Hid (rowN L = N) := ⟨_, ⟨rfl⟩⟩
  have HRow : Hid (∀ j, j < L.length → (sl (L.getD j none)).length = N) := ⟨fun j hj => by rw [frm_len HF.out hj]; exact HN.out⟩
  have hN : N ≤ 4096 := by rw [← HN.out]; exact H4.out 0 (by rw [Hk.out]; omega)
  have HSQ : Hid (SeqV Fence.wide 9 Try.prog 38 #[.pointer (some ⟨q + 1, 0, none⟩), .pointer (some ⟨q + 2, 0, none⟩), .pointer (some ⟨q, 0, none⟩)] enc (KpX (q + 3) [b, r0]) (fun xs => xs.length = m)
      (fun pre x A => x.1 = ((k + pre.length : Nat) : Int) ∧ k + pre.length < k + m ∧ q + 3 ≤ A.heap.size ∧ KpX (q + 3) [b, r0] w5 A ∧ ∃ a c, x.2 = (some a, N, c) ∧ OwnG A (q + 3) (.slice (some a) N c) (grp (pls k) L N (gn (k + pre.length)))) w5) := ⟨fun l J W hW hJb hY hj0 => by
    have hs5 := HM5.out.2.2.2.2
    have hKW : KpX (q + 3) [b, r0] w5 W := KpX.of (Chg.ofBelow (X := []) hW) (by omega) (by simp)
    have hres := shards38_in (B := (w.heap.size, 1000)) pa ra pn pc rn rc N k (k + m) (pls k) L l q (q + 3) [b, r0] J W
      (fun A hA => HST.out A (hKW.trans hA)) (by rw [pls_len, Hk.out]) (by rw [pls_len]; omega) (by rw [pls_len]; omega) (pls_nodup (by omega)) HRow.out hN (by omega) (by omega)
      ((hW.block q (by omega)).trans HM5.out.1) ((hW.block (q + 1) (by omega)).trans HM5.out.2.1) (by
        have h2 := (hW.block (q + 2) (by omega)).trans HM5.out.2.2.1
        rw [show ((k + m : Nat) : Int) = (k : Int) + m by omega]
        exact h2) (by omega) (by simp; omega) (by have := hW.size; omega) hJb
      (fun pre x A hJ hE => hY pre x A hJ ⟨hE.1, hE.2.1, hE.2.2.1, hKW.trans hE.2.2.2.1, hE.2.2.2.2⟩) hj0
    refine hres.mono ?_
    rintro e C ⟨h1, xs, h2, h3⟩
    exact ⟨h1, xs, by omega, h3⟩⟩
  have hsum : IntKind.i64.wrap ((k : Int) + m) = (k : Int) + m := IntWalk.i64_in _ ⟨by omega, by omega⟩
  have HFn : Hid (∀ j, j < m → encS L j = some (grp (pls k) L N (gn (k + j)))) := ⟨fun j _ => by unfold encS; rw [Hk.out, HN.out]⟩
  rw [Hf.out] at HFn
  gi_wp2_with fail
  refine ⟨trivial, ?_⟩
  refine (callsIn_wide.2 t5).mono ?_
  rintro e wx ⟨rfl, ex⟩
  rw [ex]
  clear ex wx t5
  gi_wp2
  refine range_v rfl (by decide) (gf := 38) (lb := #[.pointer (some ⟨q + 1, 0, none⟩), .pointer (some ⟨q + 2, 0, none⟩), .pointer (some ⟨q, 0, none⟩)]) rfl trivial (enters_of Try.func38 (by kernel_rfl) rfl) HSQ.out (fun _ => rfl) (fun h k => KpX.trans h k) (KpX.put (by have := HM5.out.2.2.2.2; omega))
    (InvR w b (q + 3) f)
    (fun pre y act A => act = { tmps := #[.slice va k vc, .int .i64 (m : Int), undef, undef, .slice none 0 0, .int .i64 0, .int .i64 0, .pointer (some ⟨b, 0, none⟩), undef, .slice y.2.1 y.2.2.1 y.2.2.2, .slice va k vc, .int .i64 (k : Int), .bool true, .bool false, .bool false, .int .i64 (m : Int), .bool true, .bool false, .bool false, .slice va k vc, .int .i64 0, .int .i64 0, .bool false, undef, .int .i64 (m : Int), .slice (some ⟨r0, 0, none⟩) 0 m, .slice va k vc, .agg #[.slice pa pn pc, .slice ra rn rc], .slice va k vc, .int .i64 (k : Int), .slice va k vc, .int .i64 (k : Int), .int .i64 (m : Int), .int .i64 ((k : Int) + m), .func (.func 38) #[] #[.pointer (some ⟨q + 1, 0, none⟩), .pointer (some ⟨q + 2, 0, none⟩), .pointer (some ⟨q, 0, none⟩)], .int .i64 y.1, .slice y.2.1 y.2.2.1 y.2.2.2, undef, undef, undef, undef, undef], defers := [] } ∧ InvR w b (q + 3) f pre A ∧ pre.length < m ∧ RdS A (0, 5) (.slice y.2.1 y.2.2.1 y.2.2.2) (f pre.length))
    ?hIb ?hIo ?hMo ?h0 ?hassign ?hbody ?hdone
  case hIb => exact fun pre A C h hb => h.far (Chg.ofBelow (X := []) hb) (by simp) ⟨by omega, by omega⟩
  case hIo => exact fun pre A l o h hl hx => h.put (by have := HM5.out.2.2.2.2; omega) hx ⟨by omega, by omega⟩
  case hMo =>
    rintro pre y act A l o ⟨h1, h2, h3, h4⟩ hl hx
    refine ⟨h1, h2.put (by have := HM5.out.2.2.2.2; omega) hx ⟨by omega, by omega⟩, h3, h4.far (chg_put A l o) (fun k' hk' hm => ?_)⟩
    simp at hm
    subst hm
    obtain ⟨z, hz, hzc⟩ := hx
    rcases hk' with h | h
    · exact absurd h (Nat.not_lt_zero _)
    · obtain ⟨cs, hcs⟩ := h
      rw [hz] at hcs
      cases hcs
      cases hzc
  case h0 => exact ⟨⟨_, HX5.out, HO5.out.base hwr, fun k' hk' => .inl (by simp [ob, Value.ownBlock] at hk'; omega)⟩, HB05.out, by have := HM5.out.2.2.2.2; omega⟩
  case hassign =>
    rintro l pre y W hI ⟨e1, e2, e3, e4, a, c, e5, e6⟩
    have HI := Hid.mk hI
    have HG := Hid.mk e6
    have Hpl : Hid (pre.length < m) := ⟨by omega⟩
    obtain ⟨y1, y2⟩ := y
    simp only at e5
    subst e5
    simp only [enc]
    clear hI e1 e2 e3 e4 e6
    gi_wp2
    exact ⟨⟨Nat.le_refl _, fun k' o _ hk' _ => hk'⟩, KpX.refl _ _ _, trivial, HI.out, Hpl.out, by rw [HFn.out _ Hpl.out]; exact HG.out.sd rfl ⟨_, _, _, rfl⟩⟩
  case hbody =>
    rintro l pre y act W ⟨rfl, ⟨⟨sv, h1, h2, h3⟩, h4, h5⟩, h6, h7⟩
    obtain ⟨y1, ya, yn, yc⟩ := y
    simp only at h7 ⊢
    have c1 := (Boxed.cell (show Boxed W b 22 sv from h1))
    obtain ⟨sa, sc, es, _⟩ := h2.rd.shape
    subst es
    obtain ⟨V, HV⟩ : ∃ V, Hid (W.alloc (.cells #[.slice ya yn yc] 33) = V) := ⟨_, ⟨rfl⟩⟩
    have HBV : Hid (Below W.heap.size W V) := ⟨by rw [← HV.out]; exact (Below.refl _ W).alloc (Nat.le_refl _) _⟩
    have HcV : Hid (V.cell? ⟨W.heap.size, 0, none⟩ = some (.slice ya yn yc)) := ⟨by rw [← HV.out, cell_of_row _ _ _ _ _ _ (heap_alloc_new W _)]; rfl⟩
    obtain ⟨pl, Hpl⟩ : ∃ pl, Hid (((List.range pre.length).map f).length = pl) := ⟨_, ⟨rfl⟩⟩
    have Hpl2 : Hid (pl = pre.length) := ⟨by rw [← Hpl.out]; simp⟩
    have HNX : Hid ((List.range (pre.length + 1)).map f = (List.range pre.length).map f ++ [f pre.length]) := ⟨by rw [List.range_succ, List.map_append]; rfl⟩
    have hlen : ((List.range pre.length).map f).length ≤ 1000000000000 := by rw [Hpl.out, Hpl2.out]; omega
    rw [Hpl.out] at h1 h2 h3 c1
    have HOV : Hid (OwnR V (0, 5) w.heap.size (.slice sa pl sc) ((List.range pre.length).map f)) := ⟨h2.below HBV.out⟩
    have HSV : Hid (RdS V (0, 5) (.slice ya yn yc) (f pre.length)) := ⟨h7.below HBV.out⟩
    have HbV : Hid (V.heap[b]? = some (.cells #[.slice sa pl sc] 22 (0, 0))) := ⟨(HBV.out.block _ (Array.getElem?_eq_some_iff.1 h1).1).trans h1⟩
    have HB4' : Hid (Below w.heap.size w V) := ⟨h4.trans (HBV.out.mono h4.size)⟩
    have H5 := Hid.mk h5
    have H3 := Hid.mk h3
    have hl3 : w.heap.size ≤ V.heap.size := HB4'.out.size
    have HKV : Hid (KpX (q + 3) [b, r0] W V) := ⟨KpX.of (Chg.ofBelow (X := []) HBV.out) h5 (by simp)⟩
    have HnA : Hid (∀ A, Chg (ob (.slice sa pl sc)) V A → A.heap[b]? = some (.cells #[.slice sa pl sc] 22 (0, 0))) := ⟨fun A hA => (hA.block b (Array.getElem?_eq_some_iff.1 HbV.out).1 (fun hm => (Ty.ne (⟨_, HbV.out⟩ : Ty V 22 b) (HOV.out.ty b hm) (by decide)) rfl)).trans HbV.out⟩
    clear h1 h2 h3 h4 h5 h7
    gi_wp2_with (rw [HV.out]; refine wpi_appR1 rfl (.tmp 37) (.tmp 39) rfl rfl HOV.out (Nat.zero_le _) (by decide) HSV.out ⟨W.heap.size, 0, none⟩ HcV.out rfl hlen hl3 ?_; intro v6 w6 hO6 hG6 hV6; obtain ⟨a6, c6, e6, _⟩ := hO6.rd.shape; subst e6; obtain ⟨k6, Hk6⟩ : ∃ k, Hid (((List.range pre.length).map f ++ [f pre.length]).length = k) := ⟨_, ⟨rfl⟩⟩; rw [Hk6.out] at hO6 hV6 ⊢; have HO6 := Hid.mk hO6; have HV6 := Hid.mk hV6; have HG6 : Hid (Chg (ob (.slice sa pl sc)) V w6) := ⟨hG6⟩; have Hb6 := Hid.mk (HnA.out w6 HG6.out); have hc6 := Boxed.cell (show Boxed w6 b 22 (.slice sa pl sc) from Hb6.out); have hf6 := Boxed.frozen (show Boxed w6 b 22 (.slice sa pl sc) from Hb6.out); clear hO6 hG6 hV6)
    have hcs := (Chg.refl [b] w6).setCell (a := ⟨b, 0, none⟩) (.inl (by simp)) (.slice a6 k6 c6)
    have hT6 : Ty w6 22 b := ⟨_, Hb6.out⟩
    have hown : ∀ g ∈ ob (Value.slice sa pl sc), g = r0 ∨ q + 3 ≤ g := fun g hg => by rcases H3.out g hg with h | h <;> omega
    have hWb := H5.out
    have hVW := HBV.out.size
    have h06 := HG6.out.size
    refine ⟨⟨Nat.le_trans hVW (Nat.le_trans h06 hcs.size), fun g o hB hg ho => ?_⟩, ?_, ⟨⟨_, Boxed.set (.slice a6 k6 c6) (show Boxed w6 b 22 (.slice sa pl sc) from Hb6.out), ?_, ?_⟩, ?_, ?_⟩⟩
    · have hg0 := (Array.getElem?_eq_some_iff.1 hg).1
      have hs5 := HM5.out.2.2.2.2
      have e1 := (HBV.out.block g hg0).trans hg
      have e2 := (HG6.out.block g (Nat.lt_of_lt_of_le hg0 hVW) (fun hm => by
        obtain ⟨cs, hcs'⟩ := HOV.out.ty g hm
        rw [e1] at hcs'
        cases hcs'
        cases ho)).trans e1
      exact (hcs.block g (Array.getElem?_eq_some_iff.1 e2).1 (by simp; omega)).trans e2
    · exact HKV.out.trans ((KpX.of HG6.out (by omega) (fun g hg => by rcases hown g hg with h | h; exact .inl (by simp [h]); exact .inr h)).trans (KpX.of hcs (by omega) (by simp)))
    · have h8 : OwnR w6 (0, 5) w.heap.size (.slice a6 k6 c6) ((List.range (pre ++ [(y1, ya, yn, yc)]).length).map f) := by
        rw [List.length_append, show [(y1, ya, yn, yc)].length = 1 from rfl, HNX.out]
        exact HO6.out
      exact h8.far hcs (fun k' hk' hm => by
        simp at hm
        subst hm
        rcases hk' with h | h
        · exact absurd h (Nat.not_lt_zero _)
        · exact (Ty.ne h hT6 (show (5 : TypeId) ≠ 22 by decide)) rfl) (fun k' hk' hm => by simp at hm; subst hm; exact (Ty.ne (HO6.out.ty k' hk') hT6 (by decide)) rfl)
    · intro g hg
      rcases HV6.out with h | h
      · exact H3.out g (mem_ob.2 (h.symm.trans (mem_ob.1 hg)))
      · have e := mem_ob.1 hg
        rw [h] at e
        simp at e
        omega
    · exact (HB4'.out.trans (HG6.out.below HB4'.out.size (fun g hg => (HOV.out.lt g hg).1))).trans (hcs.below (by have := HB4'.out.size; omega) (by simp; omega))
    · have := hcs.size
      omega
  case hdone =>
    rintro D xs W hD hxs ⟨⟨sv, h1, h2, h3⟩, h4, h5⟩ hK
    have c1 := (Boxed.cell (show Boxed W b 22 sv from h1))
    obtain ⟨sa, sc, es, _⟩ := h2.rd.shape
    subst es
    have H2 := Hid.mk h2
    have H4 := Hid.mk h4
    clear h1 h2 h3 h4 h5
    gi_wp2
    refine ⟨by simp, .inl ⟨_, _, rfl, run_takeDeferred hK, ?_⟩⟩
    have hc := chg_put W D (.deferred none)
    have hDb : q + 3 ≤ D := by have := HM5.out.2.2.2.2; omega
    refine ⟨_, results_tmp2 rfl _ _ _, _, _, _, rfl, ?_, H4.out.trans (hc.below H4.out.size (by simp; omega))⟩
    have hnt : ∀ t, ¬ Ty W t D := fun t ⟨cs, hcs⟩ => by rw [hK] at hcs; cases hcs
    have := H2.out.far hc (fun k' hk' hm => by
      simp at hm
      subst hm
      rcases hk' with h | h
      · exact absurd h (Nat.not_lt_zero _)
      · exact hnt _ h) (fun k' hk' hm => by simp at hm; subst hm; exact hnt _ (H2.out.ty k' hk'))
    rw [hxs] at this
    simpa using this
end
end Go.Proofs.Ytbdmbhpmbklaiaa
