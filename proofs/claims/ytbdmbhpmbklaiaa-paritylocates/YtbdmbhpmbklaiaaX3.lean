/- wrongPlace. -/
import Derived.Test.YtbdmbhpmbklaiaaX2
import Derived.Test.YtbdmbhpmbklaiaaS15
namespace Go.Proofs.Ytbdmbhpmbklaiaa
open Go.RowKit Go.Lib Go.Shelf Gf

def Stay (A B : World) : Prop := A = B
/-- Between two rounds: all told so far are the group's. -/
def InvW (q : Nat) (w5 w : World) (L : List Sd) (f : Nat → Sd) (n : Nat) (A : World) : Prop := KpX (q + 3) [] w5 A ∧ Below w.heap.size w A ∧ q + 3 ≤ A.heap.size ∧ ∀ i, i < n → (L.getD i none).isSome = true → L.getD i none = f i
/-- Where a round ended the call: the results' boxes tell a place. -/
def OutW (b : Nat) (w : World) (L : List Sd) (f : Nat → Sd) (m N : Nat) (A : World) : Prop := Below w.heap.size w A ∧ b + 2 < A.heap.size ∧ ∃ i j : Nat, i < m ∧ j < N ∧ (L.getD i none).isSome = true ∧ (sl (L.getD i none)).getD j 0 ≠ (sl (f i)).getD j 0 ∧ A.heap[b + 1]? = some (.cells #[.int .i64 (j : Int)] 3 (0, 0)) ∧ A.heap[b + 2]? = some (.cells #[.bool true] 4 (0, 0))
section
variable {w : World}
attribute [local go_sem] Oper.semAt_some
set_option maxHeartbeats 8000000 in
set_option maxRecDepth 100000 in
theorem wrong31 (v : Value) (L : List Sd) (k : Nat) {B : Nat × TypeId} (hv : RdR w B v L) (h4 : ∀ i, i < L.length → (sl (L.getD i none)).length ≤ 4096) (hF : Fine L k) :
    Calls Try.prog 31 #[v, .int .i64 k] w fun e w' => WrV L k e ∧ Below w.heap.size w w' := by
  obtain ⟨va, vc, rfl, h1, h2, _⟩ := hv.shape
  have hk1 := hF.k1
  obtain ⟨gv, off, hva⟩ : ∃ g o, va = some ⟨g, o, none⟩ := by
    obtain ⟨g, o, c, e, _⟩ := hv.at (i := 0) (by have := hF.lo; omega)
    simp only [Value.slice.injEq] at e
    exact ⟨g, o, e.1⟩
  subst hva
  have HV0 : Hid (RdR w (w.heap.size, 1000) (.slice (some ⟨gv, off, none⟩) L.length vc) L) := ⟨by obtain ⟨vs, x1, x2⟩ := hv; exact ⟨vs, x1, x2.1, fun i hi => by obtain ⟨u, hu, hs⟩ := x2.2 i hi; exact ⟨u, hu, hs.sh, hs.rd, fun h0 k hk => .inl (hs.rd.lt h0 k hk)⟩⟩⟩
  have hk2 := hF.k32
  have hlo := hF.lo
  have hhi := hF.hi
  have HFi := Hid.mk hF
  have H4 := Hid.mk h4
  obtain ⟨m, Hm⟩ : ∃ m, Hid (L.length = m) := ⟨_, ⟨rfl⟩⟩
  rw [Hm.out] at hlo hhi h1 HV0 ⊢
  clear hv h4 hF
  obtain ⟨P, HP⟩ : ∃ P, Hid (lfP L (k : Int) m = P) := ⟨_, ⟨rfl⟩⟩
  obtain ⟨R, HRR⟩ : ∃ P, Hid (lfR L (k : Int) m = P) := ⟨_, ⟨rfl⟩⟩
  refine (callsIn_wide (n := 10)).1 ?_
  refine callsIn_of_wp_marks Try.func31 rfl trivial ?_ rfl
  simp only [Try.ntmps31, List.size_toArray, List.length_cons, List.length_nil, Nat.reduceAdd, Nat.reduceSub, Array.replicate_succ, Array.replicate_zero, List.push_toArray, List.append_toArray, List.nil_append, List.cons_append]
  gi_wp2_with fail
  obtain ⟨w1, Hw1⟩ : ∃ x, Hid (((w.alloc (.cells #[.slice (some ⟨gv, off, none⟩) m vc] 22)).alloc (.cells #[.int .i64 0] 3)).alloc (.cells #[.bool false] 4) = x) := ⟨_, ⟨rfl⟩⟩
  obtain ⟨b, Hb⟩ : ∃ b, Hid (w.heap.size = b) := ⟨_, ⟨rfl⟩⟩
  have HB1 : Hid (Below w.heap.size w w1) := ⟨by rw [← Hw1.out]; exact (((Below.refl _ w).alloc (Nat.le_refl _) _).alloc (by simp) _).alloc (by simp; omega) _⟩
  have HX0 : Hid (w1.heap[b]? = some (.cells #[.slice (some ⟨gv, off, none⟩) m vc] 22 (0, 0))) := ⟨by rw [← Hw1.out, ← Hb.out]; exact ((((Below.refl _ (w.alloc (.cells #[.slice (some ⟨gv, off, none⟩) m vc] 22))).alloc (Nat.le_refl _) (.cells #[.int .i64 0] 3)).alloc (by simp) (.cells #[.bool false] 4)).block _ (by simp)).trans (heap_alloc_new w _)⟩
  have HX1 : Hid (w1.heap[b + 1]? = some (.cells #[.int .i64 0] 3 (0, 0))) := ⟨by
    rw [← Hw1.out, ← Hb.out]
    have := heap_alloc_new (w.alloc (.cells #[.slice (some ⟨gv, off, none⟩) m vc] 22)) (.cells #[.int .i64 0] 3)
    rw [World.size_alloc] at this
    exact (((Below.refl _ ((w.alloc (.cells #[.slice (some ⟨gv, off, none⟩) m vc] 22)).alloc (.cells #[.int .i64 0] 3))).alloc (Nat.le_refl _) (.cells #[.bool false] 4)).block _ (by simp)).trans this⟩
  have HX2 : Hid (w1.heap[b + 2]? = some (.cells #[.bool false] 4 (0, 0))) := ⟨by
    rw [← Hw1.out, ← Hb.out]
    have := heap_alloc_new ((w.alloc (.cells #[.slice (some ⟨gv, off, none⟩) m vc] 22)).alloc (.cells #[.int .i64 0] 3)) (.cells #[.bool false] 4)
    simp only [World.size_alloc] at this
    exact this⟩
  have HS1 : Hid (w1.heap.size = b + 3) := ⟨by rw [← Hw1.out, ← Hb.out]; simp⟩
  rw [Hw1.out, Hb.out]
  have HK : Hid (∀ w', Below (b + 3) w1 w' → w'.cell? ⟨b, 0, none⟩ = some (.slice (some ⟨gv, off, none⟩) m vc)) := ⟨fun w' h => by rw [cell_of_row _ _ _ _ _ _ ((h.block b (by omega)).trans HX0.out)]; rfl⟩
  refine wpIn_wide.2 (wp_only ?_)
  refine wp_region_held_drew (S := fun w' => Below (b + 3) w1 w') (by kernel_rfl) (Below.refl _ _).drew (fun hS => ?_)
  refine wpAnyH_take (i := 0) (v := .slice (some ⟨gv, off, none⟩) m vc) rfl (by kernel_rfl) (by kernel_rfl) (by kernel_rfl) (fun _ _ _ h => h) (Or.inl ⟨by kernel_rfl, fun wx hx => by have hx0 := HK.out wx hx; go_simp⟩) hS ?_
  refine wpAnyH_take (i := 1) (v := .int .i64 (k : Int)) rfl (by kernel_rfl) (by kernel_rfl) (by kernel_rfl) (fun _ _ _ h => h) (Or.inl ⟨by kernel_rfl, fun wx hx => by go_simp⟩) hS ?_
  refine wpAnyH_take (i := 3) (v := .slice (some ⟨gv, off, none⟩) m vc) rfl (by kernel_rfl) (by kernel_rfl) (by kernel_rfl) (fun _ _ _ h => h) (Or.inl ⟨by kernel_rfl, fun wx hx => by have hx0 := HK.out wx hx; go_simp⟩) hS ?_
  refine wpAnyH_take (i := 4) (v := .int .i64 (m : Int)) rfl (by kernel_rfl) (by kernel_rfl) (by kernel_rfl) (fun _ _ _ h => h) (Or.inl ⟨by kernel_rfl, fun wx hx => by go_simp⟩) hS ?_
  obtain ⟨w3, Hw3⟩ : ∃ x, Hid (w1.drew = x) := ⟨_, ⟨rfl⟩⟩
  rw [Hw3.out] at hS ⊢
  have HC3 : Hid (Below (b + 3) w1 w3) := ⟨hS⟩
  have HB03 : Hid (Below w.heap.size w w3) := ⟨HB1.out.trans (HC3.out.mono (by rw [Hb.out]; omega))⟩
  have HS3 : Hid (w3.heap.size = b + 3) := ⟨by rw [← Hw3.out]; exact HS1.out⟩
  have HV3 : Hid (RdR w3 (w.heap.size, 1000) (.slice (some ⟨gv, off, none⟩) m vc) L) := ⟨HV0.out.below HB03.out⟩
  have t4 := baseLeft29 (w := w3) (k : Int) _ L HV3.out HB03.out.size rfl (by rw [Hm.out]; omega)
  rw [Hm.out, HP.out, HRR.out] at t4
  refine wpAnyH_ready (rs := [2]) (by kernel_rfl) (by simp) (AllReadyH.cons rfl (fun Kc hK => ?_) AllReadyH.nil)
  go_simp
  refine t4.mono ?_
  rintro e w4 ⟨pa, pn, pc, ra, rn, rc, rfl, hP4, hR4, hC4⟩
  have HP4 := Hid.mk hP4
  have HR4 := Hid.mk hR4
  have HC4 := Hid.mk hC4
  have HB04 : Hid (Below w.heap.size w w4) := ⟨HB03.out.trans (hC4.mono HB03.out.size)⟩
  have HD4 : Hid (Below (b + 3) w1 w4) := ⟨HC3.out.trans (by rw [← HS3.out]; exact hC4)⟩
  clear t4 hP4 hR4 hC4
  refine hK.out _ _ HD4.out (fun hS => ?_)
  clear hK
  have t5 := shards25 (w := w4) pa ra pn pc rn rc 0 (m : Int)
  obtain ⟨w5, Hw5⟩ : ∃ x, Hid (((w4.alloc (.cells #[.slice pa pn pc, .slice ra rn rc] 44)).alloc (.cells #[.int .i64 0] 3)).alloc (.cells #[.int .i64 (m : Int)] 3) = x) := ⟨_, ⟨rfl⟩⟩
  have HM5 := Hid.mk (shards_mem (w := w4) (w' := w5) Hw5.out.symm)
  rw [Hw5.out] at t5
  obtain ⟨q, Hq⟩ : ∃ q, Hid (w4.heap.size = q) := ⟨_, ⟨rfl⟩⟩
  rw [Hq.out] at t5 HM5
  have HC5 : Hid (Below w4.heap.size w4 w5) := ⟨by rw [Hq.out]; exact HM5.out.2.2.2.1⟩
  have hbq : b + 3 ≤ q := by have h1 := HS3.out; have h2 := HC4.out.size; have h3 := Hq.out; omega
  have HD5 : Hid (Below (b + 3) w1 w5) := ⟨HD4.out.trans (HC5.out.mono (by rw [Hq.out]; omega))⟩
  have HB05 : Hid (Below w.heap.size w w5) := ⟨HB04.out.trans (HC5.out.mono HB04.out.size)⟩
  refine wpAnyH_ready (rs := [5]) (by kernel_rfl) (by simp) (AllReadyH.cons rfl (fun Kc hK => ?_) AllReadyH.nil)
  go_simp
  refine t5.mono ?_
  rintro e wx ⟨rfl, ex⟩
  rw [ex]
  clear ex wx t5
  refine hK.out _ _ HD5.out (fun hS => ?_)
  clear hK hS
  refine wpAnyH_done (by kernel_rfl) ?_ _
  go_simp
  unfold only
  have HX5 : Hid (∀ A, KpX (q + 3) [] w5 A → A.heap[b]? = some (.cells #[.slice (some ⟨gv, off, none⟩) m vc] 22 (0, 0)) ∧ A.heap[b + 1]? = some (.cells #[.int .i64 0] 3 (0, 0)) ∧ A.heap[b + 2]? = some (.cells #[.bool false] 4 (0, 0)) ∧ RdR A (w.heap.size, 1000) (.slice (some ⟨gv, off, none⟩) m vc) L) := ⟨fun A hA => by
    have hs5 := HM5.out.2.2.2.2
    exact ⟨(hA.2 b (by omega) (by simp)).trans ((HD5.out.block b (by omega)).trans HX0.out), (hA.2 (b + 1) (by omega) (by simp)).trans ((HD5.out.block (b + 1) (by omega)).trans HX1.out), (hA.2 (b + 2) (by omega) (by simp)).trans ((HD5.out.block (b + 2) (by omega)).trans HX2.out), (HV0.out.below HB05.out).keep hA (by omega) (fun _ _ => by simp) (fun _ _ => by simp)⟩⟩
  have HP5 : Hid (OwnG w5 w3.heap.size (.slice pa pn pc) P) := ⟨HP4.out.far (Chg.ofBelow (X := []) HC5.out) (by simp)⟩
  have HR5 : Hid (OwnR w5 (w.heap.size, 1000) w3.heap.size (.slice ra rn rc) R) := ⟨HR4.out.below HC5.out⟩
  have HST : Hid (∀ A, KpX (q + 3) [] w5 A → RdG A (.slice pa pn pc) P ∧ RdR A (w.heap.size, 1000) (.slice ra rn rc) R) := ⟨fun A hA => by
    have hs5 := HM5.out.2.2.2.2
    exact ⟨HP5.out.rd.keep hA (by omega) (fun _ _ => by simp), HR5.out.rd.keep hA (by omega) (fun _ _ => by simp) (fun _ _ => by simp)⟩⟩
  have HRl : Hid (R.length = k) := ⟨by have := HFi.out.len; rwa [Hm.out, HRR.out] at this⟩
  have HPl : Hid (P.length = k) := ⟨by rw [← HP.out, lf_len, HRR.out]; exact HRl.out⟩
  have HPn : Hid P.Nodup := ⟨by rw [← HP.out]; exact lfP_nodup L k m (by omega)⟩
  obtain ⟨N, HN⟩ : ∃ N, Hid (rowN R = N) := ⟨_, ⟨rfl⟩⟩
  have HRow : Hid (∀ j, j < R.length → (sl (R.getD j none)).length = N) := ⟨fun j hj => by have := HFi.out.row j; rw [Hm.out, HRR.out] at this; rw [this hj]; exact HN.out⟩
  have hN : N ≤ 4096 := by rw [← HN.out, ← HRR.out, ← Hm.out]; exact HFi.out.small H4.out
  have HrL : Hid (rowL L k = N) := ⟨by unfold rowL; rw [Hm.out, HRR.out]; exact HN.out⟩
  have HFn : Hid (∀ j, repS L k j = some (grp P R N (gn (0 + j)))) := ⟨fun j => by unfold repS; rw [Hm.out, HP.out, HRR.out, HN.out, Nat.zero_add]⟩
  obtain ⟨f, Hf⟩ : ∃ f, Hid (repS L k = f) := ⟨_, ⟨rfl⟩⟩
  rw [Hf.out] at HFn
  have HSQ : Hid (SeqX Fence.wide 9 Try.prog 38 #[.pointer (some ⟨q + 1, 0, none⟩), .pointer (some ⟨q + 2, 0, none⟩), .pointer (some ⟨q, 0, none⟩)] enc (KpX (q + 3) []) (fun xs => xs.length = m)
      (fun pre x A => x.1 = ((0 + pre.length : Nat) : Int) ∧ 0 + pre.length < m ∧ q + 3 ≤ A.heap.size ∧ KpX (q + 3) [] w5 A ∧ ∃ a c, x.2 = (some a, N, c) ∧ OwnG A (q + 3) (.slice (some a) N c) (grp P R N (gn (0 + pre.length)))) w5) := ⟨fun l J Jx W hW hJb hXb hY hj0 => by
    have hs5 := HM5.out.2.2.2.2
    have hKW : KpX (q + 3) [] w5 W := KpX.of (Chg.ofBelow (X := []) hW) (by omega) (by simp)
    have hres := shards38_x (B := (w.heap.size, 1000)) pa ra pn pc rn rc N 0 m P R l q (q + 3) [] J Jx W
      (fun A hA => HST.out A (hKW.trans hA)) (by rw [HPl.out, HRl.out]) (by rw [HPl.out]; omega) (by rw [HPl.out]; omega) HPn.out HRow.out hN (by omega) (by omega)
      ((hW.block q (by omega)).trans HM5.out.1) ((hW.block (q + 1) (by omega)).trans HM5.out.2.1) ((hW.block (q + 2) (by omega)).trans HM5.out.2.2.1) (by omega) (by simp) (by have := hW.size; omega) hJb
      (fun pre x A hJ hE => hY pre x A hJ ⟨hE.1, hE.2.1, hE.2.2.1, hKW.trans hE.2.2.2.1, hE.2.2.2.2⟩) hj0
    refine hres.mono ?_
    rintro e C ⟨h1, ⟨xs, h2, h3⟩ | h2⟩
    · exact ⟨h1, .inl ⟨xs, by omega, h3⟩⟩
    · exact ⟨h1, .inr h2⟩⟩
  gi_wp2
  refine range_x rfl (by decide) (gf := 38) (lb := #[.pointer (some ⟨q + 1, 0, none⟩), .pointer (some ⟨q + 2, 0, none⟩), .pointer (some ⟨q, 0, none⟩)]) rfl trivial (enters_of Try.func38 (by kernel_rfl) rfl) HSQ.out (fun _ => rfl) (fun h k => KpX.trans h k) (KpX.put (by have := HM5.out.2.2.2.2; omega))
    (fun pre A => InvW q w5 w L f pre.length A)
    (fun c _ A => c = .ret ∧ OutW b w L f m N A)
    (fun pre y act A => act = { tmps := #[.slice (some ⟨gv, off, none⟩) m vc, .int .i64 (k : Int), .pointer (some ⟨b, 0, none⟩), undef, .pointer (some ⟨b + 1, 0, none⟩), .pointer (some ⟨b + 1 + 1, 0, none⟩), .int .i64 y.1, .slice y.2.1 y.2.2.1 y.2.2.2, undef, undef, .slice (some ⟨gv, off, none⟩) m vc, .int .i64 (k : Int), .agg #[.slice pa pn pc, .slice ra rn rc], .slice (some ⟨gv, off, none⟩) m vc, .int .i64 (m : Int), .func (.func 38) #[] #[.pointer (some ⟨q + 1, 0, none⟩), .pointer (some ⟨q + 2, 0, none⟩), .pointer (some ⟨q, 0, none⟩)], .int .i64 y.1, .slice y.2.1 y.2.2.1 y.2.2.2, undef, undef, undef, undef, undef, undef, undef, undef, undef, undef, undef, undef, undef, undef, undef, undef, undef, undef, undef, undef, undef, undef, undef], defers := [] } ∧ InvW q w5 w L f pre.length A ∧ pre.length < m ∧ y.1 = (pre.length : Int) ∧ N = y.2.2.1 ∧ RdS A (0, 5) (.slice y.2.1 y.2.2.1 y.2.2.2) (f pre.length))
    ?hIb ?hIo ?hXb ?hXo ?hMo ?h0 ?hassign ?hbody ?hdone ?hstop
  case hIb => exact fun pre A C h hb => ⟨h.1.trans (KpX.of (Chg.ofBelow (X := []) hb) h.2.2.1 (by simp)), h.2.1.trans (hb.mono h.2.1.size), Nat.le_trans h.2.2.1 hb.size, h.2.2.2⟩
  case hIo =>
    intro pre A l o h hl hx
    have hs5 := HM5.out.2.2.2.2
    exact ⟨h.1.trans (KpX.put (w := w5) (by omega) A l o hl), h.2.1.trans ((chg_put A l o).below h.2.1.size (by have := HB05.out.size; simp; omega)), by simpa using h.2.2.1, h.2.2.2⟩
  case hXb =>
    rintro c pre A C ⟨h1, h2, h3, i, j, h4, h5, h6, h7, h8, h9⟩ hb
    exact ⟨h1, h2.trans (hb.mono h2.size), Nat.lt_of_lt_of_le h3 hb.size, i, j, h4, h5, h6, h7, (hb.block _ (by omega)).trans h8, (hb.block _ (by omega)).trans h9⟩
  case hXo =>
    rintro c pre A l o ⟨h1, h2, h3, i, j, h4, h5, h6, h7, h8, h9⟩ hl hx
    have hs5 := HM5.out.2.2.2.2
    exact ⟨h1, h2.trans ((chg_put A l o).below h2.size (by have := HB05.out.size; simp; omega)), by simpa using h3, i, j, h4, h5, h6, h7, (World.putObj_heap_other (by omega)).trans h8, (World.putObj_heap_other (by omega)).trans h9⟩
  case hMo =>
    rintro pre y act A l o ⟨h1, h2, h3, h4, h5, h6⟩ hl hx
    have hs5 := HM5.out.2.2.2.2
    refine ⟨h1, ⟨h2.1.trans (KpX.put (w := w5) (by omega) A l o hl), h2.2.1.trans ((chg_put A l o).below h2.2.1.size (by have := HB05.out.size; simp; omega)), by simpa using h2.2.2.1, h2.2.2.2⟩, h3, h4, h5, h6.far (chg_put A l o) (fun k' hk' hm => ?_)⟩
    simp at hm
    subst hm
    obtain ⟨z, hz, hzc⟩ := hx
    rcases hk' with h | h
    · exact absurd h (Nat.not_lt_zero _)
    · obtain ⟨cs, hcs⟩ := h
      rw [hz] at hcs
      cases hcs
      cases hzc
  case h0 => exact ⟨KpX.refl _ _ _, HB05.out, by have := HM5.out.2.2.2.2; omega, fun i hi => by simp at hi⟩
  case hassign =>
    rintro l pre y W hI ⟨e1, e2, e3, e4, a, c, e5, e6⟩
    have HI := Hid.mk hI
    have HG := Hid.mk e6
    have Hpl : Hid (pre.length < m) := ⟨by omega⟩
    obtain ⟨y1, y2⟩ := y
    simp only at e5 e1
    rw [Nat.zero_add] at e1
    subst e5
    subst e1
    simp only [enc]
    clear hI e2 e3 e4 e6
    gi_wp2
    exact ⟨⟨Nat.le_refl _, fun k' o _ hk' _ => hk'⟩, KpX.refl _ _ _, by first | trivial | rfl, HI.out, Hpl.out, by first | trivial | rfl, by first | trivial | rfl, by rw [HFn.out]; exact HG.out.sd rfl ⟨_, _, _, rfl⟩⟩
  case hbody =>
    rintro l pre ⟨y1, ya, yn, yc⟩ act W ⟨rfl, ⟨hK, hB, hS, hI⟩, h3, h4, h5, h6⟩ hl hr
    simp only at h4 h5 h6 ⊢
    subst h5 h4
    obtain ⟨x0, x1, x2, x3⟩ := HX5.out W hK
    obtain ⟨g', off', cap', e, _, hat⟩ := x3.at (i := pre.length) (by rw [Hm.out]; exact h3)
    simp only [Value.slice.injEq, Option.some.injEq, Addr.mk.injEq] at e
    obtain ⟨⟨rfl, rfl, -⟩, -, -⟩ := e
    obtain ⟨a, c, hc, hn, hac, -, hs⟩ := hat pre.length (by rw [Hm.out]; exact h3)
    have hcb : W.cell? ⟨b, 0, none⟩ = some (.slice (some ⟨gv, off, none⟩) m vc) := by rw [cell_of_row _ _ _ _ _ _ x0]; rfl
    have t6 := isLost44 (w := W) a (sl (L.getD pre.length none)).length c
    obtain ⟨i, Hi⟩ : ∃ i, Hid (pre.length = i) := ⟨_, ⟨rfl⟩⟩
    rw [Hi.out] at h3 hc hn hac hs t6 h6 hI ⊢
    have hiz : (i : Int) < (m : Int) := by omega
    have HKW := Hid.mk hK
    have HBW := Hid.mk hB
    have HIW := Hid.mk hI
    have HX1' := Hid.mk x1
    have HX2' := Hid.mk x2
    have Hpl2 : Hid ((pre ++ [((i : Int), ya, N, yc)]).length = i + 1) := ⟨by rw [List.length_append, Hi.out]; rfl⟩
    cases hLi : L.getD i none with
    | none =>
      have ha : a = none := hn.2 hLi
      subst ha
      have HL0 : Hid (L.getD i none = none) := ⟨hLi⟩
      rw [hLi] at hc t6
      simp only [sl, Option.getD_none, List.length_nil] at hc t6
      clear hn hac hs hLi h6 hK hB hI x0 x1 x2 x3 hat hr
      gi_wp2_with fail
      refine ⟨trivial, ?_⟩
      refine ((callsIn_wide.2 t6).inRound l).mono ?_
      rintro e wx ⟨rfl, rfl⟩
      clear t6
      gi_wp2
      refine ⟨KeepsFrom.refl _ _, KpX.refl _ _ _, HKW.out, HBW.out, hS, fun i' hi' hs' => ?_⟩
      rw [Hpl2.out] at hi'
      by_cases he : i' = i
      · subst he
        rw [HL0.out] at hs'
        cases hs'
      · exact HIW.out i' (by omega) hs'
    | some s =>
      obtain ⟨ad, rfl⟩ : ∃ ad, a = some ad := by
        cases a with
        | none => rw [hLi] at hn; exact absurd (hn.1 rfl) (by simp)
        | some ad => exact ⟨ad, rfl⟩
      have hlen : s.length = N := by have := HFi.out.all i (by rw [Hm.out]; exact h3) (by rw [hLi]; rfl); rw [hLi, HrL.out] at this; exact this
      have hsr := hs.rd
      rw [hLi] at hc t6 hsr
      obtain ⟨r, hr0⟩ : ∃ r, f i = some r := ⟨_, HFn.out i⟩
      have hrl : r.length = N := by have := HFn.out i; rw [hr0] at this; cases this; simp [grp]
      have hyr := h6.rd
      rw [hr0] at hyr
      change W.cell? ⟨gv, off + i, none⟩ = some (.slice (some ad) s.length c) at hc
      change RdG W (.slice (some ad) s.length c) s at hsr
      change RdG W (.slice ya N yc) r at hyr
      change Calls Try.prog 44 #[.slice (some ad) s.length c] W _ at t6
      rw [hlen] at hc hsr t6
      have HCs : Hid (∀ j, j < N → ∃ g o, ad = ⟨g, o, none⟩ ∧ ∀ t, t < N → W.cell? ⟨g, o + t, none⟩ = some (.int .u8 (gi (s.getD t 0)))) := ⟨fun j hj => by
        obtain ⟨g, o, cp, e, _, hh⟩ := hsr.at (i := j) (by rw [hlen]; exact hj)
        simp only [Value.slice.injEq, Option.some.injEq] at e
        exact ⟨g, o, e.1, by rw [hlen] at hh; exact hh⟩⟩
      have HCr : Hid (∀ j, j < N → ∃ g o, ya = some ⟨g, o, none⟩ ∧ ∀ t, t < N → W.cell? ⟨g, o + t, none⟩ = some (.int .u8 (gi (r.getD t 0)))) := ⟨fun j hj => by
        obtain ⟨g, o, cp, e, _, hh⟩ := hyr.at (i := j) (by rw [hrl]; exact hj)
        simp only [Value.slice.injEq] at e
        exact ⟨g, o, e.1, by rw [hrl] at hh; exact hh⟩⟩
      have HL0 : Hid (L.getD i none = some s) := ⟨hLi⟩
      have HR0 : Hid (f i = some r) := ⟨hr0⟩
      have HLn : Hid (s.length = N ∧ r.length = N) := ⟨⟨hlen, hrl⟩⟩
      have hNc : N ≤ c := by obtain ⟨_, _, e, h, _⟩ := hsr.shape; simp only [Value.slice.injEq] at e; rw [hlen] at h; omega
      have hNy : N ≤ yc := by obtain ⟨_, _, e, h, _⟩ := hyr.shape; simp only [Value.slice.injEq] at e; rw [hrl] at h; omega
      clear hn hac hs hLi h6 hK hB hI x0 x1 x2 x3 hat hr hsr hyr hlen hrl hr0
      gi_wp2_with fail
      refine ⟨trivial, ?_⟩
      refine ((callsIn_wide.2 t6).inRound l).mono ?_
      rintro e wx ⟨rfl, rfl⟩
      clear t6
      gi_wp2
      gi_loopw [25] (fun s25 wr => ∃ j : Nat, j ≤ N ∧ s25 = .int .i64 (j : Int) ∧ Hid (Stay W wr) ∧ Hid (∀ t, t < j → s.getD t 0 = r.getD t 0)) (fun s25 _ => N - (RowKit.intOf s25).toNat)
      case atStart => exact ⟨0, Nat.zero_le _, rfl, ⟨rfl⟩, ⟨fun t ht => by omega⟩⟩
      case round =>
        obtain ⟨j, hj, rfl, HW, HE⟩ := hrel
        have hW : W = wr := HW.out
        subst hW
        by_cases hlt : j < N
        · obtain ⟨g1, o1, rfl, c1⟩ := HCs.out j hlt
          obtain ⟨g2, o2, rfl, c2⟩ := HCr.out j hlt
          have d1 := c1 j hlt
          have d2 := c2 j hlt
          have hjz : (j : Int) < (N : Int) := by omega
          clear c1 c2
          by_cases he : s.getD j 0 = r.getD j 0
          · have HEq : Hid (∀ t, t < j + 1 → s.getD t 0 = r.getD t 0) := ⟨fun t ht => by
              by_cases e : t = j
              · subst e; exact he
              · exact HE.out t (by omega)⟩
            rw [he] at d1
            clear he
            gi_wp2
            all_goals exact ⟨⟨j + 1, by omega, by go_num, ⟨rfl⟩, HEq⟩, by simp [RowKit.intOf]; omega⟩
          · have HNE := Hid.mk he
            have hne : (gi (s.getD j 0) != gi (r.getD j 0)) = true := by simp only [bne, gi_eq, decide_eq_false he, Bool.not_false]
            have hnf : ¬ gi (s.getD j 0) = gi (r.getD j 0) := fun h => he (gi_inj h)
            generalize gi (s.getD j 0) = x at d1 hne hnf
            generalize gi (r.getD j 0) = y at d2 hne hnf
            have b1 : W.cell? ⟨b + 1, 0, none⟩ = some (.int .i64 0) := by rw [cell_of_row _ _ _ _ _ _ HX1'.out]; rfl
            have b2 : W.cell? ⟨b + 1 + 1, 0, none⟩ = some (.bool false) := by rw [cell_of_row _ _ _ _ _ _ HX2'.out]; rfl
            have f1 : W.frozen? ⟨b + 1, 0, none⟩ = false := frozen_of_row W (b + 1) 0 _ 3 HX1'.out
            have f2 : W.frozen? ⟨b + 1 + 1, 0, none⟩ = false := frozen_of_row W (b + 2) 0 _ 4 HX2'.out
            clear he
            gi_wp2
            have g1 := Boxed.set (.int .i64 (j : Int)) (show Boxed W (b + 1) 3 (.int .i64 0) from HX1'.out)
            have g2 := Boxed.set (.bool true) (Boxed.other (show Boxed W (b + 2) 4 (.bool false) from HX2'.out) (B' := b + 1) (by omega) (.int .i64 (j : Int)))
            have g3 := Boxed.other g1 (B' := b + 2) (by omega) (.bool true)
            have hcc := ((Chg.refl [b + 1, b + 2] W).setCell (a := ⟨b + 1, 0, none⟩) (.inl (by simp)) (.int .i64 (j : Int))).setCell (a := ⟨b + 1 + 1, 0, none⟩) (.inl (by simp)) (.bool true)
            have hs5 := HM5.out.2.2.2.2
            have hb0 := Hb.out
            refine ⟨⟨hcc.size, fun k' o hk0 hk' _ => (hcc.block k' (Array.getElem?_eq_some_iff.1 hk').1 (by simp; omega)).trans hk'⟩, rfl, HBW.out.trans (hcc.below HBW.out.size (by simp; omega)), by have := hcc.size; omega, i, j, h3, hlt, by rw [HL0.out]; rfl, by rw [HL0.out, HR0.out]; exact HNE.out, g3, g2⟩
        · gi_wp2
          refine ⟨KeepsFrom.refl _ _, KpX.refl _ _ _, HKW.out, HBW.out, hS, fun i' hi' hs' => ?_⟩
          rw [Hpl2.out] at hi'
          by_cases he : i' = i
          · subst he
            rw [HL0.out, HR0.out]
            congr 1
            refine List.ext_getElem (by rw [HLn.out.1, HLn.out.2]) (fun t h1 h2 => ?_)
            have := HE.out t (by rw [HLn.out.1] at h1; omega)
            simpa [List.getD, List.getElem?_eq_getElem h1, List.getElem?_eq_getElem h2] using this
          · exact HIW.out i' (by omega) hs'
  case hdone =>
    rintro D xs W hD hxs ⟨hK, hB, hS, hI⟩ hKD
    obtain ⟨x0, x1, x2, x3⟩ := HX5.out W hK
    have b1 : W.cell? ⟨b + 1, 0, none⟩ = some (.int .i64 0) := by rw [cell_of_row _ _ _ _ _ _ x1]; rfl
    have b2 : W.cell? ⟨b + 1 + 1, 0, none⟩ = some (.bool false) := by rw [cell_of_row _ _ _ _ _ _ x2]; rfl
    have f1 : W.frozen? ⟨b + 1, 0, none⟩ = false := frozen_of_row W (b + 1) 0 _ 3 x1
    have f2 : W.frozen? ⟨b + 1 + 1, 0, none⟩ = false := frozen_of_row W (b + 2) 0 _ 4 x2
    have HX1' := Hid.mk x1
    have HX2' := Hid.mk x2
    have HKD := Hid.mk hKD
    have HI := Hid.mk hI
    have HBW := Hid.mk hB
    clear x0 x1 x2 x3 hI hKD hK hB
    gi_wp2
    have g1 := Boxed.set (.int .i64 0) (show Boxed W (b + 1) 3 (.int .i64 0) from HX1'.out)
    have g2 := Boxed.set (.bool false) (Boxed.other (show Boxed W (b + 2) 4 (.bool false) from HX2'.out) (B' := b + 1) (by omega) (.int .i64 0))
    have g3 := Boxed.other g1 (B' := b + 2) (by omega) (.bool false)
    have hcc := ((Chg.refl [b + 1, b + 2] W).setCell (a := ⟨b + 1, 0, none⟩) (.inl (by simp)) (.int .i64 0)).setCell (a := ⟨b + 1 + 1, 0, none⟩) (.inl (by simp)) (.bool false)
    have hs5 := HM5.out.2.2.2.2
    have hb0 := Hb.out
    have hkd := (hcc.block D (Array.getElem?_eq_some_iff.1 HKD.out).1 (by simp; omega)).trans HKD.out
    refine ⟨by simp, .inl ⟨_, _, rfl, run_takeDeferred hkd, ?_⟩⟩
    have hc := chg_put ((W.setCell ⟨b + 1, 0, none⟩ (.int .i64 0)).setCell ⟨b + 1 + 1, 0, none⟩ (.bool false)) D (.deferred none)
    refine ⟨_, results_cell2 rfl _ _ rfl rfl (load_i (b := b + 1) (v := .int .i64 0) (Boxed.cell (t := 3) ((World.putObj_heap_other (by omega)).trans g3))) (load_b (b := b + 1 + 1) (v := .bool false) (Boxed.cell (t := 4) ((World.putObj_heap_other (by omega)).trans g2))), ⟨0, false, rfl, .inl ⟨rfl, rfl, fun i hi hs => ?_⟩⟩, (HBW.out.trans (hcc.below HBW.out.size (by simp; omega))).trans (hc.below (Nat.le_trans HBW.out.size hcc.size) (by have := HB05.out.size; simp; omega))⟩
    rw [Hf.out]
    exact HI.out i (by rw [hxs]; rw [Hm.out] at hi; exact hi) hs
  case hstop =>
    rintro D c xs W hD ⟨rfl, h2, h3, i, j, h4, h5, h6, h7, h8, h9⟩ hKD
    gi_wp2
    have hs5 := HM5.out.2.2.2.2
    have hb0 := Hb.out
    refine ⟨by simp, .inl ⟨_, _, rfl, run_takeDeferred hKD, ?_⟩⟩
    have hc := chg_put W D (.deferred none)
    refine ⟨_, results_cell2 rfl _ _ rfl rfl (load_i (b := b + 1) (v := .int .i64 (j : Int)) (Boxed.cell (t := 3) ((World.putObj_heap_other (by omega)).trans h8))) (load_b (b := b + 1 + 1) (v := .bool true) (Boxed.cell (t := 4) ((World.putObj_heap_other (by omega)).trans h9))), ⟨(j : Int), true, rfl, .inr ⟨rfl, i, j, by rw [Hm.out]; exact h4, rfl, by rw [HrL.out]; exact h5, h6, by rw [Hf.out]; exact h7⟩⟩, h2.trans (hc.below h2.size (by have := HB05.out.size; simp; omega))⟩
end
end Go.Proofs.Ytbdmbhpmbklaiaa
