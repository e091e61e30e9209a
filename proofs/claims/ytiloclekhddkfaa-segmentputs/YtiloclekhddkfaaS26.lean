/- The program's taker: ref. -/
import Derived.Test.YtiloclekhddkfaaS25
namespace Go.Proofs.Ytiloclekhddkfaa
open Go.RowKit Go.Lib

/-- A ref at a place, and the place behind it, or the error. -/
def tkRef (bs : List Int) (i : Int) : Except Int (Rf × Int) :=
  if (bs.length : Int) < i + 32 then .error 3 else
  match nm bs (i + 32) with
  | .error c => .error c
  | .ok x => match nm bs x.2 with
    | .error c => .error c
    | .ok y => match nm bs y.2 with
      | .error c => .error c
      | .ok z => if rt ⟨sumA bs i.toNat, x.1, y.1, z.1⟩ then .ok (⟨sumA bs i.toNat, x.1, y.1, z.1⟩, z.2) else .error 2
theorem bs_far {w w' : World} {v : Value} {bs : List Int} {X : List Nat} (h : Oct.Bs w v bs) (hc : Chg X w w') (hx : 0 < bs.length → ∀ k, v.ownBlock = some k → k ∉ X) : Oct.Bs w' v bs := by
  obtain ⟨a, cap, rfl, hl, hm, hn, hcell⟩ := h
  refine ⟨a, cap, rfl, hl, hm, hn, fun x hxa i hi => ?_⟩
  subst hxa
  have h0 := hcell x rfl i hi
  exact (hc.cell (World.block_lt_of_cell? _ _ h0) (by rw [add_block]; exact hx (by omega) _ rfl)).trans h0
theorem run_buildG (g : Nat → Int) (a b o : Int) (w : World) : (Instr.build 28 #[(0, .agg (sa ((List.range 32).map g))), (1, .int .i64 a), (2, .int .i64 b), (3, .int .i64 o)]).run Try.prog w = .ok (.agg (rc ⟨(List.range 32).map g, a, b, o⟩).toArray) w := by kernel_rfl
theorem run_buildR {s : List Int} (hs : Sm s) (a b o : Int) (w : World) : (Instr.build 28 #[(0, .agg (sa s)), (1, .int .i64 a), (2, .int .i64 b), (3, .int .i64 o)]).run Try.prog w = .ok (.agg (rc ⟨s, a, b, o⟩).toArray) w := by
  have e : s = (List.range 32).map (fun i => s.getD i 0) := by
    apply List.ext_getElem (by simp [hs.len])
    intro i h1 h2
    simp [List.getD, List.getElem?_eq_getElem h1]
  rw [e]
  exact run_buildG _ a b o w
theorem wp_buildR {ops : Array Oper} {rest : List Oper} {op : Oper} {ac : Act} {w : World} {Q : Exit → Act → World → Prop} (hgd : op.guard = none) (x0 x1 x2 x3 : Operand) (ho : op.op = .build 28 #[(0, x0), (1, x1), (2, x2), (3, x3)])
    (s : List Int) (a b o : Int) (hs : Sm s) (h0 : ac.eval x0 = .agg (sa s)) (h1 : ac.eval x1 = .int .i64 a) (h2 : ac.eval x2 = .int .i64 b) (h3 : ac.eval x3 = .int .i64 o)
    (h : wpList Try.prog ops Q rest (ac.put op.dst (.agg (rc ⟨s, a, b, o⟩).toArray)) w) : wpList Try.prog ops Q (op :: rest) ac w :=
  wpList_plain hgd fun _ hK => by
    unfold Oper.wp execOp
    simp only [ho, Sem.run_bind, List.map_toArray, List.map_cons, List.map_nil, h0, h1, h2, h3, run_buildR hs a b o w, Result.andThen_ok]
    exact hK _ _ h
section
variable {w : World}
set_option maxHeartbeats 4000000 in
set_option maxRecDepth 100000 in
theorem ref_ok {p : Nat} {v : Value} {bs : List Int} {ii : Nat} {r : Rf} {j : Int} (hT : TkAt w p v (ii : Int)) (hv : Oct.Bs w v bs) (hby : ∀ x ∈ bs, 0 ≤ x ∧ x < 256) (hi : ii ≤ bs.length) (hl : bs.length ≤ 1000000000000000) (hne : 0 < bs.length → ∀ k, v.ownBlock = some k → k ∉ [p]) (h : tkRef bs (ii : Int) = .ok (r, j)) : Calls Try.prog 55 #[.pointer (some ⟨p, 0, none⟩)] w fun e w' => e = .returned (.agg (rc r).toArray) ∧ TkAt w' p v j ∧ Chg [p] w w' := by
  have HBz : Hid (Below w.heap.size w (w.alloc (.cells (rc rC).toArray 28))) := ⟨(Below.refl _ w).alloc (Nat.le_refl _) _⟩
  have Hrz : Hid ((w.alloc (.cells (rc rC).toArray 28)).heap[w.heap.size]? = some (.cells (rc rC).toArray 28 (0, 0))) := ⟨heap_alloc_new w _⟩
  have HTz : Hid (TkAt (w.alloc (.cells (rc rC).toArray 28)) p v (ii : Int)) := ⟨hT.far (Chg.ofBelow (X := []) HBz.out) (by simp)⟩
  have Hq0 : Hid (p < w.heap.size) := ⟨hT.lt⟩
  have HV := Hid.mk hv
  have t1 := sum_both (w := w.alloc (.cells (rc rC).toArray 28)) ii HTz.out (hv.below HBz.out) hby hi hl
  have hv0 := hv
  obtain ⟨av, cv, rfl, _⟩ := hv
  obtain ⟨nb, Hnb⟩ : ∃ n, Hid (bs.length = n) := ⟨_, ⟨rfl⟩⟩
  rw [Hnb.out] at HV HTz
  simp only [Hnb.out] at t1
  clear hT hv0
  have HN : Hid (0 < bs.length → ∀ k, (Value.slice av nb cv).ownBlock = some k → k ∉ [p]) := ⟨by rw [← Hnb.out] ; exact hne⟩
  rw [Hnb.out]
  unfold tkRef at h
  split at h
  · cases h
  rename_i hge
  rw [Hnb.out] at hge
  simp only [if_neg (show ¬ nb < ii + 32 by omega)] at t1
  have Hsm : Hid (Sm (sumA bs ii)) := ⟨⟨(sumA_ok hby (by rw [Hnb.out]; omega)).len, (sumA_ok hby (by rw [Hnb.out]; omega)).byte⟩⟩
  simp only [Int.toNat_natCast] at h
  obtain ⟨s, Hse⟩ : ∃ s, Hid (sumA bs ii = s) := ⟨_, ⟨rfl⟩⟩
  rw [Hse.out] at Hsm h
  simp only [Hse.out] at t1
  split at h
  · cases h
  rename_i x1 h1
  obtain ⟨a, i1⟩ := x1
  split at h
  · cases h
  rename_i x2 h2
  obtain ⟨b, i2⟩ := x2
  split at h
  · cases h
  rename_i x3 h3
  obtain ⟨o, i3⟩ := x3
  split at h
  · rename_i hrt
    simp only at hrt h h2 h3
    have e := Except.ok.inj h
    obtain ⟨e1, e2⟩ := Prod.mk.inj e
    subst e1
    subst e2
    have Hx : Hid (True) := ⟨trivial⟩
    clear h e
    go_enter Try.func55, Try.ntmps55
    go_wp2_with fail
    refine t1.mono ?_
    rintro e w2 ⟨rfl, hT2, hc2⟩
    have HT2 := Hid.mk hT2
    have HC2 : Hid (Chg [p] w w2) := ⟨(Chg.ofBelow (X := [p]) HBz.out).trans hc2⟩
    have Hr2 : Hid (w2.heap[w.heap.size]? = some (.cells (rc rC).toArray 28 (0, 0))) := ⟨(hc2.block w.heap.size (by simp) (by simp; have := Hq0.out; omega)).trans Hrz.out⟩
    have HV2 : Hid (Oct.Bs w2 (.slice av nb cv) bs) := ⟨bs_far HV.out HC2.out (HN.out)⟩
    clear hT2 hc2 t1
    have t3 := num_ok HT2.out HV2.out hby h1
    go_wp2_with fail
    refine t3.mono ?_
    rintro e w3 ⟨rfl, hT3, hc3⟩
    have HT3 := Hid.mk hT3
    have HC3 : Hid (Chg [p] w w3) := ⟨HC2.out.trans hc3⟩
    have Hr3 : Hid (w3.heap[w.heap.size]? = some (.cells (rc rC).toArray 28 (0, 0))) := ⟨(hc3.block w.heap.size ((Array.getElem?_eq_some_iff.1 Hr2.out).1) (by simp; have := Hq0.out; omega)).trans Hr2.out⟩
    have HV3 : Hid (Oct.Bs w3 (.slice av nb cv) bs) := ⟨bs_far HV.out HC3.out (HN.out)⟩
    clear hT3 hc3 t3
    have t4 := num_ok HT3.out HV3.out hby h2
    go_wp2_with fail
    refine t4.mono ?_
    rintro e w4 ⟨rfl, hT4, hc4⟩
    have HT4 := Hid.mk hT4
    have HC4 : Hid (Chg [p] w w4) := ⟨HC3.out.trans hc4⟩
    have Hr4 : Hid (w4.heap[w.heap.size]? = some (.cells (rc rC).toArray 28 (0, 0))) := ⟨(hc4.block w.heap.size ((Array.getElem?_eq_some_iff.1 Hr3.out).1) (by simp; have := Hq0.out; omega)).trans Hr3.out⟩
    have HV4 : Hid (Oct.Bs w4 (.slice av nb cv) bs) := ⟨bs_far HV.out HC4.out (HN.out)⟩
    clear hT4 hc4 t4
    have t5 := num_ok HT4.out HV4.out hby h3
    go_wp2_with fail
    refine t5.mono ?_
    rintro e w5 ⟨rfl, hT5, hc5⟩
    have HT5 := Hid.mk hT5
    have HC5 : Hid (Chg [p] w w5) := ⟨HC4.out.trans hc5⟩
    have Hr5 : Hid (w5.heap[w.heap.size]? = some (.cells (rc rC).toArray 28 (0, 0))) := ⟨(hc5.block w.heap.size ((Array.getElem?_eq_some_iff.1 Hr4.out).1) (by simp; have := Hq0.out; omega)).trans Hr4.out⟩
    have HV5 : Hid (Oct.Bs w5 (.slice av nb cv) bs) := ⟨bs_far HV.out HC5.out (HN.out)⟩
    clear hT5 hc5 t5
    have Hi : Hid ((Try.prog.info? 28).map (·.size) = some (rc ⟨s, a, b, o⟩).length) := ⟨by rw [rc_len ⟨s, a, b, o⟩ Hsm.out]; exact info28⟩
    go_upto_region 2 with (first
      | (refine wp_buildR rfl (.tmp 5) (.tmp 7) (.tmp 9) (.tmp 11) rfl s a b o Hsm.out rfl rfl rfl rfl ?_)
      | (refine wp_storeR rfl (.tmp 3) (.tmp 12) rfl w5.heap.size ⟨s, a, b, o⟩ Hsm.out rfl rfl _ (heap_alloc_new w5 _) rfl ?_; intro w6 hA6 hG6; have HA6 := Hid.mk hA6; have HB6 : Hid (Below w5.heap.size w5 w6) := ⟨((Chg.ofBelow (X := []) ((Below.refl _ w5).alloc (Nat.le_refl _) _)).thenNew hG6 (by simp)).below (Nat.le_refl _) (by simp)⟩; clear hA6 hG6))
    have HcR := Hid.mk HA6.out.atR
    have t6 := right_any (w := w6) ⟨s, a, b, o⟩ Hsm.out
    rw [hrt] at t6
    have HC6 : Hid (Chg [p] w w6) := ⟨HC5.out.trans (Chg.ofBelow HB6.out)⟩
    go_upto_region 4 with (first
      | (refine wp_loadA rfl 28 (.tmp 3) rfl w5.heap.size 0 rfl (rc ⟨s, a, b, o⟩) _ HcR.out Try.underlying28 rfl Hi.out ?_)
      | (go_at_call 36; refine t6.mono ?_; rintro e w7 ⟨rfl, hb7⟩))
    have HA7 : Hid (RefAt w7 w5.heap.size ⟨s, a, b, o⟩) := ⟨HA6.out.far (Chg.ofBelow (X := []) hb7) (by simp)⟩
    have HcR7 := Hid.mk HA7.out.atR
    have Hz5 : Hid (w.heap.size < w5.heap.size) := ⟨(Array.getElem?_eq_some_iff.1 Hr5.out).1⟩
    have Hr7 : Hid (w7.heap[w.heap.size]? = some (.cells (rc rC).toArray 28 (0, 0))) := ⟨(hb7.block w.heap.size (by have := HB6.out.size; have := Hz5.out; omega)).trans ((HB6.out.block w.heap.size Hz5.out).trans Hr5.out)⟩
    have HC7 : Hid (Chg [p] w w7) := ⟨HC6.out.trans (Chg.ofBelow hb7)⟩
    have HT7 : Hid (TkAt w7 p (.slice av nb cv) i3) := ⟨(HT5.out.far (Chg.ofBelow (X := []) HB6.out) (by simp)).far (Chg.ofBelow (X := []) hb7) (by simp)⟩
    clear hb7 t6
    go_wp2_with (first
      | (refine wp_loadA rfl 28 (.tmp 3) rfl w5.heap.size 0 rfl (rc ⟨s, a, b, o⟩) _ HcR7.out Try.underlying28 rfl Hi.out ?_)
      | (refine wp_storeR rfl (.tmp 2) (.tmp 17) rfl w.heap.size ⟨s, a, b, o⟩ Hsm.out rfl rfl _ Hr7.out rfl ?_; intro w8 hA8 hG8; have HA8 := Hid.mk hA8; have HG8 := Hid.mk hG8; clear hA8 hG8))
    refine bodyPost_ret (results_cell_row rfl _ w8 w.heap.size 28 (rc ⟨s, a, b, o⟩).toArray (0, 0) _ (by kernel_rfl) HA8.out.row Try.underlying28 rfl (by rw [List.size_toArray, rc_len ⟨s, a, b, o⟩ Hsm.out]; exact info28)) rfl ?_
    exact ⟨rfl, HT7.out.far HG8.out (by simp; have := Hq0.out; omega), HC7.out.thenNew HG8.out (fun x hx => by simp at hx; subst hx; right; exact Nat.le_refl _)⟩
  · cases h
set_option maxHeartbeats 4000000 in
set_option maxRecDepth 100000 in
theorem ref_no {p : Nat} {v : Value} {bs : List Int} {ii : Nat} {c : Int} (hT : TkAt w p v (ii : Int)) (hv : Oct.Bs w v bs) (hby : ∀ x ∈ bs, 0 ≤ x ∧ x < 256) (hi : ii ≤ bs.length) (hl : bs.length ≤ 1000000000000000) (hne : 0 < bs.length → ∀ k, v.ownBlock = some k → k ∉ [p]) (h : tkRef bs (ii : Int) = .error c) : Calls Try.prog 55 #[.pointer (some ⟨p, 0, none⟩)] w fun e w' => e = .panicked (flt c) ∧ Chg [p] w w' := by
  have HBz : Hid (Below w.heap.size w (w.alloc (.cells (rc rC).toArray 28))) := ⟨(Below.refl _ w).alloc (Nat.le_refl _) _⟩
  have Hrz : Hid ((w.alloc (.cells (rc rC).toArray 28)).heap[w.heap.size]? = some (.cells (rc rC).toArray 28 (0, 0))) := ⟨heap_alloc_new w _⟩
  have HTz : Hid (TkAt (w.alloc (.cells (rc rC).toArray 28)) p v (ii : Int)) := ⟨hT.far (Chg.ofBelow (X := []) HBz.out) (by simp)⟩
  have Hq0 : Hid (p < w.heap.size) := ⟨hT.lt⟩
  have HV := Hid.mk hv
  have t1 := sum_both (w := w.alloc (.cells (rc rC).toArray 28)) ii HTz.out (hv.below HBz.out) hby hi hl
  have hv0 := hv
  obtain ⟨av, cv, rfl, _⟩ := hv
  obtain ⟨nb, Hnb⟩ : ∃ n, Hid (bs.length = n) := ⟨_, ⟨rfl⟩⟩
  rw [Hnb.out] at HV HTz
  simp only [Hnb.out] at t1
  clear hT hv0
  have HN : Hid (0 < bs.length → ∀ k, (Value.slice av nb cv).ownBlock = some k → k ∉ [p]) := ⟨by rw [← Hnb.out] ; exact hne⟩
  unfold tkRef at h
  split at h
  · rename_i hlt
    rw [Hnb.out] at hlt
    simp only [if_pos (show nb < ii + 32 by omega)] at t1
    have e := Except.error.inj h
    subst e
    clear h
    go_enter Try.func55, Try.ntmps55
    go_wp2_with fail
    refine t1.mono ?_
    rintro e w2 ⟨rfl, hc2⟩
    exact ⟨rfl, rfl, (Chg.ofBelow (X := [p]) HBz.out).trans (hc2.mono (by simp))⟩
  rename_i hge
  rw [Hnb.out] at hge
  simp only [if_neg (show ¬ nb < ii + 32 by omega)] at t1
  have Hsm : Hid (Sm (sumA bs ii)) := ⟨⟨(sumA_ok hby (by rw [Hnb.out]; omega)).len, (sumA_ok hby (by rw [Hnb.out]; omega)).byte⟩⟩
  simp only [Int.toNat_natCast] at h
  obtain ⟨s, Hse⟩ : ∃ s, Hid (sumA bs ii = s) := ⟨_, ⟨rfl⟩⟩
  rw [Hse.out] at Hsm h
  simp only [Hse.out] at t1
  split at h
  · rename_i c1 h1
    have e := Except.error.inj h
    subst e
    clear h
    go_enter Try.func55, Try.ntmps55
    go_wp2_with fail
    refine t1.mono ?_
    rintro e w2 ⟨rfl, hT2, hc2⟩
    have HT2 := Hid.mk hT2
    have HC2 : Hid (Chg [p] w w2) := ⟨(Chg.ofBelow (X := [p]) HBz.out).trans hc2⟩
    have Hr2 : Hid (w2.heap[w.heap.size]? = some (.cells (rc rC).toArray 28 (0, 0))) := ⟨(hc2.block w.heap.size (by simp) (by simp; have := Hq0.out; omega)).trans Hrz.out⟩
    have HV2 : Hid (Oct.Bs w2 (.slice av nb cv) bs) := ⟨bs_far HV.out HC2.out (HN.out)⟩
    clear hT2 hc2 t1
    have t3 := num_no HT2.out HV2.out hby h1
    go_wp2_with fail
    refine t3.mono ?_
    rintro e w3 ⟨rfl, hc3⟩
    exact ⟨rfl, rfl, HC2.out.trans (hc3.mono (by simp))⟩
  rename_i x1 h1
  obtain ⟨a, i1⟩ := x1
  split at h
  · rename_i c1 h2
    have e := Except.error.inj h
    subst e
    clear h
    simp only at h2
    go_enter Try.func55, Try.ntmps55
    go_wp2_with fail
    refine t1.mono ?_
    rintro e w2 ⟨rfl, hT2, hc2⟩
    have HT2 := Hid.mk hT2
    have HC2 : Hid (Chg [p] w w2) := ⟨(Chg.ofBelow (X := [p]) HBz.out).trans hc2⟩
    have Hr2 : Hid (w2.heap[w.heap.size]? = some (.cells (rc rC).toArray 28 (0, 0))) := ⟨(hc2.block w.heap.size (by simp) (by simp; have := Hq0.out; omega)).trans Hrz.out⟩
    have HV2 : Hid (Oct.Bs w2 (.slice av nb cv) bs) := ⟨bs_far HV.out HC2.out (HN.out)⟩
    clear hT2 hc2 t1
    have t3 := num_ok HT2.out HV2.out hby h1
    go_wp2_with fail
    refine t3.mono ?_
    rintro e w3 ⟨rfl, hT3, hc3⟩
    have HT3 := Hid.mk hT3
    have HC3 : Hid (Chg [p] w w3) := ⟨HC2.out.trans hc3⟩
    have Hr3 : Hid (w3.heap[w.heap.size]? = some (.cells (rc rC).toArray 28 (0, 0))) := ⟨(hc3.block w.heap.size ((Array.getElem?_eq_some_iff.1 Hr2.out).1) (by simp; have := Hq0.out; omega)).trans Hr2.out⟩
    have HV3 : Hid (Oct.Bs w3 (.slice av nb cv) bs) := ⟨bs_far HV.out HC3.out (HN.out)⟩
    clear hT3 hc3 t3
    have t4 := num_no HT3.out HV3.out hby h2
    go_wp2_with fail
    refine t4.mono ?_
    rintro e w4 ⟨rfl, hc4⟩
    exact ⟨rfl, rfl, HC3.out.trans (hc4.mono (by simp))⟩
  rename_i x2 h2
  obtain ⟨b, i2⟩ := x2
  split at h
  · rename_i c1 h3
    have e := Except.error.inj h
    subst e
    clear h
    simp only at h2 h3
    go_enter Try.func55, Try.ntmps55
    go_wp2_with fail
    refine t1.mono ?_
    rintro e w2 ⟨rfl, hT2, hc2⟩
    have HT2 := Hid.mk hT2
    have HC2 : Hid (Chg [p] w w2) := ⟨(Chg.ofBelow (X := [p]) HBz.out).trans hc2⟩
    have Hr2 : Hid (w2.heap[w.heap.size]? = some (.cells (rc rC).toArray 28 (0, 0))) := ⟨(hc2.block w.heap.size (by simp) (by simp; have := Hq0.out; omega)).trans Hrz.out⟩
    have HV2 : Hid (Oct.Bs w2 (.slice av nb cv) bs) := ⟨bs_far HV.out HC2.out (HN.out)⟩
    clear hT2 hc2 t1
    have t3 := num_ok HT2.out HV2.out hby h1
    go_wp2_with fail
    refine t3.mono ?_
    rintro e w3 ⟨rfl, hT3, hc3⟩
    have HT3 := Hid.mk hT3
    have HC3 : Hid (Chg [p] w w3) := ⟨HC2.out.trans hc3⟩
    have Hr3 : Hid (w3.heap[w.heap.size]? = some (.cells (rc rC).toArray 28 (0, 0))) := ⟨(hc3.block w.heap.size ((Array.getElem?_eq_some_iff.1 Hr2.out).1) (by simp; have := Hq0.out; omega)).trans Hr2.out⟩
    have HV3 : Hid (Oct.Bs w3 (.slice av nb cv) bs) := ⟨bs_far HV.out HC3.out (HN.out)⟩
    clear hT3 hc3 t3
    have t4 := num_ok HT3.out HV3.out hby h2
    go_wp2_with fail
    refine t4.mono ?_
    rintro e w4 ⟨rfl, hT4, hc4⟩
    have HT4 := Hid.mk hT4
    have HC4 : Hid (Chg [p] w w4) := ⟨HC3.out.trans hc4⟩
    have Hr4 : Hid (w4.heap[w.heap.size]? = some (.cells (rc rC).toArray 28 (0, 0))) := ⟨(hc4.block w.heap.size ((Array.getElem?_eq_some_iff.1 Hr3.out).1) (by simp; have := Hq0.out; omega)).trans Hr3.out⟩
    have HV4 : Hid (Oct.Bs w4 (.slice av nb cv) bs) := ⟨bs_far HV.out HC4.out (HN.out)⟩
    clear hT4 hc4 t4
    have t5 := num_no HT4.out HV4.out hby h3
    go_wp2_with fail
    refine t5.mono ?_
    rintro e w5 ⟨rfl, hc5⟩
    exact ⟨rfl, rfl, HC4.out.trans (hc5.mono (by simp))⟩
  rename_i x3 h3
  obtain ⟨o, i3⟩ := x3
  split at h
  · cases h
  · rename_i hrt
    simp only at hrt h2 h3
    have e := Except.error.inj h
    subst e
    simp only [Bool.not_eq_true] at hrt
    clear h
    go_enter Try.func55, Try.ntmps55
    go_wp2_with fail
    refine t1.mono ?_
    rintro e w2 ⟨rfl, hT2, hc2⟩
    have HT2 := Hid.mk hT2
    have HC2 : Hid (Chg [p] w w2) := ⟨(Chg.ofBelow (X := [p]) HBz.out).trans hc2⟩
    have Hr2 : Hid (w2.heap[w.heap.size]? = some (.cells (rc rC).toArray 28 (0, 0))) := ⟨(hc2.block w.heap.size (by simp) (by simp; have := Hq0.out; omega)).trans Hrz.out⟩
    have HV2 : Hid (Oct.Bs w2 (.slice av nb cv) bs) := ⟨bs_far HV.out HC2.out (HN.out)⟩
    clear hT2 hc2 t1
    have t3 := num_ok HT2.out HV2.out hby h1
    go_wp2_with fail
    refine t3.mono ?_
    rintro e w3 ⟨rfl, hT3, hc3⟩
    have HT3 := Hid.mk hT3
    have HC3 : Hid (Chg [p] w w3) := ⟨HC2.out.trans hc3⟩
    have Hr3 : Hid (w3.heap[w.heap.size]? = some (.cells (rc rC).toArray 28 (0, 0))) := ⟨(hc3.block w.heap.size ((Array.getElem?_eq_some_iff.1 Hr2.out).1) (by simp; have := Hq0.out; omega)).trans Hr2.out⟩
    have HV3 : Hid (Oct.Bs w3 (.slice av nb cv) bs) := ⟨bs_far HV.out HC3.out (HN.out)⟩
    clear hT3 hc3 t3
    have t4 := num_ok HT3.out HV3.out hby h2
    go_wp2_with fail
    refine t4.mono ?_
    rintro e w4 ⟨rfl, hT4, hc4⟩
    have HT4 := Hid.mk hT4
    have HC4 : Hid (Chg [p] w w4) := ⟨HC3.out.trans hc4⟩
    have Hr4 : Hid (w4.heap[w.heap.size]? = some (.cells (rc rC).toArray 28 (0, 0))) := ⟨(hc4.block w.heap.size ((Array.getElem?_eq_some_iff.1 Hr3.out).1) (by simp; have := Hq0.out; omega)).trans Hr3.out⟩
    have HV4 : Hid (Oct.Bs w4 (.slice av nb cv) bs) := ⟨bs_far HV.out HC4.out (HN.out)⟩
    clear hT4 hc4 t4
    have t5 := num_ok HT4.out HV4.out hby h3
    go_wp2_with fail
    refine t5.mono ?_
    rintro e w5 ⟨rfl, hT5, hc5⟩
    have HT5 := Hid.mk hT5
    have HC5 : Hid (Chg [p] w w5) := ⟨HC4.out.trans hc5⟩
    have Hr5 : Hid (w5.heap[w.heap.size]? = some (.cells (rc rC).toArray 28 (0, 0))) := ⟨(hc5.block w.heap.size ((Array.getElem?_eq_some_iff.1 Hr4.out).1) (by simp; have := Hq0.out; omega)).trans Hr4.out⟩
    have HV5 : Hid (Oct.Bs w5 (.slice av nb cv) bs) := ⟨bs_far HV.out HC5.out (HN.out)⟩
    clear hT5 hc5 t5
    have Hi : Hid ((Try.prog.info? 28).map (·.size) = some (rc ⟨s, a, b, o⟩).length) := ⟨by rw [rc_len ⟨s, a, b, o⟩ Hsm.out]; exact info28⟩
    go_upto_region 2 with (first
      | (refine wp_buildR rfl (.tmp 5) (.tmp 7) (.tmp 9) (.tmp 11) rfl s a b o Hsm.out rfl rfl rfl rfl ?_)
      | (refine wp_storeR rfl (.tmp 3) (.tmp 12) rfl w5.heap.size ⟨s, a, b, o⟩ Hsm.out rfl rfl _ (heap_alloc_new w5 _) rfl ?_; intro w6 hA6 hG6; have HA6 := Hid.mk hA6; have HB6 : Hid (Below w5.heap.size w5 w6) := ⟨((Chg.ofBelow (X := []) ((Below.refl _ w5).alloc (Nat.le_refl _) _)).thenNew hG6 (by simp)).below (Nat.le_refl _) (by simp)⟩; clear hA6 hG6))
    have HcR := Hid.mk HA6.out.atR
    have t6 := right_any (w := w6) ⟨s, a, b, o⟩ Hsm.out
    rw [hrt] at t6
    have HC6 : Hid (Chg [p] w w6) := ⟨HC5.out.trans (Chg.ofBelow HB6.out)⟩
    go_wp2_with (first
      | (refine wp_loadA rfl 28 (.tmp 3) rfl w5.heap.size 0 rfl (rc ⟨s, a, b, o⟩) _ HcR.out Try.underlying28 rfl Hi.out ?_)
      | (go_at_call 36; refine t6.mono ?_; rintro e w7 ⟨rfl, hb7⟩))
    exact ⟨rfl, rfl, HC6.out.trans (Chg.ofBelow hb7)⟩
end
end Go.Proofs.Ytiloclekhddkfaa
