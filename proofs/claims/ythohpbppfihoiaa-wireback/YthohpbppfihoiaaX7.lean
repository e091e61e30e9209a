/- Take. -/
import Derived.Test.YthohpbppfihoiaaX6
namespace Go.Proofs.Ythohpbppfihoiaa
open Go.RowKit Go.Lib

theorem results_row_tmp {P : Program} {fn : Func} {p u : Tmp} {ty : TypeId} (h : fn.results = #[.cell p ty, .tmp u]) (tmps : Array Value) (w : World) (g : Nat) (t : TypeId) (cs : Array Value) (fr : Nat × Nat) (d : TypeDesc)
    (hp : tmps.getD p undef = .pointer (some ⟨g, 0, none⟩)) (hg : w.heap[g]? = some (.cells cs t fr))
    (hu : P.underlying ty = some d) (hd : (match d with | .struct _ | .array _ _ => true | _ => false) = true) (hi : (P.info? ty).map (·.size) = some cs.size) :
    (results fn tmps).run P w = .ok (.tuple #[.agg cs, tmps.getD u undef]) w := by
  have hp' : tmps[p]?.getD undef = .pointer (some ⟨g, 0, none⟩) := by simpa using hp
  simp [results, h, hp', asAddr, run_loadVar_row w g t ty cs fr d hg hu hd hi]
theorem zero60 : (Try.prog.info? 60).bind (·.zero) = some (.agg (tkc (.slice none 0 0) (0, 0))) := by kernel_rfl
theorem info60 : (Try.prog.info? 60).map (·.size) = some 3 := by kernel_rfl
theorem run_build60 (a : Option Addr) (n c : Nat) (w : World) : (Instr.build 60 #[(0, .slice a n c)]).run Try.prog w = .ok (.agg (tkc (.slice a n c) (0, 0))) w := by kernel_rfl
theorem run_build27z (w : World) : (Instr.build 27 #[]).run Try.prog w = .ok (.agg zn) w := by kernel_rfl
section
variable {w : World}
set_option maxHeartbeats 8000000 in
set_option maxRecDepth 100000 in
theorem take12 (v : Value) (bs : List Int) (hv : Oct.Bs w v bs) (hby : ∀ x ∈ bs, 0 ≤ x ∧ x < 256) (hl : bs.length ≤ 140737488355328) :
    Calls Try.prog 12 #[v] w fun e w' => TakeP w w' (tkN bs).1 (tkN bs).2 e := by
  have HO : Hid (Old w.heap.size w v bs) := ⟨fun wx h => hv.below h⟩
  have hb0 := hv
  obtain ⟨va, vc, rfl, _⟩ := hb0
  obtain ⟨nb, Hnb⟩ : ∃ n, Hid (bs.length = n) := ⟨_, ⟨rfl⟩⟩
  rw [Hnb.out] at HO hv
  rw [Hnb.out]
  obtain ⟨r2, Hr2⟩ : ∃ x, Hid (w.heap.size = x) := ⟨_, ⟨rfl⟩⟩
  obtain ⟨wa, Hwa⟩ : ∃ x, Hid (w.alloc (.cells zn 27) = x) := ⟨_, ⟨rfl⟩⟩
  obtain ⟨q, Hq⟩ : ∃ x, Hid (wa.heap.size = x) := ⟨_, ⟨rfl⟩⟩
  have Hrq : Hid (r2 < q) := ⟨by rw [← Hq.out, ← Hwa.out, ← Hr2.out]; simp⟩
  have HBa : Hid (Below w.heap.size w wa) := ⟨by rw [← Hwa.out]; exact (Below.refl _ w).alloc (Nat.le_refl _) _⟩
  have Hz2a : Hid (wa.heap[r2]? = some (.cells zn 27 (0, 0))) := ⟨by rw [← Hwa.out, ← Hr2.out]; exact heap_alloc_new w _⟩
  obtain ⟨A, HA⟩ : ∃ x, Hid (tkc (.slice va nb vc) (0, 0) = x) := ⟨_, ⟨rfl⟩⟩
  have HAs : Hid ((Try.prog.info? 60).map (·.size) = some A.size ∧ A.all (·.oneCell') = true ∧ (tkc (.slice none 0 0) (0, 0)).size = A.size) := ⟨by rw [← HA.out]; exact ⟨info60, by simp [tkc, Value.oneCell'], rfl⟩⟩
  obtain ⟨w2, Hw2⟩ : ∃ x, Hid ((wa.alloc (.cells (tkc (.slice none 0 0) (0, 0)) 60)).setRow q A = x) := ⟨_, ⟨rfl⟩⟩
  have HBb : Hid (Below wa.heap.size wa w2) := ⟨by rw [← Hw2.out, ← Hq.out]; exact below_setRow ((Below.refl _ wa).alloc (Nat.le_refl _) _) (Nat.le_refl _) _⟩
  have HB2 : Hid (Below w.heap.size w w2) := ⟨HBa.out.trans (HBb.out.mono HBa.out.size)⟩
  have HT2 : Hid (Tk w2 q (.slice va nb vc) (0, 0)) := ⟨⟨by rw [← Hw2.out, ← Hq.out, HA.out]; exact setRow_heap _ _ _ _ 60 (0, 0) (heap_alloc_new wa _)⟩⟩
  have Hz22 : Hid (w2.heap[r2]? = some (.cells zn 27 (0, 0))) := ⟨(HBb.out.block r2 (by rw [Hq.out]; exact Hrq.out)).trans Hz2a.out⟩
  have HO2 : Hid (Old w.heap.size w2 (.slice va nb vc) bs) := ⟨HO.out.on HB2.out⟩
  have hbu : ∀ W : World, (Instr.build 60 #[(0, .slice va nb vc)]).run Try.prog W = .ok (.agg A) W := fun W => by rw [← HA.out]; exact run_build60 va nb vc W
  have Hin0 : Hid (InS bs (0, 0)) := ⟨⟨Int.le_refl 0, by simp⟩⟩
  have t31 := note31 HT2.out HO2.out HB2.out.size (by rw [Hr2.out]; exact Nat.le_of_lt Hrq.out) hby hl Hin0.out
  have Hin1 : Hid (InS bs (noteS bs (0, 0)).2) := ⟨noteS_in hby Hin0.out⟩
  have HV : Hid (tkN bs = (let s1 := flS (noteS bs (0, 0)).2 (chkN (noteS bs (0, 0)).1); let s2 := if s1.1 < (nb : Int) then flS s1 4 else s1; if s2.2 = 0 then ((noteS bs (0, 0)).1, 0) else (zN, s2.2))) := ⟨by rw [← Hnb.out]; rfl⟩
  obtain ⟨⟨n, s0⟩, Hn⟩ : ∃ r, Hid (noteS bs (0, 0) = r) := ⟨_, ⟨rfl⟩⟩
  rw [Hn.out] at t31 Hin1 HV
  simp only at t31 Hin1 HV
  obtain ⟨R, HR⟩ : ∃ R, Hid (tkN bs = R) := ⟨_, ⟨rfl⟩⟩
  rw [HR.out] at HV ⊢
  clear hv hby hl
  go_enter Try.func12, Try.ntmps12
  go_upto_region 1 with (refine wp_newZ zero27 rfl rfl ?_; rw [Hr2.out, Hwa.out])
  go_upto_region 2 with (first
    | (refine wp_build1 (t := 60) (u := .slice va nb vc) (C := A) rfl (.tmp 6) rfl rfl (hbu _) ?_)
    | (refine wp_newZ zero60 rfl rfl ?_; rw [Hq.out])
    | (refine wpList_store_row rfl 60 (.tmp 4) (.tmp 7) rfl q A rfl rfl 60 (tkc (.slice none 0 0) (0, 0)) (by rw [← Hq.out]; exact heap_alloc_new wa _) HAs.out.1 HAs.out.2.2 HAs.out.2.1 ?_; rw [Hw2.out]))
  clear hbu
  go_wp2_with fail
  refine t31.mono ?_
  rintro e w3 ⟨ha, hc, pa, pc, ba, bc, rfl, hH, hP, hY, hT3, hC3⟩
  have HH3 := Hid.mk hH
  have HP3 := Hid.mk hP
  have HY3 := Hid.mk hY
  have HT3 := Hid.mk hT3
  have HC3 := Hid.mk hC3
  clear hH hP hY hT3 hC3 t31
  have Hz23 : Hid (w3.heap[r2]? = some (.cells zn 27 (0, 0))) := ⟨(HC3.out.block r2 (Array.getElem?_eq_some_iff.1 Hz22.out).1 (by simp; have := Hrq.out; omega)).trans Hz22.out⟩
  have HB3 : Hid (Below w.heap.size w w3) := ⟨HB2.out.trans (HC3.out.below HB2.out.size (by simp; rw [Hr2.out]; exact Nat.le_of_lt Hrq.out))⟩
  obtain ⟨N, HN⟩ : ∃ x, Hid (na n.s n.nm n.g n.i (.slice ha n.H.length hc) (.slice pa n.P.length pc) (.slice ba n.bs.length bc) = x) := ⟨_, ⟨rfl⟩⟩
  have HNs : Hid ((Try.prog.info? 27).map (·.size) = some N.size ∧ N.all (·.oneCell') = true ∧ zn.size = N.size) := ⟨by rw [← HN.out]; exact ⟨info27, na_one _ _ _ _ _ _ _ _ _ _ _ _ _, rfl⟩⟩
  obtain ⟨r5, Hr5⟩ : ∃ x, Hid (w3.heap.size = x) := ⟨_, ⟨rfl⟩⟩
  obtain ⟨w4, Hw4⟩ : ∃ x, Hid ((w3.alloc (.cells zn 27)).setRow r5 N = x) := ⟨_, ⟨rfl⟩⟩
  have HB34 : Hid (Below w3.heap.size w3 w4) := ⟨by rw [← Hw4.out, ← Hr5.out]; exact below_setRow ((Below.refl _ w3).alloc (Nat.le_refl _) _) (Nat.le_refl _) _⟩
  have Hz54 : Hid (w4.heap[r5]? = some (.cells N 27 (0, 0))) := ⟨by rw [← Hw4.out, ← Hr5.out]; exact setRow_heap _ _ zn _ 27 (0, 0) (heap_alloc_new w3 _)⟩
  have HH4 : Hid (OwnE he 2 46 w4 w2.heap.size (.slice ha n.H.length hc) n.H) := ⟨HH3.out.far (Chg.ofBelow (X := []) HB34.out) (by simp)⟩
  have HP4 : Hid (OwnE pe 33 49 w4 w2.heap.size (.slice pa n.P.length pc) n.P) := ⟨HP3.out.far (Chg.ofBelow (X := []) HB34.out) (by simp)⟩
  have t8 := check8 (w := w4) n.s n.nm n.g n.i ha pa ba n.H.length hc n.P.length pc n.bs.length bc n.H n.P (HH4.out.rd h0) rfl (HP4.out.rd p0) rfl (fun p hp => by have := (HP4.out.each p hp).1; simp [pe] at this; exact this)
  have HcN : Hid (chk n.s n.nm n.g n.i n.H n.P n.bs.length = chkN n) := ⟨rfl⟩
  rw [HcN.out] at t8
  rw [HN.out] at t8 ⊢
  go_upto_region 3 with (first
    | (refine wp_newZ zero27 rfl rfl ?_; rw [Hr5.out])
    | (refine wpList_store_row rfl 27 (.tmp 5) (.tmp 8) rfl r5 N rfl rfl 27 zn (by rw [← Hr5.out]; exact heap_alloc_new w3 _) HNs.out.1 HNs.out.2.2 HNs.out.2.1 ?_; rw [Hw4.out]))
  go_wp2_with (refine wp_load rfl 27 (.tmp 5) rfl r5 rfl N 27 (0, 0) _ Hz54.out Try.underlying27 rfl HNs.out.1 ?_)
  refine t8.mono ?_
  rintro e w5 ⟨rfl, hB5⟩
  have HB35 : Hid (Below w3.heap.size w3 w5) := ⟨HB34.out.trans (hB5.mono HB34.out.size)⟩
  have HT5 : Hid (Tk w5 q (.slice va nb vc) s0) := ⟨HT3.out.far (Chg.ofBelow (X := []) HB35.out) (by simp)⟩
  have Hz55 : Hid (w5.heap[r5]? = some (.cells N 27 (0, 0))) := ⟨(hB5.block r5 (Array.getElem?_eq_some_iff.1 Hz54.out).1).trans Hz54.out⟩
  have t32 := fail32 HT5.out (chkN n)
  clear t8 hB5
  have Hin2 : Hid (InS bs (flS s0 (chkN n))) := ⟨flS_in Hin1.out _⟩
  obtain ⟨⟨i1, f1⟩, Hs1⟩ : ∃ r, Hid (flS s0 (chkN n) = r) := ⟨_, ⟨rfl⟩⟩
  rw [Hs1.out] at t32 HV Hin2
  simp only at HV
  go_wp2_with fail
  refine t32.mono ?_
  rintro e w6 ⟨rfl, hT6, hC6⟩
  have HT6 := Hid.mk hT6
  have HC36 : Hid (Chg [q] w3 w6) := ⟨(Chg.ofBelow (X := [q]) HB35.out).trans hC6⟩
  have Hq5 : Hid (q < r5) := ⟨by rw [← Hr5.out]; exact HT3.out.lt⟩
  have Hz56 : Hid (w6.heap[r5]? = some (.cells N 27 (0, 0))) := ⟨(hC6.block r5 (Array.getElem?_eq_some_iff.1 Hz55.out).1 (by simp; have := Hq5.out; omega)).trans Hz55.out⟩
  clear t32 hT6 hC6
  have c1 := HT6.out.c1
  have c2 := HT6.out.c2
  simp only at c1 c2
  -- what follows, from a world where the taker has its last fault
  have Hend : Hid (∀ (W : World) (f : Int), Tk W q (.slice va nb vc) (i1, f) → Chg [q] w3 W → (W.heap[r5]? = some (.cells N 27 (0, 0))) → (W.heap[r2]? = some (.cells zn 27 (0, 0))) ∧ Below w.heap.size w W ∧ OwnE he 2 46 W w.heap.size (.slice ha n.H.length hc) n.H ∧ OwnE pe 33 49 W w.heap.size (.slice pa n.P.length pc) n.P ∧ OwnY W w.heap.size (.slice ba n.bs.length bc) n.bs ∧ r2 ∉ ob (.slice ha n.H.length hc) ∧ r2 ∉ ob (.slice pa n.P.length pc) ∧ r2 ∉ ob (.slice ba n.bs.length bc)) := ⟨fun W f hT hC hz => by
    have hqs : q < w2.heap.size := HT2.out.lt
    have hrs : r2 < w2.heap.size := (Array.getElem?_eq_some_iff.1 Hz22.out).1
    refine ⟨(hC.block r2 (Array.getElem?_eq_some_iff.1 Hz23.out).1 (by simp; have := Hrq.out; omega)).trans Hz23.out, HB3.out.trans (hC.below HB3.out.size (by simp; rw [Hr2.out]; exact Nat.le_of_lt Hrq.out)), (HH3.out.far hC (fun g hg hm => by simp at hm; have := (HH3.out.lt g hg).1; omega)).base HB2.out.size, (HP3.out.far hC (fun g hg hm => by simp at hm; have := (HP3.out.lt g hg).1; omega)).base HB2.out.size, Oct.OwnB.mono (own_far HY3.out hC (fun g hg hm => by simp at hm; have := own_geY HY3.out g (mem_ob.2 hg); omega)) HB2.out.size, fun hm => by have := (HH3.out.lt r2 hm).1; omega, fun hm => by have := (HP3.out.lt r2 hm).1; omega, fun hm => by have := own_geY HY3.out r2 hm; omega⟩⟩
  by_cases hat : i1 < (nb : Int)
  · rw [if_pos hat] at HV
    have t33 := fail32 HT6.out 4
    obtain ⟨f2, Hf2⟩ : ∃ f2, Hid (flS (i1, f1) 4 = (i1, f2)) := by
      unfold flS
      by_cases h : f1 = 0
      · exact ⟨4, ⟨by rw [if_pos h]⟩⟩
      · exact ⟨f1, ⟨by rw [if_neg h]⟩⟩
    have hne : f2 ≠ 0 := by have := flS_fault (i1, f1) 4 (by decide); rw [Hf2.out] at this; exact this
    rw [Hf2.out] at t33 HV
    simp only [if_neg hne] at HV
    have hne' : (f2 != 0) = true := by simpa using hne
    go_wp2_with fail
    refine t33.mono ?_
    rintro e w7 ⟨rfl, hT7, hC7⟩
    have HT7 := Hid.mk hT7
    have HC37 : Hid (Chg [q] w3 w7) := ⟨HC36.out.trans hC7⟩
    have Hz57 : Hid (w7.heap[r5]? = some (.cells N 27 (0, 0))) := ⟨(hC7.block r5 (Array.getElem?_eq_some_iff.1 Hz56.out).1 (by simp; have := Hq5.out; omega)).trans Hz56.out⟩
    clear t33 hT7 hC7 c1 c2
    have c2 := HT7.out.c2
    simp only at c2
    have HE := Hid.mk (Hend.out w7 f2 HT7.out HC37.out Hz57.out)
    have HZi : Hid ((Try.prog.info? 27).map (·.size) = some zn.size) := ⟨info27⟩
    obtain ⟨wd, Hwd⟩ : ∃ x, Hid (w7.drew = x) := ⟨_, ⟨rfl⟩⟩
    have Hzd : Hid (wd.heap[r2]? = some (.cells zn 27 (0, 0))) := ⟨by rw [← Hwd.out]; exact HE.out.1⟩
    obtain ⟨w9, Hw9⟩ : ∃ x, Hid (wd.setRow r2 zn = x) := ⟨_, ⟨rfl⟩⟩
    have HG9 : Hid (Chg [r2] w7 w9) := ⟨by rw [← Hw9.out, ← Hwd.out]; exact ⟨rfl, rfl, rfl, by rw [size_setRow]; exact Nat.le_refl _, fun k hk hx => (setRow_other _ _ k _ (by simpa using hx)).trans rfl⟩⟩
    have Hz9 : Hid (w9.heap[r2]? = some (.cells zn 27 (0, 0))) := ⟨by rw [← Hw9.out]; exact setRow_heap _ _ zn _ 27 (0, 0) Hzd.out⟩
    have hc9 : w9.cell? ⟨q, 2, none⟩ = some (.int .i64 f2) := (HG9.out.cell (a := ⟨q, 2, none⟩) (World.block_lt_of_cell? _ _ c2) (by simp; have := Hrq.out; omega)).trans c2
    have hS0 : (fun w' => w'.cell? ⟨q, 2, none⟩ = some (.int .i64 f2)) w7.drew := c2
    have hZo : zn.all (·.oneCell') = true := na_one _ _ _ _ _ _ _ _ _ _ _ _ _
    go_upto_region 7 with fail
    refine wp_region_held_drew (S := (fun w' => w'.cell? ⟨q, 2, none⟩ = some (.int .i64 f2))) (by kernel_rfl) hS0 (fun hS => ?_)
    refine wpAnyH_take (i := 0) (v := .agg zn) rfl (by kernel_rfl) (by kernel_rfl) (by kernel_rfl) (fun _ _ _ h => h) (Or.inl ⟨by kernel_rfl, fun wx hx => by simp [execOp, run_build27z]⟩) hS ?_
    refine wpAnyH_take (i := 1) (v := .pointer (some ⟨q, 2, none⟩)) rfl (by kernel_rfl) (by kernel_rfl) (by kernel_rfl) (fun _ _ _ h => h) (Or.inl ⟨by kernel_rfl, fun wx hx => by go_simp⟩) hS ?_
    refine wpAnyH_take (i := 2) (v := .int .i64 f2) rfl (by kernel_rfl) (by kernel_rfl) (by kernel_rfl) (fun _ _ _ h => h) (Or.inl ⟨by kernel_rfl, fun wx hx => by go_simp⟩) hS ?_
    clear hS
    rw [Hwd.out]
    refine wpAnyH_ready (rs := [3]) (by kernel_rfl) (by simp) (AllReadyH.cons rfl (fun Kc hK => ?_) AllReadyH.nil)
    refine rdy_of (by kernel_rfl) ?_
    refine wp_store_row 27 (.tmp 2) (.tmp 21) rfl r2 zn (by kernel_rfl) (by kernel_rfl) 27 zn Hzd.out HZi.out rfl hZo ?_
    rw [Hw9.out]
    refine hK.out _ _ hc9 (fun hS => ?_)
    clear hK
    refine wpAnyH_take (i := 4) (v := .int .i64 f2) rfl (by kernel_rfl) (by kernel_rfl) (by kernel_rfl) (fun _ _ _ h => h) (Or.inl ⟨by kernel_rfl, fun _ _ => by kernel_rfl⟩) hS ?_
    refine wpAnyH_done (by kernel_rfl) ?_ _
    clear hS hS0 hc9
    go_simp
    go_wp2_with fail
    refine bodyPost_ret (v := .tuple #[.agg zn, .int .i64 f2]) (results_row_tmp Try.results12 _ _ r2 27 zn (0, 0) _ (by kernel_rfl) Hz9.out Try.underlying27 rfl HZi.out) rfl ?_
    rw [HV.out]
    obtain ⟨_, e2, e3, e4, e5, e6, e7, e8⟩ := HE.out
    exact ⟨none, 0, none, 0, none, 0, rfl, OwnE.nil _ _ _ _ _, OwnE.nil _ _ _ _ _, owny_nil _ _, e2.trans (HG9.out.below e2.size (by simp; rw [Hr2.out]; exact Nat.le_refl _))⟩
  · rw [if_neg hat] at HV
    have HE := Hid.mk (Hend.out w6 f1 HT6.out HC36.out Hz56.out)
    have HZi : Hid ((Try.prog.info? 27).map (·.size) = some zn.size) := ⟨info27⟩
    by_cases hf : f1 = 0
    · subst hf
      simp only [if_true] at HV
      obtain ⟨w8, Hw8⟩ : ∃ x, Hid (w6.setRow r2 N = x) := ⟨_, ⟨rfl⟩⟩
      have HG8 : Hid (Chg [r2] w6 w8) := ⟨by rw [← Hw8.out]; exact ⟨rfl, rfl, rfl, by simp, fun k hk hx => setRow_other _ _ k _ (by simpa using hx)⟩⟩
      have Hz8 : Hid (w8.heap[r2]? = some (.cells N 27 (0, 0))) := ⟨by rw [← Hw8.out]; exact setRow_heap _ _ zn _ 27 (0, 0) HE.out.1⟩
      go_wp2_with (first
        | (refine wp_load rfl 27 (.tmp 5) rfl r5 rfl N 27 (0, 0) _ Hz56.out Try.underlying27 rfl HNs.out.1 ?_)
        | (refine wpList_store_row rfl 27 (.tmp 2) (.tmp 24) rfl r2 N rfl rfl 27 zn HE.out.1 HNs.out.1 HNs.out.2.2 HNs.out.2.1 ?_; rw [Hw8.out]))
      refine bodyPost_ret (v := .tuple #[.agg N, .int .i64 0]) (results_row_tmp Try.results12 _ _ r2 27 N (0, 0) _ (by kernel_rfl) Hz8.out Try.underlying27 rfl HNs.out.1) rfl ?_
      rw [HV.out, ← HN.out]
      obtain ⟨_, e2, e3, e4, e5, e6, e7, e8⟩ := HE.out
      exact ⟨ha, hc, pa, pc, ba, bc, rfl, e3.far HG8.out (fun g hg hm => by simp at hm; subst hm; exact e6 hg), e4.far HG8.out (fun g hg hm => by simp at hm; subst hm; exact e7 hg), own_far e5 HG8.out (fun g hg hm => by simp at hm; subst hm; exact e8 (mem_ob.2 hg)), e2.trans (HG8.out.below e2.size (by simp; rw [Hr2.out]; exact Nat.le_refl _))⟩
    · simp only [if_neg hf] at HV
      have hne' : (f1 != 0) = true := by simpa using hf
      obtain ⟨wd, Hwd⟩ : ∃ x, Hid (w6.drew = x) := ⟨_, ⟨rfl⟩⟩
      have Hzd : Hid (wd.heap[r2]? = some (.cells zn 27 (0, 0))) := ⟨by rw [← Hwd.out]; exact HE.out.1⟩
      obtain ⟨w9, Hw9⟩ : ∃ x, Hid (wd.setRow r2 zn = x) := ⟨_, ⟨rfl⟩⟩
      have HG9 : Hid (Chg [r2] w6 w9) := ⟨by rw [← Hw9.out, ← Hwd.out]; exact ⟨rfl, rfl, rfl, by rw [size_setRow]; exact Nat.le_refl _, fun k hk hx => (setRow_other _ _ k _ (by simpa using hx)).trans rfl⟩⟩
      have Hz9 : Hid (w9.heap[r2]? = some (.cells zn 27 (0, 0))) := ⟨by rw [← Hw9.out]; exact setRow_heap _ _ zn _ 27 (0, 0) Hzd.out⟩
      have hc9 : w9.cell? ⟨q, 2, none⟩ = some (.int .i64 f1) := (HG9.out.cell (a := ⟨q, 2, none⟩) (World.block_lt_of_cell? _ _ c2) (by simp; have := Hrq.out; omega)).trans c2
      have hS0 : (fun w' => w'.cell? ⟨q, 2, none⟩ = some (.int .i64 f1)) w6.drew := c2
      have hZo : zn.all (·.oneCell') = true := na_one _ _ _ _ _ _ _ _ _ _ _ _ _
      go_upto_region 7 with fail
      refine wp_region_held_drew (S := (fun w' => w'.cell? ⟨q, 2, none⟩ = some (.int .i64 f1))) (by kernel_rfl) hS0 (fun hS => ?_)
      refine wpAnyH_take (i := 0) (v := .agg zn) rfl (by kernel_rfl) (by kernel_rfl) (by kernel_rfl) (fun _ _ _ h => h) (Or.inl ⟨by kernel_rfl, fun wx hx => by simp [execOp, run_build27z]⟩) hS ?_
      refine wpAnyH_take (i := 1) (v := .pointer (some ⟨q, 2, none⟩)) rfl (by kernel_rfl) (by kernel_rfl) (by kernel_rfl) (fun _ _ _ h => h) (Or.inl ⟨by kernel_rfl, fun wx hx => by go_simp⟩) hS ?_
      refine wpAnyH_take (i := 2) (v := .int .i64 f1) rfl (by kernel_rfl) (by kernel_rfl) (by kernel_rfl) (fun _ _ _ h => h) (Or.inl ⟨by kernel_rfl, fun wx hx => by go_simp⟩) hS ?_
      clear hS
      rw [Hwd.out]
      refine wpAnyH_ready (rs := [3]) (by kernel_rfl) (by simp) (AllReadyH.cons rfl (fun Kc hK => ?_) AllReadyH.nil)
      refine rdy_of (by kernel_rfl) ?_
      refine wp_store_row 27 (.tmp 2) (.tmp 21) rfl r2 zn (by kernel_rfl) (by kernel_rfl) 27 zn Hzd.out HZi.out rfl hZo ?_
      rw [Hw9.out]
      refine hK.out _ _ hc9 (fun hS => ?_)
      clear hK
      refine wpAnyH_take (i := 4) (v := .int .i64 f1) rfl (by kernel_rfl) (by kernel_rfl) (by kernel_rfl) (fun _ _ _ h => h) (Or.inl ⟨by kernel_rfl, fun _ _ => by kernel_rfl⟩) hS ?_
      refine wpAnyH_done (by kernel_rfl) ?_ _
      clear hS hS0 hc9
      go_simp
      go_wp2_with fail
      refine bodyPost_ret (v := .tuple #[.agg zn, .int .i64 f1]) (results_row_tmp Try.results12 _ _ r2 27 zn (0, 0) _ (by kernel_rfl) Hz9.out Try.underlying27 rfl HZi.out) rfl ?_
      rw [HV.out]
      obtain ⟨_, e2, e3, e4, e5, e6, e7, e8⟩ := HE.out
      exact ⟨none, 0, none, 0, none, 0, rfl, OwnE.nil _ _ _ _ _, OwnE.nil _ _ _ _ _, owny_nil _ _, e2.trans (HG9.out.below e2.size (by simp; rw [Hr2.out]; exact Nat.le_refl _))⟩
end
end Go.Proofs.Ythohpbppfihoiaa
