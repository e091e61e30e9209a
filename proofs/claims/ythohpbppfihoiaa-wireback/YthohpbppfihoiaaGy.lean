/- Texts joined into one: Y3e, Y30, Y31, Y32, Y33, Y34, Y35, Y36, Y37. -/
import Derived.Test.YthohpbppfihoiaaY3
/- The document's Take: its kind has a fault. -/
namespace Go.Proofs.Ythohpbppfihoiaa
open Go.RowKit Go.Lib

section
variable {w : World}
set_option maxHeartbeats 16000000 in
set_option maxRecDepth 100000 in
theorem rtake_e (v : Value) (bs : List Int) (hv : Oct.Bs w v bs) (hby : ∀ x ∈ bs, 0 ≤ x ∧ x < 256) (_hl : bs.length ≤ 140737488355328) (c0 n0 : Int) (j0 : Int) (hs : Oct.tkNum bs 0 = (n0, j0, c0)) (hc : c0 ≠ 0) :
    Calls Try.prog 13 #[v] w fun e w' => TakeP w w' (tkN bs).1 (tkN bs).2 e := by
  have HO : Hid (Old w.heap.size w v bs) := ⟨fun wx h => hv.below h⟩
  have hb0 := hv
  obtain ⟨va, vc, rfl, _, hvm, _⟩ := hb0
  obtain ⟨nb, Hnb⟩ : ∃ n, Hid (bs.length = n) := ⟨_, ⟨rfl⟩⟩
  rw [Hnb.out] at HO
  rw [Hnb.out]
  have t33 : ∀ (W : World) (i : Int), Below w.heap.size w W → Calls Try.prog 33 #[.slice va nb vc, .int .i64 i] W fun e w' => e = .returned (.tuple #[.int .i64 (Oct.tkNum bs i).1, .int .i64 (Oct.tkNum bs i).2.1, .int .i64 (Oct.tkNum bs i).2.2]) ∧ W = w' := fun W i h => Oct.rtakeNum_any _ bs i W (HO.out.on h).at hby
  obtain ⟨r2, Hr2⟩ : ∃ x, Hid (w.heap.size = x) := ⟨_, ⟨rfl⟩⟩
  obtain ⟨wa, Hwa⟩ : ∃ x, Hid (w.alloc (.cells zn 27) = x) := ⟨_, ⟨rfl⟩⟩
  have HBa : Hid (Below w.heap.size w wa) := ⟨by rw [← Hwa.out]; exact (Below.refl _ w).alloc (Nat.le_refl _) _⟩
  have Hz2a : Hid (wa.heap[r2]? = some (.cells zn 27 (0, 0))) := ⟨by rw [← Hwa.out, ← Hr2.out]; exact heap_alloc_new w _⟩
  have t0 := t33 wa 0 HBa.out
  obtain ⟨R, HR⟩ : ∃ R, Hid (tkN bs = R) := ⟨_, ⟨rfl⟩⟩
  rw [HR.out]
  rw [hs] at t0
  simp only at t0
  have hc' : (c0 != 0) = true := by simpa using hc
  clear t33
  have HVl : Hid (R = (zN, c0)) := ⟨by
    have e1 : nS bs (0, 0) = (n0, ((0 : Int), c0)) := nS_no hs hc
    have e0 : n0 = 0 := by have := tkNum_err bs 0 (by rw [hs]; exact hc); rw [hs] at this; exact this
    rw [← HR.out]
    refine tkN_of (st := (0, c0)) ?_ hc
    unfold noteS
    rw [e1]
    subst e0
    rw [if_neg (show ¬ isS 0 = true by decide)]
    rw [show flS ((0 : Int), c0) 4 = (0, c0) from flS_f hc]
    exact fS hc⟩
  obtain ⟨w9, Hw9⟩ : ∃ x, Hid (wa.setRow r2 zn = x) := ⟨_, ⟨rfl⟩⟩
  have Hz9 : Hid (w9.heap[r2]? = some (.cells zn 27 (0, 0))) := ⟨by rw [← Hw9.out]; exact setRow_heap _ _ zn _ 27 (0, 0) Hz2a.out⟩
  have HE : Hid (TakeP w w9 R.1 R.2 (.returned (.tuple #[.agg zn, .int .i64 c0]))) := ⟨by
    rw [← Hw9.out, HVl.out]
    exact ⟨none, 0, none, 0, none, 0, rfl, OwnE.nil _ _ _ _ _, OwnE.nil _ _ _ _ _, owny_nil _ _, below_res HBa.out (by rw [Hr2.out]; exact Nat.le_refl _) zn⟩⟩
  clear hv hby hs hc
  go_enter Try.func13, Try.ntmps13
  go_upto_region 1 with (refine wp_newZ zero27 rfl rfl ?_; rw [Hr2.out, Hwa.out])
  go_wp2_with fail
  refine t0.mono ?_
  rintro e w' ⟨rfl, rfl⟩
  go_upto_region 3 with fail
  go_wp2_with (refine wpList_store_row rfl 27 (.tmp 2) (.tmp 39) rfl r2 zn rfl rfl 27 zn Hz2a.out zn_info rfl zn_one ?_; rw [Hw9.out])
  refine bodyPost_ret (v := .tuple #[.agg zn, .int .i64 c0]) (results_row_tmp Try.results13 _ _ r2 27 zn (0, 0) _ (by kernel_rfl) Hz9.out Try.underlying27 rfl zn_info) rfl ?_
  exact HE.out
end
end Go.Proofs.Ythohpbppfihoiaa

/- The document's Take: a kind that is none. -/
namespace Go.Proofs.Ythohpbppfihoiaa
open Go.RowKit Go.Lib

section
variable {w : World}
set_option maxHeartbeats 16000000 in
set_option maxRecDepth 100000 in
theorem rtake_0 (v : Value) (bs : List Int) (hv : Oct.Bs w v bs) (hby : ∀ x ∈ bs, 0 ≤ x ∧ x < 256) (_hl : bs.length ≤ 140737488355328) (s a : Int) (hs : Oct.tkNum bs 0 = (s, a, 0)) (hn : isS s = false) :
    Calls Try.prog 13 #[v] w fun e w' => TakeP w w' (tkN bs).1 (tkN bs).2 e := by
  have HO : Hid (Old w.heap.size w v bs) := ⟨fun wx h => hv.below h⟩
  have hb0 := hv
  obtain ⟨va, vc, rfl, _, hvm, _⟩ := hb0
  obtain ⟨nb, Hnb⟩ : ∃ n, Hid (bs.length = n) := ⟨_, ⟨rfl⟩⟩
  rw [Hnb.out] at HO
  rw [Hnb.out]
  have t33 : ∀ (W : World) (i : Int), Below w.heap.size w W → Calls Try.prog 33 #[.slice va nb vc, .int .i64 i] W fun e w' => e = .returned (.tuple #[.int .i64 (Oct.tkNum bs i).1, .int .i64 (Oct.tkNum bs i).2.1, .int .i64 (Oct.tkNum bs i).2.2]) ∧ W = w' := fun W i h => Oct.rtakeNum_any _ bs i W (HO.out.on h).at hby
  obtain ⟨r2, Hr2⟩ : ∃ x, Hid (w.heap.size = x) := ⟨_, ⟨rfl⟩⟩
  obtain ⟨wa, Hwa⟩ : ∃ x, Hid (w.alloc (.cells zn 27) = x) := ⟨_, ⟨rfl⟩⟩
  have HBa : Hid (Below w.heap.size w wa) := ⟨by rw [← Hwa.out]; exact (Below.refl _ w).alloc (Nat.le_refl _) _⟩
  have Hz2a : Hid (wa.heap[r2]? = some (.cells zn 27 (0, 0))) := ⟨by rw [← Hwa.out, ← Hr2.out]; exact heap_alloc_new w _⟩
  have t0 := t33 wa 0 HBa.out
  obtain ⟨R, HR⟩ : ∃ R, Hid (tkN bs = R) := ⟨_, ⟨rfl⟩⟩
  rw [HR.out]
  rw [hs] at t0
  simp only at t0
  obtain ⟨r7, Hr7⟩ : ∃ x, Hid (wa.heap.size = x) := ⟨_, ⟨rfl⟩⟩
  obtain ⟨A0, HA0⟩ : ∃ x, Hid (na s { data := #[] } 0 0 (.slice none 0 0) (.slice none 0 0) (.slice none 0 0) = x) := ⟨_, ⟨rfl⟩⟩
  have HAs : Hid ((Try.prog.info? 27).map (·.size) = some A0.size ∧ A0.all (·.oneCell') = true ∧ zn.size = A0.size) := ⟨by rw [← HA0.out]; exact ⟨info27, na_one _ _ _ _ _ _ _ _ _ _ _ _ _, rfl⟩⟩
  have hbu : ∀ W : World, (Instr.build 27 #[(0, .int .i64 s)]).run Try.prog W = .ok (.agg A0) W := fun W => by rw [← HA0.out]; exact run_build27 _ W
  obtain ⟨w2, Hw2⟩ : ∃ x, Hid ((wa.alloc (.cells zn 27)).setRow r7 A0 = x) := ⟨_, ⟨rfl⟩⟩
  have HBb : Hid (Below wa.heap.size wa w2) := ⟨by rw [← Hw2.out, ← Hr7.out]; exact below_setRow ((Below.refl _ wa).alloc (Nat.le_refl _) _) (Nat.le_refl _) _⟩
  have Hr27 : Hid (r2 < r7) := ⟨by rw [← Hr7.out, ← Hwa.out, ← Hr2.out]; simp⟩
  have HN2 : Hid (RtW w w2 r2 r7 A0) := ⟨⟨HBa.out.trans (HBb.out.mono HBa.out.size), (HBb.out.block r2 (by rw [Hr7.out]; exact Hr27.out)).trans Hz2a.out, by rw [← Hw2.out, ← Hr7.out]; exact setRow_heap _ _ zn _ 27 (0, 0) (heap_alloc_new wa _), ⟨by rw [Hr2.out]; exact Nat.le_refl _, Hr27.out⟩⟩⟩
  have Hsn := Hid.mk hn
  have h17 : s < 1 ∨ 7 < s := by
    unfold isS at hn
    have := of_decide_eq_false hn
    omega
  have HVn : Hid ((noteS bs (0, 0)).2 = (a, 4)) := ⟨by
    unfold noteS
    rw [nS_ok hs]
    simp only [Hsn.out]
    rw [if_neg (by decide)]
    exact fS (s1 := (a, 4)) (by simp)⟩
  clear hv hby hs hn t33
  rcases h17 with h1 | h7
  · have hd : decide (s < 1) = true := decide_eq_true h1
    go_enter Try.func13, Try.ntmps13
    go_upto_region 1 with (refine wp_newZ zero27 rfl rfl ?_; rw [Hr2.out, Hwa.out])
    go_wp2_with fail
    refine t0.mono ?_
    rintro e w' ⟨rfl, rfl⟩
    clear t0
    go_upto_region 4 with fail
    go_upto_region 5 with (first
      | (refine wp_build1 (t := 27) (u := .int .i64 s) (C := A0) rfl (.tmp 41) rfl rfl (hbu _) ?_)
      | (refine wp_newZ zero27 rfl rfl ?_; rw [Hr7.out])
      | (refine wpList_store_row rfl 27 (.tmp 7) (.tmp 42) rfl r7 A0 rfl rfl 27 zn (by rw [← Hr7.out]; exact heap_alloc_new wa _) HAs.out.1 HAs.out.2.2 HAs.out.2.1 ?_; rw [Hw2.out]))
    clear hbu
    have HVl : Hid (R = (zN, 4)) := ⟨by rw [← HR.out]; exact tkN_of HVn.out (by simp)⟩
    obtain ⟨w9, Hw9⟩ : ∃ x, Hid (w2.setRow r2 zn = x) := ⟨_, ⟨rfl⟩⟩
    have Hz9 : Hid (w9.heap[r2]? = some (.cells zn 27 (0, 0))) := ⟨by rw [← Hw9.out]; exact setRow_heap _ _ zn _ 27 (0, 0) HN2.out.z2⟩
    have HE : Hid (TakeP w w9 R.1 R.2 (.returned (.tuple #[.agg zn, .int .i64 4]))) := ⟨by rw [← Hw9.out]; exact leaf_end HN2.out HVl.out⟩
    go_upto_region 6 with fail
    go_wp2_with (refine wpList_store_row rfl 27 (.tmp 2) (.tmp 49) rfl r2 zn rfl rfl 27 zn HN2.out.z2 zn_info rfl zn_one ?_; rw [Hw9.out])
    refine bodyPost_ret (v := .tuple #[.agg zn, .int .i64 4]) (results_row_tmp Try.results13 _ _ r2 27 zn (0, 0) _ (by kernel_rfl) Hz9.out Try.underlying27 rfl zn_info) rfl ?_
    exact HE.out
  · have hd : decide (s < 1) = false := decide_eq_false (by omega)
    have hd2 : decide (7 < s) = true := decide_eq_true h7
    go_enter Try.func13, Try.ntmps13
    go_upto_region 1 with (refine wp_newZ zero27 rfl rfl ?_; rw [Hr2.out, Hwa.out])
    go_wp2_with fail
    refine t0.mono ?_
    rintro e w' ⟨rfl, rfl⟩
    clear t0
    go_upto_region 4 with fail
    go_upto_region 5 with (first
      | (refine wp_build1 (t := 27) (u := .int .i64 s) (C := A0) rfl (.tmp 41) rfl rfl (hbu _) ?_)
      | (refine wp_newZ zero27 rfl rfl ?_; rw [Hr7.out])
      | (refine wpList_store_row rfl 27 (.tmp 7) (.tmp 42) rfl r7 A0 rfl rfl 27 zn (by rw [← Hr7.out]; exact heap_alloc_new wa _) HAs.out.1 HAs.out.2.2 HAs.out.2.1 ?_; rw [Hw2.out]))
    clear hbu
    have HVl : Hid (R = (zN, 4)) := ⟨by rw [← HR.out]; exact tkN_of HVn.out (by simp)⟩
    obtain ⟨w9, Hw9⟩ : ∃ x, Hid (w2.setRow r2 zn = x) := ⟨_, ⟨rfl⟩⟩
    have Hz9 : Hid (w9.heap[r2]? = some (.cells zn 27 (0, 0))) := ⟨by rw [← Hw9.out]; exact setRow_heap _ _ zn _ 27 (0, 0) HN2.out.z2⟩
    have HE : Hid (TakeP w w9 R.1 R.2 (.returned (.tuple #[.agg zn, .int .i64 4]))) := ⟨by rw [← Hw9.out]; exact leaf_end HN2.out HVl.out⟩
    go_upto_region 6 with fail
    go_wp2_with (refine wpList_store_row rfl 27 (.tmp 2) (.tmp 49) rfl r2 zn rfl rfl 27 zn HN2.out.z2 zn_info rfl zn_one ?_; rw [Hw9.out])
    refine bodyPost_ret (v := .tuple #[.agg zn, .int .i64 4]) (results_row_tmp Try.results13 _ _ r2 27 zn (0, 0) _ (by kernel_rfl) Hz9.out Try.underlying27 rfl zn_info) rfl ?_
    exact HE.out
end
end Go.Proofs.Ythohpbppfihoiaa

/- The document's Take: kind 1. -/
namespace Go.Proofs.Ythohpbppfihoiaa
open Go.RowKit Go.Lib

section
variable {w : World}
set_option maxHeartbeats 16000000 in
set_option maxRecDepth 100000 in
theorem rtake_1 (v : Value) (bs : List Int) (hv : Oct.Bs w v bs) (hby : ∀ x ∈ bs, 0 ≤ x ∧ x < 256) (_hl : bs.length ≤ 140737488355328) (a : Int) (hs : Oct.tkNum bs 0 = (1, a, 0)) :
    Calls Try.prog 13 #[v] w fun e w' => TakeP w w' (tkN bs).1 (tkN bs).2 e := by
  have HO : Hid (Old w.heap.size w v bs) := ⟨fun wx h => hv.below h⟩
  have hb0 := hv
  obtain ⟨va, vc, rfl, _, hvm, _⟩ := hb0
  obtain ⟨nb, Hnb⟩ : ∃ n, Hid (bs.length = n) := ⟨_, ⟨rfl⟩⟩
  rw [Hnb.out] at HO
  rw [Hnb.out]
  have t33 : ∀ (W : World) (i : Int), Below w.heap.size w W → Calls Try.prog 33 #[.slice va nb vc, .int .i64 i] W fun e w' => e = .returned (.tuple #[.int .i64 (Oct.tkNum bs i).1, .int .i64 (Oct.tkNum bs i).2.1, .int .i64 (Oct.tkNum bs i).2.2]) ∧ W = w' := fun W i h => Oct.rtakeNum_any _ bs i W (HO.out.on h).at hby
  have T33 := Hid.mk t33
  obtain ⟨r2, Hr2⟩ : ∃ x, Hid (w.heap.size = x) := ⟨_, ⟨rfl⟩⟩
  obtain ⟨wa, Hwa⟩ : ∃ x, Hid (w.alloc (.cells zn 27) = x) := ⟨_, ⟨rfl⟩⟩
  have HBa : Hid (Below w.heap.size w wa) := ⟨by rw [← Hwa.out]; exact (Below.refl _ w).alloc (Nat.le_refl _) _⟩
  have Hz2a : Hid (wa.heap[r2]? = some (.cells zn 27 (0, 0))) := ⟨by rw [← Hwa.out, ← Hr2.out]; exact heap_alloc_new w _⟩
  have t0 := t33 wa 0 HBa.out
  obtain ⟨R, HR⟩ : ∃ R, Hid (tkN bs = R) := ⟨_, ⟨rfl⟩⟩
  rw [HR.out]
  rw [hs] at t0
  simp only at t0
  obtain ⟨r7, Hr7⟩ : ∃ x, Hid (wa.heap.size = x) := ⟨_, ⟨rfl⟩⟩
  obtain ⟨A0, HA0⟩ : ∃ x, Hid (na 1 { data := #[] } 0 0 (.slice none 0 0) (.slice none 0 0) (.slice none 0 0) = x) := ⟨_, ⟨rfl⟩⟩
  have HAs : Hid ((Try.prog.info? 27).map (·.size) = some A0.size ∧ A0.all (·.oneCell') = true ∧ zn.size = A0.size) := ⟨by rw [← HA0.out]; exact ⟨info27, na_one _ _ _ _ _ _ _ _ _ _ _ _ _, rfl⟩⟩
  have hbu : ∀ W : World, (Instr.build 27 #[(0, .int .i64 1)]).run Try.prog W = .ok (.agg A0) W := fun W => by rw [← HA0.out]; exact run_build27 _ W
  obtain ⟨w2, Hw2⟩ : ∃ x, Hid ((wa.alloc (.cells zn 27)).setRow r7 A0 = x) := ⟨_, ⟨rfl⟩⟩
  have HBb : Hid (Below wa.heap.size wa w2) := ⟨by rw [← Hw2.out, ← Hr7.out]; exact below_setRow ((Below.refl _ wa).alloc (Nat.le_refl _) _) (Nat.le_refl _) _⟩
  have Hr27 : Hid (r2 < r7) := ⟨by rw [← Hr7.out, ← Hwa.out, ← Hr2.out]; simp⟩
  have HN2 : Hid (RtW w w2 r2 r7 A0) := ⟨⟨HBa.out.trans (HBb.out.mono HBa.out.size), (HBb.out.block r2 (by rw [Hr7.out]; exact Hr27.out)).trans Hz2a.out, by rw [← Hw2.out, ← Hr7.out]; exact setRow_heap _ _ zn _ 27 (0, 0) (heap_alloc_new wa _), ⟨by rw [Hr2.out]; exact Nat.le_refl _, Hr27.out⟩⟩⟩
  have HVn : Hid (noteS bs (0, 0) = noteK (false, false, false, false, false) bs 1 (a, 0)) := ⟨by unfold noteS; rw [nS_ok hs]; rfl⟩
  have Hat0 : Hid (0 ≤ a ∧ a ≤ (bs.length : Int)) := ⟨by have := Oct.tkNum_ok bs 0 hby (by rw [hs]); rw [hs] at this; simp only at this; omega⟩
  clear hv hs t33
  go_enter Try.func13, Try.ntmps13
  go_upto_region 1 with (refine wp_newZ zero27 rfl rfl ?_; rw [Hr2.out, Hwa.out])
  go_wp2_with fail
  refine t0.mono ?_
  rintro e w' ⟨rfl, rfl⟩
  clear t0
  go_upto_region 4 with fail
  go_upto_region 5 with (first
    | (refine wp_build1 (t := 27) (u := .int .i64 1) (C := A0) rfl (.tmp 41) rfl rfl (hbu _) ?_)
    | (refine wp_newZ zero27 rfl rfl ?_; rw [Hr7.out])
    | (refine wpList_store_row rfl 27 (.tmp 7) (.tmp 42) rfl r7 A0 rfl rfl 27 zn (by rw [← Hr7.out]; exact heap_alloc_new wa _) HAs.out.1 HAs.out.2.2 HAs.out.2.1 ?_; rw [Hw2.out]))
  clear hbu
  have y0 : w2.cell? ⟨r7, 0, none⟩ = some (.int .i64 1) := by rw [HN2.out.c7, ← HA0.out]; rfl
  have d1 : decide ((3 : Int) ≤ 1 ∧ (1 : Int) ≤ 7) = false := by decide
  have tc := hasFile18 (w := w2) 1
  rw [d1] at tc
  go_wp2_with fail
  refine tc.mono ?_
  rintro e w' ⟨rfl, rfl⟩
  clear tc
  have d2 : decide ((1 : Int) = 6 ∨ (1 : Int) = 7) = false := by decide
  have tc := hasI19 (w := w2) 1
  rw [d2] at tc
  go_wp2_with fail
  refine tc.mono ?_
  rintro e w' ⟨rfl, rfl⟩
  clear tc
  have HVf : Hid (noteS bs (0, 0) = (⟨1, { data := #[] }, 0, 0, [], [], []⟩, (a, 0))) := ⟨by rw [HVn.out]; unfold noteK; simp only [cond_false, strOf_nil]⟩
  obtain ⟨n0, Hn0⟩ : ∃ x : Nt, Hid ((⟨1, { data := #[] }, 0, 0, [], [], []⟩ : Nt) = x) := ⟨_, ⟨rfl⟩⟩
  rw [Hn0.out] at HVf
  have HNi : Hid ((Try.prog.info? 27).map (·.size) = some A0.size ∧ A0.all (·.oneCell') = true ∧ zn.size = A0.size) := ⟨by rw [← HA0.out]; exact ⟨info27, na_one _ _ _ _ _ _ _ _ _ _ _ _ _, rfl⟩⟩
  have t9 := rcheck9 (w := w2) 1 { data := #[] } 0 0 none none none 0 0 0 0 0 0 [] [] ((OwnE.nil he 2 46 w2 0).rd h0) rfl ((OwnE.nil pe 33 49 w2 0).rd p0) rfl
  have HcN : Hid (chk 1 { data := #[] } 0 0 [] [] 0 = chkN n0) := ⟨by rw [← Hn0.out]; unfold chkN; rfl⟩
  rw [HcN.out, HA0.out] at t9
  obtain ⟨z, Hz⟩ : ∃ z, Hid (chkN n0 = z) := ⟨_, ⟨rfl⟩⟩
  rw [Hz.out] at t9
  go_upto_region 60 with fail
  clear y0
  go_wp2_with (refine wp_load rfl 27 (.tmp 7) rfl r7 rfl A0 27 (0, 0) _ HN2.out.z7 Try.underlying27 rfl HNi.out.1 ?_)
  refine t9.mono ?_
  rintro e wm ⟨rfl, hBm⟩
  have HNm : Hid (RtW w wm r2 r7 A0) := ⟨HN2.out.call hBm⟩
  have HGm : Hid (Chg [] w2 wm) := ⟨Chg.ofBelow hBm⟩
  clear t9 hBm
  by_cases hz : z = 0
  · subst hz
    by_cases hat : a < (nb : Int)
    · have HVl : Hid (R = (zN, 4)) := ⟨by rw [← HR.out]; exact tkN_form HVf.out Hz.out (by rw [Hnb.out]; exact hat)⟩
      obtain ⟨w9, Hw9⟩ : ∃ x, Hid (wm.setRow r2 zn = x) := ⟨_, ⟨rfl⟩⟩
      have Hz9 : Hid (w9.heap[r2]? = some (.cells zn 27 (0, 0))) := ⟨by rw [← Hw9.out]; exact setRow_heap _ _ zn _ 27 (0, 0) HNm.out.z2⟩
      have HE : Hid (TakeP w w9 R.1 R.2 (.returned (.tuple #[.agg zn, .int .i64 4]))) := ⟨by rw [← Hw9.out]; exact leaf_end HNm.out HVl.out⟩
      go_upto_region 64 with fail
      go_wp2_with (refine wpList_store_row rfl 27 (.tmp 2) (.tmp 237) rfl r2 zn rfl rfl 27 zn HNm.out.z2 zn_info rfl zn_one ?_; rw [Hw9.out])
      refine bodyPost_ret (v := .tuple #[.agg zn, .int .i64 4]) (results_row_tmp Try.results13 _ _ r2 27 zn (0, 0) _ (by kernel_rfl) Hz9.out Try.underlying27 rfl zn_info) rfl ?_
      exact HE.out
    · have HVl : Hid (R = (n0, 0)) := ⟨by rw [← HR.out]; exact tkN_ok HVf.out Hz.out (by rw [Hnb.out]; exact hat)⟩
      obtain ⟨w9, Hw9⟩ : ∃ x, Hid (wm.setRow r2 A0 = x) := ⟨_, ⟨rfl⟩⟩
      have Hz9 : Hid (w9.heap[r2]? = some (.cells A0 27 (0, 0))) := ⟨by rw [← Hw9.out]; exact setRow_heap _ _ zn _ 27 (0, 0) HNm.out.z2⟩
      have HG9 : Hid (Chg [r2] wm w9) := ⟨by rw [← Hw9.out]; exact ⟨rfl, rfl, rfl, by simp, fun k hk hx => setRow_other _ _ k _ (by simpa using hx)⟩⟩
      have HB9 : Hid (Below w.heap.size w w9) := ⟨by rw [← Hw9.out]; exact below_res HNm.out.bl HNm.out.ne.1 _⟩
      go_upto_region 65 with fail
      go_wp2_with (first
        | (refine wp_load rfl 27 (.tmp 7) rfl r7 rfl A0 27 (0, 0) _ HNm.out.z7 Try.underlying27 rfl HNi.out.1 ?_)
        | (refine wpList_store_row rfl 27 (.tmp 2) (.tmp 238) rfl r2 A0 rfl rfl 27 zn HNm.out.z2 HNi.out.1 HNi.out.2.2 HNi.out.2.1 ?_; rw [Hw9.out]))
      refine bodyPost_ret (v := .tuple #[.agg A0, .int .i64 0]) (results_row_tmp Try.results13 _ _ r2 27 A0 (0, 0) _ (by kernel_rfl) Hz9.out Try.underlying27 rfl HNi.out.1) rfl ?_
      rw [HVl.out, ← HA0.out, ← Hn0.out]
      exact ⟨none, 0, none, 0, none, 0, rfl, OwnE.nil _ _ _ _ _, OwnE.nil _ _ _ _ _, owny_nil _ _, HB9.out⟩
  · have hz' : (z != 0) = true := by simpa using hz
    have HVl : Hid (R = (zN, z)) := ⟨by rw [← HR.out, ← Hz.out]; exact tkN_chk HVf.out (by rw [Hz.out]; exact hz)⟩
    obtain ⟨w9, Hw9⟩ : ∃ x, Hid (wm.setRow r2 zn = x) := ⟨_, ⟨rfl⟩⟩
    have Hz9 : Hid (w9.heap[r2]? = some (.cells zn 27 (0, 0))) := ⟨by rw [← Hw9.out]; exact setRow_heap _ _ zn _ 27 (0, 0) HNm.out.z2⟩
    have HE : Hid (TakeP w w9 R.1 R.2 (.returned (.tuple #[.agg zn, .int .i64 z]))) := ⟨by rw [← Hw9.out]; exact leaf_end HNm.out HVl.out⟩
    go_upto_region 62 with fail
    go_wp2_with (refine wpList_store_row rfl 27 (.tmp 2) (.tmp 231) rfl r2 zn rfl rfl 27 zn HNm.out.z2 zn_info rfl zn_one ?_; rw [Hw9.out])
    refine bodyPost_ret (v := .tuple #[.agg zn, .int .i64 z]) (results_row_tmp Try.results13 _ _ r2 27 zn (0, 0) _ (by kernel_rfl) Hz9.out Try.underlying27 rfl zn_info) rfl ?_
    exact HE.out
end
end Go.Proofs.Ythohpbppfihoiaa

/- The document's Take: kind 2. -/
namespace Go.Proofs.Ythohpbppfihoiaa
open Go.RowKit Go.Lib

section
variable {w : World}
set_option maxHeartbeats 16000000 in
set_option maxRecDepth 100000 in
theorem rtake_2 (v : Value) (bs : List Int) (hv : Oct.Bs w v bs) (hby : ∀ x ∈ bs, 0 ≤ x ∧ x < 256) (hl : bs.length ≤ 140737488355328) (a : Int) (hs : Oct.tkNum bs 0 = (2, a, 0)) :
    Calls Try.prog 13 #[v] w fun e w' => TakeP w w' (tkN bs).1 (tkN bs).2 e := by
  have HO : Hid (Old w.heap.size w v bs) := ⟨fun wx h => hv.below h⟩
  have hb0 := hv
  obtain ⟨va, vc, rfl, _, hvm, _⟩ := hb0
  obtain ⟨nb, Hnb⟩ : ∃ n, Hid (bs.length = n) := ⟨_, ⟨rfl⟩⟩
  rw [Hnb.out] at HO
  rw [Hnb.out]
  have t33 : ∀ (W : World) (i : Int), Below w.heap.size w W → Calls Try.prog 33 #[.slice va nb vc, .int .i64 i] W fun e w' => e = .returned (.tuple #[.int .i64 (Oct.tkNum bs i).1, .int .i64 (Oct.tkNum bs i).2.1, .int .i64 (Oct.tkNum bs i).2.2]) ∧ W = w' := fun W i h => Oct.rtakeNum_any _ bs i W (HO.out.on h).at hby
  have t34 : ∀ (W : World) (i m : Int), Below w.heap.size w W → Calls Try.prog 34 #[.slice va nb vc, .int .i64 i, .int .i64 m] W fun e w' => ∃ v', e = .returned (.tuple #[v', .int .i64 (Oct.tkText bs i m).2.1, .int .i64 (Oct.tkText bs i m).2.2]) ∧ Oct.OwnB w' W.heap.size 5 v' (Oct.tkText bs i m).1 ∧ Below W.heap.size W w' := fun W i m h => Oct.rtakeText_any _ bs i m W (HO.out.on h).at hby hl
  have T34 := Hid.mk t34
  clear t34
  have T33 := Hid.mk t33
  obtain ⟨r2, Hr2⟩ : ∃ x, Hid (w.heap.size = x) := ⟨_, ⟨rfl⟩⟩
  obtain ⟨wa, Hwa⟩ : ∃ x, Hid (w.alloc (.cells zn 27) = x) := ⟨_, ⟨rfl⟩⟩
  have HBa : Hid (Below w.heap.size w wa) := ⟨by rw [← Hwa.out]; exact (Below.refl _ w).alloc (Nat.le_refl _) _⟩
  have Hz2a : Hid (wa.heap[r2]? = some (.cells zn 27 (0, 0))) := ⟨by rw [← Hwa.out, ← Hr2.out]; exact heap_alloc_new w _⟩
  have t0 := t33 wa 0 HBa.out
  obtain ⟨R, HR⟩ : ∃ R, Hid (tkN bs = R) := ⟨_, ⟨rfl⟩⟩
  rw [HR.out]
  rw [hs] at t0
  simp only at t0
  obtain ⟨r7, Hr7⟩ : ∃ x, Hid (wa.heap.size = x) := ⟨_, ⟨rfl⟩⟩
  obtain ⟨A0, HA0⟩ : ∃ x, Hid (na 2 { data := #[] } 0 0 (.slice none 0 0) (.slice none 0 0) (.slice none 0 0) = x) := ⟨_, ⟨rfl⟩⟩
  have HAs : Hid ((Try.prog.info? 27).map (·.size) = some A0.size ∧ A0.all (·.oneCell') = true ∧ zn.size = A0.size) := ⟨by rw [← HA0.out]; exact ⟨info27, na_one _ _ _ _ _ _ _ _ _ _ _ _ _, rfl⟩⟩
  have hbu : ∀ W : World, (Instr.build 27 #[(0, .int .i64 2)]).run Try.prog W = .ok (.agg A0) W := fun W => by rw [← HA0.out]; exact run_build27 _ W
  obtain ⟨w2, Hw2⟩ : ∃ x, Hid ((wa.alloc (.cells zn 27)).setRow r7 A0 = x) := ⟨_, ⟨rfl⟩⟩
  have HBb : Hid (Below wa.heap.size wa w2) := ⟨by rw [← Hw2.out, ← Hr7.out]; exact below_setRow ((Below.refl _ wa).alloc (Nat.le_refl _) _) (Nat.le_refl _) _⟩
  have Hr27 : Hid (r2 < r7) := ⟨by rw [← Hr7.out, ← Hwa.out, ← Hr2.out]; simp⟩
  have HN2 : Hid (RtW w w2 r2 r7 A0) := ⟨⟨HBa.out.trans (HBb.out.mono HBa.out.size), (HBb.out.block r2 (by rw [Hr7.out]; exact Hr27.out)).trans Hz2a.out, by rw [← Hw2.out, ← Hr7.out]; exact setRow_heap _ _ zn _ 27 (0, 0) (heap_alloc_new wa _), ⟨by rw [Hr2.out]; exact Nat.le_refl _, Hr27.out⟩⟩⟩
  have HVn : Hid (noteS bs (0, 0) = noteK (false, false, true, false, false) bs 2 (a, 0)) := ⟨by unfold noteS; rw [nS_ok hs]; rfl⟩
  have Hat0 : Hid (0 ≤ a ∧ a ≤ (bs.length : Int)) := ⟨by have := Oct.tkNum_ok bs 0 hby (by rw [hs]); rw [hs] at this; simp only at this; omega⟩
  clear hv hs t33
  go_enter Try.func13, Try.ntmps13
  go_upto_region 1 with (refine wp_newZ zero27 rfl rfl ?_; rw [Hr2.out, Hwa.out])
  go_wp2_with fail
  refine t0.mono ?_
  rintro e w' ⟨rfl, rfl⟩
  clear t0
  go_upto_region 4 with fail
  go_upto_region 5 with (first
    | (refine wp_build1 (t := 27) (u := .int .i64 2) (C := A0) rfl (.tmp 41) rfl rfl (hbu _) ?_)
    | (refine wp_newZ zero27 rfl rfl ?_; rw [Hr7.out])
    | (refine wpList_store_row rfl 27 (.tmp 7) (.tmp 42) rfl r7 A0 rfl rfl 27 zn (by rw [← Hr7.out]; exact heap_alloc_new wa _) HAs.out.1 HAs.out.2.2 HAs.out.2.1 ?_; rw [Hw2.out]))
  clear hbu
  have y0 : w2.cell? ⟨r7, 0, none⟩ = some (.int .i64 2) := by rw [HN2.out.c7, ← HA0.out]; rfl
  have d1 : decide ((3 : Int) ≤ 2 ∧ (2 : Int) ≤ 7) = false := by decide
  have tc := hasFile18 (w := w2) 2
  rw [d1] at tc
  go_wp2_with fail
  refine tc.mono ?_
  rintro e w' ⟨rfl, rfl⟩
  clear tc
  have d2 : decide ((2 : Int) = 6 ∨ (2 : Int) = 7) = false := by decide
  have tc := hasI19 (w := w2) 2
  rw [d2] at tc
  go_wp2_with fail
  refine tc.mono ?_
  rintro e w' ⟨rfl, rfl⟩
  clear tc
  obtain ⟨⟨cnt, j3, c3⟩, Hi⟩ : ∃ r, Hid (Oct.tkNum bs a = r) := ⟨_, ⟨rfl⟩⟩
  have ti := T33.out w2 a HN2.out.bl
  rw [Hi.out] at ti
  simp only at ti
  go_wp2_with fail
  refine ti.mono ?_
  rintro e w' ⟨rfl, rfl⟩
  clear ti
  by_cases hc : c3 = 0
  · subst hc
    have Hnk := Oct.tkNum_ok bs a hby (by rw [Hi.out])
    rw [Hi.out] at Hnk
    simp only at Hnk
    obtain ⟨m, rfl⟩ := Int.eq_ofNat_of_zero_le Hnk.2.1
    have hm9 : m ≤ 9007199254740991 := by omega
    have Hj3 : Hid (InS bs (j3, 0)) := ⟨⟨by simp only; omega, by simp only; omega⟩⟩
    by_cases hbig : 64 < m
    · have hb1 : decide ((64 : Int) < (m : Int)) = true := decide_eq_true (by omega)
      have HVl : Hid (R = (zN, 6)) := ⟨by rw [← HR.out]; exact tkN_of (st := (j3, 6)) (by rw [HVn.out]; exact fH (st := (j3, 6)) (by show (lS bs 64 (hS bs) (a, 0)).2 = _; rw [lS_big (nS_ok Hi.out) (by omega)]) (by simp)) (by simp)⟩
      obtain ⟨w9, Hw9⟩ : ∃ x, Hid (w2.setRow r2 zn = x) := ⟨_, ⟨rfl⟩⟩
      have Hz9 : Hid (w9.heap[r2]? = some (.cells zn 27 (0, 0))) := ⟨by rw [← Hw9.out]; exact setRow_heap _ _ zn _ 27 (0, 0) HN2.out.z2⟩
      have HE : Hid (TakeP w w9 R.1 R.2 (.returned (.tuple #[.agg zn, .int .i64 6]))) := ⟨by rw [← Hw9.out]; exact leaf_end HN2.out HVl.out⟩
      go_upto_region 26 with fail
      go_wp2_with (refine wpList_store_row rfl 27 (.tmp 2) (.tmp 126) rfl r2 zn rfl rfl 27 zn HN2.out.z2 zn_info rfl zn_one ?_; rw [Hw9.out])
      refine bodyPost_ret (v := .tuple #[.agg zn, .int .i64 6]) (results_row_tmp Try.results13 _ _ r2 27 zn (0, 0) _ (by kernel_rfl) Hz9.out Try.underlying27 rfl zn_info) rfl ?_
      exact HE.out
    · have hb1 : decide ((64 : Int) < (m : Int)) = false := decide_eq_false (by omega)
      have hb2 : decide ((256 : Int) < (m : Int)) = false := decide_eq_false (by omega)
      have HLs : Hid (lS bs 64 (hS bs) (a, 0) = rep (hS bs) m (j3, 0)) := ⟨by rw [lS_small (nS_ok Hi.out) (by omega)]⟩
      have hmb : m ≤ 64 := by omega
      obtain ⟨zl, Hzl⟩ : ∃ x, Hid (w2.heap.size = x) := ⟨_, ⟨rfl⟩⟩
      have Hzr : Hid (r2 < zl ∧ r7 < zl) := ⟨by rw [← Hzl.out]; have h1 := (Array.getElem?_eq_some_iff.1 HN2.out.z7).1; have h2 := HN2.out.ne; omega⟩
      have HzB : Hid (w.heap.size ≤ zl) := ⟨by rw [← Hzl.out]; exact HN2.out.bl.size⟩
      go_wp2_with fail
      clear y0
      go_loopg [5, 17] m (fun gg s5 s17 wr => ∃ (H : List Hd) (i1 : Int) (al : Option Addr) (cl : Nat), H.length ≤ m ∧ m - H.length ≤ gg ∧ s5 = .int .i64 i1 ∧ s17 = .int .i64 (H.length : Int) ∧ Hid (RtW w wr r2 r7 (na 2 { data := #[] } 0 0 (.slice al (H).length cl) (.slice none 0 0) (.slice none 0 0))) ∧ Hid (OwnE he 2 46 wr zl (.slice al H.length cl) H) ∧ Hid (zl ≤ wr.heap.size) ∧ Hid (rep (hS bs) m (j3, 0) = (H ++ (rep (hS bs) (m - H.length) (i1, 0)).1, (rep (hS bs) (m - H.length) (i1, 0)).2)) ∧ Hid (InS bs (i1, 0)))
      case atStart => exact ⟨[], j3, none, 0, Nat.zero_le _, by simp, rfl, rfl, ⟨by rw [← HA0.out] at HN2; exact HN2.out⟩, ⟨OwnE.nil _ _ _ _ _⟩, ⟨by rw [Hzl.out]; exact Nat.le_refl _⟩, ⟨by simp⟩, Hj3⟩
      case round =>
        obtain ⟨H, i1, al, cl, hL, hgg, rfl, rfl, HNo, HOl_wo, Hzo, HRp, HIo⟩ := hrel
        rename World => wo
        obtain ⟨nl, Hnl⟩ : ∃ k, Hid (H.length = k) := ⟨_, ⟨rfl⟩⟩
        rw [Hnl.out] at hL hgg HNo HOl_wo HRp
        rw [Hnl.out]
        obtain ⟨A9, HA9⟩ : ∃ x, Hid (na 2 { data := #[] } 0 0 (.slice al nl cl) (.slice none 0 0) (.slice none 0 0) = x) := ⟨_, ⟨rfl⟩⟩
        rw [HA9.out] at HNo
        have y0 : wo.cell? ⟨r7, 0, none⟩ = some (.int .i64 2) := by rw [HNo.out.c7, ← HA9.out]; rfl
        by_cases hlt : nl < m
        · have hltz : (nl : Int) < (m : Int) := by omega
          have HRs := Hid.mk (rep_ok (hS bs) (m - (nl + 1)) (i1, 0) rfl)
          have HNk : Hid (m - nl = m - (nl + 1) + 1) := ⟨by omega⟩
          rw [HNk.out, HRs.out] at HRp
          have Hfl : Hid (∀ st : St, (hS bs (i1, 0)).2 = st → st.2 ≠ 0 → (noteS bs (0, 0)).2 = st) := ⟨fun st h h0 => by
            rw [HVn.out]
            refine fH (st := st) ?_ h0
            show (lS bs 64 (hS bs) (a, 0)).2 = _
            rw [HLs.out, HRp.out]
            show (rep (hS bs) (m - (nl + 1)) (hS bs (i1, 0)).2).2 = st
            rw [h, rep_stop _ _ _ h0]⟩
          obtain ⟨h, Hh⟩ : ∃ x, Hid (wo.heap.size = x) := ⟨_, ⟨rfl⟩⟩
          have Hhz : Hid (zl ≤ h ∧ r7 < h ∧ r2 < h) := ⟨by have h1 := Hzo.out; have h2 := Hzr.out; rw [Hh.out] at h1; omega⟩
          obtain ⟨w3, Hw3⟩ : ∃ x, Hid ((wo.alloc (.cells #[.string { data := #[] }, .int .i64 0] 46)).setRow h #[.string { data := #[] }, .int .i64 0] = x) := ⟨_, ⟨rfl⟩⟩
          have HB3 : Hid (Below wo.heap.size wo w3) := ⟨by rw [← Hw3.out, ← Hh.out]; exact below_setRow ((Below.refl _ wo).alloc (Nat.le_refl _) _) (Nat.le_refl _) _⟩
          have Hz3 : Hid (w3.heap[h]? = some (.cells #[.string { data := #[] }, .int .i64 0] 46 (0, 0))) := ⟨by rw [← Hw3.out, ← Hh.out]; exact setRow_heap _ _ #[.string { data := #[] }, .int .i64 0] _ 46 (0, 0) (heap_alloc_new wo _)⟩
          have HN3 : Hid (RtW w w3 r2 r7 A9) := ⟨HNo.out.call HB3.out⟩
          have HO_w3 : Hid (OwnE he 2 46 w3 zl (.slice al nl cl) H) := ⟨HOl_wo.out.far (Chg.ofBelow (X := []) HB3.out) (by simp)⟩
          have zH46 : (Try.prog.info? 46).bind (·.zero) = some (.agg #[.string { data := #[] }, .int .i64 0]) := by kernel_rfl
          have zH1 : (#[.string { data := #[] }, .int .i64 0] : Array Value).all (·.oneCell') = true := by simp [Value.oneCell']
          go_upto_region 33 with (first
            | (refine wp_newZ zH46 rfl rfl ?_; rw [Hh.out])
            | (refine wpList_store_row rfl 46 (.tmp 18) (.tmp 136) rfl h #[.string { data := #[] }, .int .i64 0] rfl rfl 46 #[.string { data := #[] }, .int .i64 0] (by rw [← Hh.out]; exact heap_alloc_new wo _) info46 rfl zH1 ?_; rw [Hw3.out]))
          clear y0 zH46 zH1
          obtain ⟨⟨ps, jx, cx⟩, Hx⟩ : ∃ r, Hid (Oct.tkText bs i1 32 = r) := ⟨_, ⟨rfl⟩⟩
          have tx := T34.out w3 i1 32 HN3.out.bl
          rw [Hx.out] at tx
          simp only at tx
          go_wp2_with fail
          refine tx.mono ?_
          rintro e wt ⟨vt, rfl, hOt, hBt⟩
          have HBt := Hid.mk hBt
          have HNt : Hid (RtW w wt r2 r7 A9) := ⟨HN3.out.call hBt⟩
          have HOt := Hid.mk hOt
          obtain ⟨at', kt, et, _⟩ := OwnY.shape (show OwnY wt w3.heap.size vt ps from hOt)
          subst et
          have Hzt : Hid (wt.heap[h]? = some (.cells #[.string { data := #[] }, .int .i64 0] 46 (0, 0))) := ⟨(hBt.block h (Array.getElem?_eq_some_iff.1 Hz3.out).1).trans Hz3.out⟩
          have HO_wt : Hid (OwnE he 2 46 wt zl (.slice al nl cl) H) := ⟨HO_w3.out.far (Chg.ofBelow (X := []) hBt) (by simp)⟩
          clear tx hOt hBt
          by_cases hc : cx = 0
          · subst hc
            obtain ⟨nm, Hnm⟩ : ∃ r, Hid (strOfNums ps = r) := ⟨_, ⟨rfl⟩⟩
            have hcv : (convert 25 9 (.slice at' ps.length kt)).run Try.prog wt = .ok (.string nm) wt := by rw [← Hnm.out]; exact bs_str (Oct.OwnB.bs HOt.out)
            have k7 : wt.cell? ⟨h, 0, none⟩ = some (.string { data := #[] }) := by rw [cell_of_row _ _ _ _ _ _ Hzt.out]; rfl
            have f7 : wt.frozen? ⟨h, 0, none⟩ = false := frozen_of_row wt h 0 _ 46 Hzt.out
            obtain ⟨wu, Hwu⟩ : ∃ x, Hid (wt.setCell ⟨h, 0, none⟩ (.string nm) = x) := ⟨_, ⟨rfl⟩⟩
            have HGu : Hid (Chg [h] wt wu) := ⟨by rw [← Hwu.out]; exact (Chg.refl [h] wt).setCell (.inl (by simp)) _⟩
            have HNu : Hid (RtW w wu r2 r7 A9) := ⟨HNt.out.other HGu.out (by simp; exact Hhz.out.2.1)⟩
            have Hzu : Hid (wu.heap[h]? = some (.cells #[.string nm, .int .i64 0] 46 (0, 0))) := ⟨by rw [← Hwu.out]; exact heap_setCell_same wt h 0 _ 46 _ Hzt.out⟩
            go_upto_region 37 with fail
            rw [Hwu.out]
            clear hcv k7 f7
            obtain ⟨⟨g, jn, cy⟩, Hg⟩ : ∃ r, Hid (Oct.tkNum bs jx = r) := ⟨_, ⟨rfl⟩⟩
            have tg := T33.out wu jx HNu.out.bl
            rw [Hg.out] at tg
            simp only at tg
            go_wp2_with fail
            refine tg.mono ?_
            rintro e w' ⟨rfl, rfl⟩
            clear tg
            have k7 : wu.cell? ⟨h, 1, none⟩ = some (.int .i64 0) := by rw [cell_of_row _ _ _ _ _ _ Hzu.out]; rfl
            have f7 : wu.frozen? ⟨h, 1, none⟩ = false := frozen_of_row wu h 1 _ 46 Hzu.out
            obtain ⟨wv, Hwv⟩ : ∃ x, Hid (wu.setCell ⟨h, 1, none⟩ (.int .i64 g) = x) := ⟨_, ⟨rfl⟩⟩
            have HGv : Hid (Chg [h] wu wv) := ⟨by rw [← Hwv.out]; exact (Chg.refl [h] wu).setCell (.inl (by simp)) _⟩
            have HNv : Hid (RtW w wv r2 r7 A9) := ⟨HNu.out.other HGv.out (by simp; exact Hhz.out.2.1)⟩
            have Hzw : Hid (wv.heap[h]? = some (.cells #[.string nm, .int .i64 g] 46 (0, 0))) := ⟨by rw [← Hwv.out]; exact heap_setCell_same wu h 1 _ 46 _ Hzu.out⟩
            have Hnot : Hid (∀ g ∈ ob (Value.slice al nl cl), g ∉ [h]) := ⟨fun g hg hm => by simp at hm; have h1 := (HOl_wo.out.lt g hg).2; have h2 := Hh.out; omega⟩
            have HO_wv : Hid (OwnE he 2 46 wv zl (.slice al nl cl) H) := ⟨(HO_wt.out.far HGu.out Hnot.out).far HGv.out Hnot.out⟩
            have Hzv : Hid (zl ≤ wv.heap.size) := ⟨Nat.le_trans Hzo.out (Nat.le_trans HB3.out.size (Nat.le_trans HBt.out.size (Nat.le_trans HGu.out.size HGv.out.size)))⟩
            go_upto_region 38 with fail
            rw [Hwv.out]
            clear k7 f7
            by_cases hc : cy = 0
            · subst hc
              obtain ⟨E, HEd⟩ : ∃ x : Hd, Hid ((nm, g) = x) := ⟨_, ⟨rfl⟩⟩
              have HEe : Hid (hS bs (i1, 0) = (E, (jn, 0))) := ⟨by unfold hS; rw [xS_ok Hx.out]; simp only; rw [nS_ok Hg.out, Hnm.out, HEd.out]⟩
              have HIn : Hid (InS bs (jn, 0)) := ⟨by have := hS_in hby HIo.out; rw [HEe.out] at this; exact this⟩
              obtain ⟨C, HCe⟩ : ∃ r, Hid ((he E).toArray = r) := ⟨_, ⟨rfl⟩⟩
              have HCsz : Hid (C.size = 2) := ⟨by rw [← HCe.out]; rfl⟩
              have HE1 : Hid (∀ u ∈ he E, u.oneCell' = true) := ⟨by intro u hu; simp [he] at hu; rcases hu with rfl | rfl <;> rfl⟩
              have HzC : Hid (wv.heap[h]? = some (.cells C 46 (0, 0))) := ⟨by rw [← HCe.out, ← HEd.out]; exact Hzw.out⟩
              have y4 : wv.cell? ⟨r7, 4, none⟩ = some (.slice al nl cl) := by rw [HNv.out.c7, ← HA9.out]; rfl
              obtain ⟨zc, Hzc⟩ : ∃ x, Hid (wv.heap.size = x) := ⟨_, ⟨rfl⟩⟩
              obtain ⟨wc, Hwc⟩ : ∃ x, Hid (wv.alloc (.cells C 46) = x) := ⟨_, ⟨rfl⟩⟩
              have HBc : Hid (Below wv.heap.size wv wc) := ⟨by rw [← Hwc.out]; exact (Below.refl _ wv).alloc (Nat.le_refl _) _⟩
              have HRc : Hid (RdE he 2 h0 wc (.slice (some ⟨zc, 0, none⟩) 1 1) [E]) := ⟨by rw [← Hwc.out, ← Hzc.out, ← HCe.out]; exact rde_one wv E (by have := HCsz.out; rw [← HCe.out, List.size_toArray] at this; exact this) HE1.out 46⟩
              have HOc : Hid (OwnE he 2 46 wc zl (.slice al nl cl) H) := ⟨HO_wv.out.far (Chg.ofBelow (X := []) HBc.out) (by simp)⟩
              have HNc : Hid (RtW w wc r2 r7 A9) := ⟨HNv.out.call HBc.out⟩
              have Hob : Hid (∀ g ∈ ob (Value.slice al nl cl), zl ≤ g) := ⟨fun g hg => (HOc.out.lt g hg).1⟩
              have HCi : Hid ((Try.prog.info? 46).map (·.size) = some C.size) := ⟨by rw [HCsz.out]; exact info46⟩
              have Hzcz : Hid (zl ≤ wc.heap.size) := ⟨Nat.le_trans Hzv.out HBc.out.size⟩
              go_wp2_with (first
                | (refine wp_load rfl 46 (.tmp 18) rfl h rfl C 46 (0, 0) _ HzC.out Try.underlying46 rfl HCi.out ?_)
                | (refine wp_sliceE eltHd rfl (.tmp 165) rfl C rfl HCsz.out (by decide) ?_; rw [Hzc.out, Hwc.out])
                | (at_builtin; refine wp_appE (f := he) (d := h0) (L := H) (M := [E]) eltHd rfl (.tmp 164) (.tmp 166) rfl rfl HOc.out rfl HRc.out (by have := Hnl.out; simp only [List.length_cons, List.length_nil]; omega) (by have := Hnl.out; unfold maxLen; simp only [List.length_cons, List.length_nil]; omega) Hzcz.out ?_; intro v4 w4 hO4 hG4 hV4; have HO4 := Hid.mk hO4; have HN4 : Hid (RtW w w4 r2 r7 A9) := ⟨HNc.out.other hG4 (fun x hx => by have h1 := Hob.out x hx; have h2 := Hzr.out; omega)⟩; have Hz4 : Hid (zl ≤ w4.heap.size) := ⟨Nat.le_trans Hzcz.out hG4.size⟩; clear hO4 hG4 hV4; obtain ⟨a4, c4, e4, _⟩ := (HO4.out.rd h0).shape; subst e4; obtain ⟨n4, Hn4⟩ : ∃ x, Hid ((H ++ [E]).length = x) := ⟨_, ⟨rfl⟩⟩; rw [Hn4.out] at HO4; rw [Hn4.out]; have k4 : w4.cell? ⟨r7, 4, none⟩ = some (.slice al nl cl) := (by rw [HN4.out.c7, ← HA9.out]; rfl); have f4 := HN4.out.f7 4))
              have HN5 : Hid (RtW w (w4.setCell ⟨r7, 4, none⟩ (.slice a4 n4 c4)) r2 r7 (na 2 { data := #[] } 0 0 (.slice a4 n4 c4) (.slice none 0 0) (.slice none 0 0))) := ⟨HN4.out.set 4 _ (by rw [← HA9.out]; rfl)⟩
              have HO5 : Hid (OwnE he 2 46 (w4.setCell ⟨r7, 4, none⟩ (.slice a4 n4 c4)) zl (.slice a4 n4 c4) (H ++ [E])) := ⟨HO4.out.far ((Chg.refl [r7] w4).setCell (.inl (by simp)) _) (fun g hg hm => by simp at hm; have h1 := (HO4.out.lt g hg).1; have h2 := Hzr.out; omega)⟩
              have Hz5 : Hid (zl ≤ (w4.setCell ⟨r7, 4, none⟩ (.slice a4 n4 c4)).heap.size) := ⟨by simpa [World.setCell] using Hz4.out⟩
              have Hk4 : Hid ((H ++ [E]).length = nl + 1) := ⟨by rw [List.length_append, Hnl.out]; rfl⟩
              have HRp4 : Hid (rep (hS bs) m (j3, 0) = ((H ++ [E]) ++ (rep (hS bs) (m - (H ++ [E]).length) (jn, 0)).1, (rep (hS bs) (m - (H ++ [E]).length) (jn, 0)).2)) := ⟨by rw [Hk4.out, HRp.out, HEe.out, List.append_assoc]; rfl⟩
              go_roundg (m - (nl + 1))
              case measure => omega
              case rel => exact ⟨H ++ [E], jn, a4, c4, by rw [Hk4.out]; omega, by rw [Hk4.out]; exact Nat.le_refl _, rfl, by rw [Hk4.out]; go_num, ⟨by rw [Hn4.out]; exact HN5.out⟩, ⟨by rw [Hn4.out]; exact HO5.out⟩, Hz5, HRp4, HIn⟩
            · have hc' : (cy != 0) = true := by simpa using hc
              have Hst : Hid ((hS bs (i1, 0)).2 = (jx, cy)) := ⟨by unfold hS; rw [xS_ok Hx.out]; exact congrArg Prod.snd (nS_no Hg.out hc)⟩
              have HVl : Hid (R = (zN, cy)) := ⟨by rw [← HR.out]; exact tkN_of (st := (jx, cy)) (Hfl.out _ Hst.out hc) hc⟩
              obtain ⟨w9, Hw9⟩ : ∃ x, Hid (wv.setRow r2 zn = x) := ⟨_, ⟨rfl⟩⟩
              have Hz9 : Hid (w9.heap[r2]? = some (.cells zn 27 (0, 0))) := ⟨by rw [← Hw9.out]; exact setRow_heap _ _ zn _ 27 (0, 0) HNv.out.z2⟩
              have HE : Hid (TakeP w w9 R.1 R.2 (.returned (.tuple #[.agg zn, .int .i64 cy]))) := ⟨by rw [← Hw9.out]; exact leaf_end HNv.out HVl.out⟩
              go_upto_region 39 with fail
              go_wp2_with (refine wpList_store_row rfl 27 (.tmp 2) (.tmp 161) rfl r2 zn rfl rfl 27 zn HNv.out.z2 zn_info rfl zn_one ?_; rw [Hw9.out])
              refine bodyPost_ret (v := .tuple #[.agg zn, .int .i64 cy]) (results_row_tmp Try.results13 _ _ r2 27 zn (0, 0) _ (by kernel_rfl) Hz9.out Try.underlying27 rfl zn_info) rfl ?_
              exact HE.out
          · have hc' : (cx != 0) = true := by simpa using hc
            have Hst : Hid ((hS bs (i1, 0)).2 = (i1, cx)) := ⟨by unfold hS; rw [xS_no Hx.out hc]; exact congrArg Prod.snd (nS_f hc)⟩
            have HVl : Hid (R = (zN, cx)) := ⟨by rw [← HR.out]; exact tkN_of (st := (i1, cx)) (Hfl.out _ Hst.out hc) hc⟩
            obtain ⟨w9, Hw9⟩ : ∃ x, Hid (wt.setRow r2 zn = x) := ⟨_, ⟨rfl⟩⟩
            have Hz9 : Hid (w9.heap[r2]? = some (.cells zn 27 (0, 0))) := ⟨by rw [← Hw9.out]; exact setRow_heap _ _ zn _ 27 (0, 0) HNt.out.z2⟩
            have HE : Hid (TakeP w w9 R.1 R.2 (.returned (.tuple #[.agg zn, .int .i64 cx]))) := ⟨by rw [← Hw9.out]; exact leaf_end HNt.out HVl.out⟩
            go_upto_region 35 with fail
            go_wp2_with (refine wpList_store_row rfl 27 (.tmp 2) (.tmp 146) rfl r2 zn rfl rfl 27 zn HNt.out.z2 zn_info rfl zn_one ?_; rw [Hw9.out])
            refine bodyPost_ret (v := .tuple #[.agg zn, .int .i64 cx]) (results_row_tmp Try.results13 _ _ r2 27 zn (0, 0) _ (by kernel_rfl) Hz9.out Try.underlying27 rfl zn_info) rfl ?_
            exact HE.out
        · obtain rfl : nl = m := by omega
          have hltz : ¬ (nl : Int) < (nl : Int) := by omega
          have HLx : Hid (lS bs 64 (hS bs) (a, 0) = (H, (i1, 0))) := ⟨by rw [HLs.out, HRp.out, Nat.sub_self]; simp [rep]⟩
          have HVf : Hid (noteS bs (0, 0) = (⟨2, { data := #[] }, 0, 0, H, [], []⟩, (i1, 0))) := ⟨by rw [HVn.out]; unfold noteK; simp only [cond_true, cond_false, strOf_nil, HLx.out]⟩
          obtain ⟨n0, Hn0⟩ : ∃ x : Nt, Hid ((⟨2, { data := #[] }, 0, 0, H, [], []⟩ : Nt) = x) := ⟨_, ⟨rfl⟩⟩
          rw [Hn0.out] at HVf
          have HNi : Hid ((Try.prog.info? 27).map (·.size) = some A9.size ∧ A9.all (·.oneCell') = true ∧ zn.size = A9.size) := ⟨by rw [← HA9.out]; exact ⟨info27, na_one _ _ _ _ _ _ _ _ _ _ _ _ _, rfl⟩⟩
          have t9 := rcheck9 (w := wo) 2 { data := #[] } 0 0 al none none nl cl 0 0 0 0 H [] (HOl_wo.out.rd h0) Hnl.out ((OwnE.nil pe 33 49 wo 0).rd p0) rfl
          have HcN : Hid (chk 2 { data := #[] } 0 0 H [] 0 = chkN n0) := ⟨by rw [← Hn0.out]; unfold chkN; rfl⟩
          rw [HcN.out, HA9.out] at t9
          obtain ⟨z, Hz⟩ : ∃ z, Hid (chkN n0 = z) := ⟨_, ⟨rfl⟩⟩
          rw [Hz.out] at t9
          go_upto_region 60 with fail
          clear y0
          go_wp2_with (refine wp_load rfl 27 (.tmp 7) rfl r7 rfl A9 27 (0, 0) _ HNo.out.z7 Try.underlying27 rfl HNi.out.1 ?_)
          refine t9.mono ?_
          rintro e wm ⟨rfl, hBm⟩
          have HNm : Hid (RtW w wm r2 r7 A9) := ⟨HNo.out.call hBm⟩
          have HGm : Hid (Chg [] wo wm) := ⟨Chg.ofBelow hBm⟩
          clear t9 hBm
          have HOl_wm : Hid (OwnE he 2 46 wm zl (.slice al nl cl) H) := ⟨HOl_wo.out.far HGm.out (by simp)⟩
          by_cases hz : z = 0
          · subst hz
            by_cases hat : i1 < (nb : Int)
            · have HVl : Hid (R = (zN, 4)) := ⟨by rw [← HR.out]; exact tkN_form HVf.out Hz.out (by rw [Hnb.out]; exact hat)⟩
              obtain ⟨w9, Hw9⟩ : ∃ x, Hid (wm.setRow r2 zn = x) := ⟨_, ⟨rfl⟩⟩
              have Hz9 : Hid (w9.heap[r2]? = some (.cells zn 27 (0, 0))) := ⟨by rw [← Hw9.out]; exact setRow_heap _ _ zn _ 27 (0, 0) HNm.out.z2⟩
              have HE : Hid (TakeP w w9 R.1 R.2 (.returned (.tuple #[.agg zn, .int .i64 4]))) := ⟨by rw [← Hw9.out]; exact leaf_end HNm.out HVl.out⟩
              go_upto_region 64 with fail
              go_wp2_with (refine wpList_store_row rfl 27 (.tmp 2) (.tmp 237) rfl r2 zn rfl rfl 27 zn HNm.out.z2 zn_info rfl zn_one ?_; rw [Hw9.out])
              refine bodyPost_ret (v := .tuple #[.agg zn, .int .i64 4]) (results_row_tmp Try.results13 _ _ r2 27 zn (0, 0) _ (by kernel_rfl) Hz9.out Try.underlying27 rfl zn_info) rfl ?_
              exact HE.out
            · have HVl : Hid (R = (n0, 0)) := ⟨by rw [← HR.out]; exact tkN_ok HVf.out Hz.out (by rw [Hnb.out]; exact hat)⟩
              obtain ⟨w9, Hw9⟩ : ∃ x, Hid (wm.setRow r2 A9 = x) := ⟨_, ⟨rfl⟩⟩
              have Hz9 : Hid (w9.heap[r2]? = some (.cells A9 27 (0, 0))) := ⟨by rw [← Hw9.out]; exact setRow_heap _ _ zn _ 27 (0, 0) HNm.out.z2⟩
              have HG9 : Hid (Chg [r2] wm w9) := ⟨by rw [← Hw9.out]; exact ⟨rfl, rfl, rfl, by simp, fun k hk hx => setRow_other _ _ k _ (by simpa using hx)⟩⟩
              have HB9 : Hid (Below w.heap.size w w9) := ⟨by rw [← Hw9.out]; exact below_res HNm.out.bl HNm.out.ne.1 _⟩
              have HOl_w9 : Hid (OwnE he 2 46 w9 zl (.slice al nl cl) H) := ⟨HOl_wm.out.far HG9.out (fun g hg hm => by simp at hm; have := (HOl_wm.out.lt g hg).1; have := Hzr.out; omega)⟩
              go_upto_region 65 with fail
              go_wp2_with (first
                | (refine wp_load rfl 27 (.tmp 7) rfl r7 rfl A9 27 (0, 0) _ HNm.out.z7 Try.underlying27 rfl HNi.out.1 ?_)
                | (refine wpList_store_row rfl 27 (.tmp 2) (.tmp 238) rfl r2 A9 rfl rfl 27 zn HNm.out.z2 HNi.out.1 HNi.out.2.2 HNi.out.2.1 ?_; rw [Hw9.out]))
              refine bodyPost_ret (v := .tuple #[.agg A9, .int .i64 0]) (results_row_tmp Try.results13 _ _ r2 27 A9 (0, 0) _ (by kernel_rfl) Hz9.out Try.underlying27 rfl HNi.out.1) rfl ?_
              rw [HVl.out, ← HA9.out, ← Hn0.out]
              exact ⟨al, cl, none, 0, none, 0, by rw [← Hnl.out]; rfl, by rw [show (H : List Hd).length = nl from Hnl.out]; exact HOl_w9.out.base HzB.out, OwnE.nil _ _ _ _ _, owny_nil _ _, HB9.out⟩
          · have hz' : (z != 0) = true := by simpa using hz
            have HVl : Hid (R = (zN, z)) := ⟨by rw [← HR.out, ← Hz.out]; exact tkN_chk HVf.out (by rw [Hz.out]; exact hz)⟩
            obtain ⟨w9, Hw9⟩ : ∃ x, Hid (wm.setRow r2 zn = x) := ⟨_, ⟨rfl⟩⟩
            have Hz9 : Hid (w9.heap[r2]? = some (.cells zn 27 (0, 0))) := ⟨by rw [← Hw9.out]; exact setRow_heap _ _ zn _ 27 (0, 0) HNm.out.z2⟩
            have HE : Hid (TakeP w w9 R.1 R.2 (.returned (.tuple #[.agg zn, .int .i64 z]))) := ⟨by rw [← Hw9.out]; exact leaf_end HNm.out HVl.out⟩
            go_upto_region 62 with fail
            go_wp2_with (refine wpList_store_row rfl 27 (.tmp 2) (.tmp 231) rfl r2 zn rfl rfl 27 zn HNm.out.z2 zn_info rfl zn_one ?_; rw [Hw9.out])
            refine bodyPost_ret (v := .tuple #[.agg zn, .int .i64 z]) (results_row_tmp Try.results13 _ _ r2 27 zn (0, 0) _ (by kernel_rfl) Hz9.out Try.underlying27 rfl zn_info) rfl ?_
            exact HE.out
  · have hc' : (c3 != 0) = true := by simpa using hc
    have HVl : Hid (R = (zN, c3)) := ⟨by rw [← HR.out]; exact tkN_of (st := (a, c3)) (by rw [HVn.out]; exact fH (st := (a, c3)) (by show (lS bs 64 (hS bs) (a, 0)).2 = _; rw [lS_err (by rw [nS_no Hi.out hc]; exact hc), nS_no Hi.out hc]) hc) hc⟩
    obtain ⟨w9, Hw9⟩ : ∃ x, Hid (w2.setRow r2 zn = x) := ⟨_, ⟨rfl⟩⟩
    have Hz9 : Hid (w9.heap[r2]? = some (.cells zn 27 (0, 0))) := ⟨by rw [← Hw9.out]; exact setRow_heap _ _ zn _ 27 (0, 0) HN2.out.z2⟩
    have HE : Hid (TakeP w w9 R.1 R.2 (.returned (.tuple #[.agg zn, .int .i64 c3]))) := ⟨by rw [← Hw9.out]; exact leaf_end HN2.out HVl.out⟩
    go_upto_region 24 with fail
    go_wp2_with (refine wpList_store_row rfl 27 (.tmp 2) (.tmp 113) rfl r2 zn rfl rfl 27 zn HN2.out.z2 zn_info rfl zn_one ?_; rw [Hw9.out])
    refine bodyPost_ret (v := .tuple #[.agg zn, .int .i64 c3]) (results_row_tmp Try.results13 _ _ r2 27 zn (0, 0) _ (by kernel_rfl) Hz9.out Try.underlying27 rfl zn_info) rfl ?_
    exact HE.out
end
end Go.Proofs.Ythohpbppfihoiaa

/- The document's Take: kind 3. -/
namespace Go.Proofs.Ythohpbppfihoiaa
open Go.RowKit Go.Lib

section
variable {w : World}
set_option maxHeartbeats 16000000 in
set_option maxRecDepth 100000 in
theorem rtake_3 (v : Value) (bs : List Int) (hv : Oct.Bs w v bs) (hby : ∀ x ∈ bs, 0 ≤ x ∧ x < 256) (hl : bs.length ≤ 140737488355328) (a : Int) (hs : Oct.tkNum bs 0 = (3, a, 0)) :
    Calls Try.prog 13 #[v] w fun e w' => TakeP w w' (tkN bs).1 (tkN bs).2 e := by
  have HO : Hid (Old w.heap.size w v bs) := ⟨fun wx h => hv.below h⟩
  have hb0 := hv
  obtain ⟨va, vc, rfl, _, hvm, _⟩ := hb0
  obtain ⟨nb, Hnb⟩ : ∃ n, Hid (bs.length = n) := ⟨_, ⟨rfl⟩⟩
  rw [Hnb.out] at HO
  rw [Hnb.out]
  have t33 : ∀ (W : World) (i : Int), Below w.heap.size w W → Calls Try.prog 33 #[.slice va nb vc, .int .i64 i] W fun e w' => e = .returned (.tuple #[.int .i64 (Oct.tkNum bs i).1, .int .i64 (Oct.tkNum bs i).2.1, .int .i64 (Oct.tkNum bs i).2.2]) ∧ W = w' := fun W i h => Oct.rtakeNum_any _ bs i W (HO.out.on h).at hby
  have t34 : ∀ (W : World) (i m : Int), Below w.heap.size w W → Calls Try.prog 34 #[.slice va nb vc, .int .i64 i, .int .i64 m] W fun e w' => ∃ v', e = .returned (.tuple #[v', .int .i64 (Oct.tkText bs i m).2.1, .int .i64 (Oct.tkText bs i m).2.2]) ∧ Oct.OwnB w' W.heap.size 5 v' (Oct.tkText bs i m).1 ∧ Below W.heap.size W w' := fun W i m h => Oct.rtakeText_any _ bs i m W (HO.out.on h).at hby hl
  have T34 := Hid.mk t34
  clear t34
  have T33 := Hid.mk t33
  obtain ⟨r2, Hr2⟩ : ∃ x, Hid (w.heap.size = x) := ⟨_, ⟨rfl⟩⟩
  obtain ⟨wa, Hwa⟩ : ∃ x, Hid (w.alloc (.cells zn 27) = x) := ⟨_, ⟨rfl⟩⟩
  have HBa : Hid (Below w.heap.size w wa) := ⟨by rw [← Hwa.out]; exact (Below.refl _ w).alloc (Nat.le_refl _) _⟩
  have Hz2a : Hid (wa.heap[r2]? = some (.cells zn 27 (0, 0))) := ⟨by rw [← Hwa.out, ← Hr2.out]; exact heap_alloc_new w _⟩
  have t0 := t33 wa 0 HBa.out
  obtain ⟨R, HR⟩ : ∃ R, Hid (tkN bs = R) := ⟨_, ⟨rfl⟩⟩
  rw [HR.out]
  rw [hs] at t0
  simp only at t0
  obtain ⟨r7, Hr7⟩ : ∃ x, Hid (wa.heap.size = x) := ⟨_, ⟨rfl⟩⟩
  obtain ⟨A0, HA0⟩ : ∃ x, Hid (na 3 { data := #[] } 0 0 (.slice none 0 0) (.slice none 0 0) (.slice none 0 0) = x) := ⟨_, ⟨rfl⟩⟩
  have HAs : Hid ((Try.prog.info? 27).map (·.size) = some A0.size ∧ A0.all (·.oneCell') = true ∧ zn.size = A0.size) := ⟨by rw [← HA0.out]; exact ⟨info27, na_one _ _ _ _ _ _ _ _ _ _ _ _ _, rfl⟩⟩
  have hbu : ∀ W : World, (Instr.build 27 #[(0, .int .i64 3)]).run Try.prog W = .ok (.agg A0) W := fun W => by rw [← HA0.out]; exact run_build27 _ W
  obtain ⟨w2, Hw2⟩ : ∃ x, Hid ((wa.alloc (.cells zn 27)).setRow r7 A0 = x) := ⟨_, ⟨rfl⟩⟩
  have HBb : Hid (Below wa.heap.size wa w2) := ⟨by rw [← Hw2.out, ← Hr7.out]; exact below_setRow ((Below.refl _ wa).alloc (Nat.le_refl _) _) (Nat.le_refl _) _⟩
  have Hr27 : Hid (r2 < r7) := ⟨by rw [← Hr7.out, ← Hwa.out, ← Hr2.out]; simp⟩
  have HN2 : Hid (RtW w w2 r2 r7 A0) := ⟨⟨HBa.out.trans (HBb.out.mono HBa.out.size), (HBb.out.block r2 (by rw [Hr7.out]; exact Hr27.out)).trans Hz2a.out, by rw [← Hw2.out, ← Hr7.out]; exact setRow_heap _ _ zn _ 27 (0, 0) (heap_alloc_new wa _), ⟨by rw [Hr2.out]; exact Nat.le_refl _, Hr27.out⟩⟩⟩
  have HVn : Hid (noteS bs (0, 0) = noteK (true, false, false, false, false) bs 3 (a, 0)) := ⟨by unfold noteS; rw [nS_ok hs]; rfl⟩
  have Hat0 : Hid (0 ≤ a ∧ a ≤ (bs.length : Int)) := ⟨by have := Oct.tkNum_ok bs 0 hby (by rw [hs]); rw [hs] at this; simp only at this; omega⟩
  clear hv hs t33
  go_enter Try.func13, Try.ntmps13
  go_upto_region 1 with (refine wp_newZ zero27 rfl rfl ?_; rw [Hr2.out, Hwa.out])
  go_wp2_with fail
  refine t0.mono ?_
  rintro e w' ⟨rfl, rfl⟩
  clear t0
  go_upto_region 4 with fail
  go_upto_region 5 with (first
    | (refine wp_build1 (t := 27) (u := .int .i64 3) (C := A0) rfl (.tmp 41) rfl rfl (hbu _) ?_)
    | (refine wp_newZ zero27 rfl rfl ?_; rw [Hr7.out])
    | (refine wpList_store_row rfl 27 (.tmp 7) (.tmp 42) rfl r7 A0 rfl rfl 27 zn (by rw [← Hr7.out]; exact heap_alloc_new wa _) HAs.out.1 HAs.out.2.2 HAs.out.2.1 ?_; rw [Hw2.out]))
  clear hbu
  have y0 : w2.cell? ⟨r7, 0, none⟩ = some (.int .i64 3) := by rw [HN2.out.c7, ← HA0.out]; rfl
  have d1 : decide ((3 : Int) ≤ 3 ∧ (3 : Int) ≤ 7) = true := by decide
  have tc := hasFile18 (w := w2) 3
  rw [d1] at tc
  go_wp2_with fail
  refine tc.mono ?_
  rintro e w' ⟨rfl, rfl⟩
  clear tc
  obtain ⟨⟨ps, j1, c1⟩, Hx⟩ : ∃ r, Hid (Oct.tkText bs a 32 = r) := ⟨_, ⟨rfl⟩⟩
  have tx := T34.out w2 a 32 HN2.out.bl
  rw [Hx.out] at tx
  simp only at tx
  go_wp2_with fail
  refine tx.mono ?_
  rintro e w4 ⟨v4, rfl, hO4, hB4⟩
  have HN4 : Hid (RtW w w4 r2 r7 A0) := ⟨HN2.out.call hB4⟩
  have HO4 := Hid.mk hO4
  obtain ⟨a4, k4, e4, _⟩ := OwnY.shape (show OwnY w4 w2.heap.size v4 ps from hO4)
  subst e4
  clear tx hO4 hB4 y0
  by_cases hc : c1 = 0
  · subst hc
    obtain ⟨nm, Hnm⟩ : ∃ r, Hid (strOfNums ps = r) := ⟨_, ⟨rfl⟩⟩
    have hcv : (convert 25 9 (.slice a4 ps.length k4)).run Try.prog w4 = .ok (.string nm) w4 := by rw [← Hnm.out]; exact bs_str (Oct.OwnB.bs HO4.out)
    obtain ⟨A1, HA1⟩ : ∃ x, Hid (na 3 nm 0 0 (.slice none 0 0) (.slice none 0 0) (.slice none 0 0) = x) := ⟨_, ⟨rfl⟩⟩
    have k7 : w4.cell? ⟨r7, 1, none⟩ = some (.string { data := #[] }) := by rw [HN4.out.c7, ← HA0.out]; rfl
    have f7 := HN4.out.f7 1
    obtain ⟨w5, Hw5⟩ : ∃ x, Hid (w4.setCell ⟨r7, 1, none⟩ (.string nm) = x) := ⟨_, ⟨rfl⟩⟩
    have HNw5 : Hid (RtW w w5 r2 r7 A1) := ⟨by rw [← Hw5.out]; exact HN4.out.set 1 _ (by rw [← HA0.out, ← HA1.out]; rfl)⟩
    have HGw5 : Hid (Chg [r7] w4 w5) := ⟨by rw [← Hw5.out]; exact (Chg.refl [r7] w4).setCell (.inl (by simp)) _⟩
    go_upto_region 12 with fail
    rw [Hw5.out]
    clear hcv k7 f7
    obtain ⟨⟨g, j2, c2⟩, Hg⟩ : ∃ r, Hid (Oct.tkNum bs j1 = r) := ⟨_, ⟨rfl⟩⟩
    have tg := T33.out w5 j1 HNw5.out.bl
    rw [Hg.out] at tg
    simp only at tg
    go_wp2_with fail
    refine tg.mono ?_
    rintro e w' ⟨rfl, rfl⟩
    clear tg
    obtain ⟨A2, HA2⟩ : ∃ x, Hid (na 3 nm g 0 (.slice none 0 0) (.slice none 0 0) (.slice none 0 0) = x) := ⟨_, ⟨rfl⟩⟩
    have k7 : w5.cell? ⟨r7, 2, none⟩ = some (.int .i64 0) := by rw [HNw5.out.c7, ← HA1.out]; rfl
    have f7 := HNw5.out.f7 2
    obtain ⟨w6, Hw6⟩ : ∃ x, Hid (w5.setCell ⟨r7, 2, none⟩ (.int .i64 g) = x) := ⟨_, ⟨rfl⟩⟩
    have HNw6 : Hid (RtW w w6 r2 r7 A2) := ⟨by rw [← Hw6.out]; exact HNw5.out.set 2 _ (by rw [← HA1.out, ← HA2.out]; rfl)⟩
    have HGw6 : Hid (Chg [r7] w5 w6) := ⟨by rw [← Hw6.out]; exact (Chg.refl [r7] w5).setCell (.inl (by simp)) _⟩
    go_upto_region 13 with fail
    rw [Hw6.out]
    clear k7 f7
    by_cases hc : c2 = 0
    · subst hc
      have Hat : Hid (0 ≤ j2 ∧ j2 ≤ (bs.length : Int)) := ⟨by have := Oct.tkNum_ok bs j1 hby (by rw [Hg.out]); rw [Hg.out] at this; simp only at this; omega⟩
      have y0 : w6.cell? ⟨r7, 0, none⟩ = some (.int .i64 3) := by rw [HNw6.out.c7, ← HA2.out]; rfl
      have d2 : decide ((3 : Int) = 6 ∨ (3 : Int) = 7) = false := by decide
      have tc := hasI19 (w := w6) 3
      rw [d2] at tc
      go_wp2_with fail
      refine tc.mono ?_
      rintro e w' ⟨rfl, rfl⟩
      clear tc
      have HVf : Hid (noteS bs (0, 0) = (⟨3, nm, g, 0, [], [], []⟩, (j2, 0))) := ⟨by rw [HVn.out]; unfold noteK; simp only [cond_true, cond_false, xS_ok Hx.out, nS_ok Hg.out, Hnm.out]⟩
      obtain ⟨n0, Hn0⟩ : ∃ x : Nt, Hid ((⟨3, nm, g, 0, [], [], []⟩ : Nt) = x) := ⟨_, ⟨rfl⟩⟩
      rw [Hn0.out] at HVf
      have HNi : Hid ((Try.prog.info? 27).map (·.size) = some A2.size ∧ A2.all (·.oneCell') = true ∧ zn.size = A2.size) := ⟨by rw [← HA2.out]; exact ⟨info27, na_one _ _ _ _ _ _ _ _ _ _ _ _ _, rfl⟩⟩
      have t9 := rcheck9 (w := w6) 3 nm g 0 none none none 0 0 0 0 0 0 [] [] ((OwnE.nil he 2 46 w6 0).rd h0) rfl ((OwnE.nil pe 33 49 w6 0).rd p0) rfl
      have HcN : Hid (chk 3 nm g 0 [] [] 0 = chkN n0) := ⟨by rw [← Hn0.out]; unfold chkN; rfl⟩
      rw [HcN.out, HA2.out] at t9
      obtain ⟨z, Hz⟩ : ∃ z, Hid (chkN n0 = z) := ⟨_, ⟨rfl⟩⟩
      rw [Hz.out] at t9
      go_upto_region 60 with fail
      clear y0
      go_wp2_with (refine wp_load rfl 27 (.tmp 7) rfl r7 rfl A2 27 (0, 0) _ HNw6.out.z7 Try.underlying27 rfl HNi.out.1 ?_)
      refine t9.mono ?_
      rintro e wm ⟨rfl, hBm⟩
      have HNm : Hid (RtW w wm r2 r7 A2) := ⟨HNw6.out.call hBm⟩
      have HGm : Hid (Chg [] w6 wm) := ⟨Chg.ofBelow hBm⟩
      clear t9 hBm
      by_cases hz : z = 0
      · subst hz
        by_cases hat : j2 < (nb : Int)
        · have HVl : Hid (R = (zN, 4)) := ⟨by rw [← HR.out]; exact tkN_form HVf.out Hz.out (by rw [Hnb.out]; exact hat)⟩
          obtain ⟨w9, Hw9⟩ : ∃ x, Hid (wm.setRow r2 zn = x) := ⟨_, ⟨rfl⟩⟩
          have Hz9 : Hid (w9.heap[r2]? = some (.cells zn 27 (0, 0))) := ⟨by rw [← Hw9.out]; exact setRow_heap _ _ zn _ 27 (0, 0) HNm.out.z2⟩
          have HE : Hid (TakeP w w9 R.1 R.2 (.returned (.tuple #[.agg zn, .int .i64 4]))) := ⟨by rw [← Hw9.out]; exact leaf_end HNm.out HVl.out⟩
          go_upto_region 64 with fail
          go_wp2_with (refine wpList_store_row rfl 27 (.tmp 2) (.tmp 237) rfl r2 zn rfl rfl 27 zn HNm.out.z2 zn_info rfl zn_one ?_; rw [Hw9.out])
          refine bodyPost_ret (v := .tuple #[.agg zn, .int .i64 4]) (results_row_tmp Try.results13 _ _ r2 27 zn (0, 0) _ (by kernel_rfl) Hz9.out Try.underlying27 rfl zn_info) rfl ?_
          exact HE.out
        · have HVl : Hid (R = (n0, 0)) := ⟨by rw [← HR.out]; exact tkN_ok HVf.out Hz.out (by rw [Hnb.out]; exact hat)⟩
          obtain ⟨w9, Hw9⟩ : ∃ x, Hid (wm.setRow r2 A2 = x) := ⟨_, ⟨rfl⟩⟩
          have Hz9 : Hid (w9.heap[r2]? = some (.cells A2 27 (0, 0))) := ⟨by rw [← Hw9.out]; exact setRow_heap _ _ zn _ 27 (0, 0) HNm.out.z2⟩
          have HG9 : Hid (Chg [r2] wm w9) := ⟨by rw [← Hw9.out]; exact ⟨rfl, rfl, rfl, by simp, fun k hk hx => setRow_other _ _ k _ (by simpa using hx)⟩⟩
          have HB9 : Hid (Below w.heap.size w w9) := ⟨by rw [← Hw9.out]; exact below_res HNm.out.bl HNm.out.ne.1 _⟩
          go_upto_region 65 with fail
          go_wp2_with (first
            | (refine wp_load rfl 27 (.tmp 7) rfl r7 rfl A2 27 (0, 0) _ HNm.out.z7 Try.underlying27 rfl HNi.out.1 ?_)
            | (refine wpList_store_row rfl 27 (.tmp 2) (.tmp 238) rfl r2 A2 rfl rfl 27 zn HNm.out.z2 HNi.out.1 HNi.out.2.2 HNi.out.2.1 ?_; rw [Hw9.out]))
          refine bodyPost_ret (v := .tuple #[.agg A2, .int .i64 0]) (results_row_tmp Try.results13 _ _ r2 27 A2 (0, 0) _ (by kernel_rfl) Hz9.out Try.underlying27 rfl HNi.out.1) rfl ?_
          rw [HVl.out, ← HA2.out, ← Hn0.out]
          exact ⟨none, 0, none, 0, none, 0, rfl, OwnE.nil _ _ _ _ _, OwnE.nil _ _ _ _ _, owny_nil _ _, HB9.out⟩
      · have hz' : (z != 0) = true := by simpa using hz
        have HVl : Hid (R = (zN, z)) := ⟨by rw [← HR.out, ← Hz.out]; exact tkN_chk HVf.out (by rw [Hz.out]; exact hz)⟩
        obtain ⟨w9, Hw9⟩ : ∃ x, Hid (wm.setRow r2 zn = x) := ⟨_, ⟨rfl⟩⟩
        have Hz9 : Hid (w9.heap[r2]? = some (.cells zn 27 (0, 0))) := ⟨by rw [← Hw9.out]; exact setRow_heap _ _ zn _ 27 (0, 0) HNm.out.z2⟩
        have HE : Hid (TakeP w w9 R.1 R.2 (.returned (.tuple #[.agg zn, .int .i64 z]))) := ⟨by rw [← Hw9.out]; exact leaf_end HNm.out HVl.out⟩
        go_upto_region 62 with fail
        go_wp2_with (refine wpList_store_row rfl 27 (.tmp 2) (.tmp 231) rfl r2 zn rfl rfl 27 zn HNm.out.z2 zn_info rfl zn_one ?_; rw [Hw9.out])
        refine bodyPost_ret (v := .tuple #[.agg zn, .int .i64 z]) (results_row_tmp Try.results13 _ _ r2 27 zn (0, 0) _ (by kernel_rfl) Hz9.out Try.underlying27 rfl zn_info) rfl ?_
        exact HE.out
    · have hc' : (c2 != 0) = true := by simpa using hc
      have HVl : Hid (R = (zN, c2)) := ⟨by rw [← HR.out]; exact tkN_of (st := (j1, c2)) (by rw [HVn.out]; exact fG (st := (j1, c2)) (by show (nS bs (xS bs 32 (a, 0)).2).2 = _; rw [xS_ok Hx.out, nS_no Hg.out hc]) hc) hc⟩
      obtain ⟨w9, Hw9⟩ : ∃ x, Hid (w6.setRow r2 zn = x) := ⟨_, ⟨rfl⟩⟩
      have Hz9 : Hid (w9.heap[r2]? = some (.cells zn 27 (0, 0))) := ⟨by rw [← Hw9.out]; exact setRow_heap _ _ zn _ 27 (0, 0) HNw6.out.z2⟩
      have HE : Hid (TakeP w w9 R.1 R.2 (.returned (.tuple #[.agg zn, .int .i64 c2]))) := ⟨by rw [← Hw9.out]; exact leaf_end HNw6.out HVl.out⟩
      go_upto_region 14 with fail
      go_wp2_with (refine wpList_store_row rfl 27 (.tmp 2) (.tmp 77) rfl r2 zn rfl rfl 27 zn HNw6.out.z2 zn_info rfl zn_one ?_; rw [Hw9.out])
      refine bodyPost_ret (v := .tuple #[.agg zn, .int .i64 c2]) (results_row_tmp Try.results13 _ _ r2 27 zn (0, 0) _ (by kernel_rfl) Hz9.out Try.underlying27 rfl zn_info) rfl ?_
      exact HE.out
  · have hc' : (c1 != 0) = true := by simpa using hc
    have HVl : Hid (R = (zN, c1)) := ⟨by rw [← HR.out]; exact tkN_of (st := (a, c1)) (by rw [HVn.out]; exact fP (st := (a, c1)) (by show (xS bs 32 (a, 0)).2 = _; rw [xS_no Hx.out hc]) hc) hc⟩
    obtain ⟨w9, Hw9⟩ : ∃ x, Hid (w4.setRow r2 zn = x) := ⟨_, ⟨rfl⟩⟩
    have Hz9 : Hid (w9.heap[r2]? = some (.cells zn 27 (0, 0))) := ⟨by rw [← Hw9.out]; exact setRow_heap _ _ zn _ 27 (0, 0) HN4.out.z2⟩
    have HE : Hid (TakeP w w9 R.1 R.2 (.returned (.tuple #[.agg zn, .int .i64 c1]))) := ⟨by rw [← Hw9.out]; exact leaf_end HN4.out HVl.out⟩
    go_upto_region 10 with fail
    go_wp2_with (refine wpList_store_row rfl 27 (.tmp 2) (.tmp 62) rfl r2 zn rfl rfl 27 zn HN4.out.z2 zn_info rfl zn_one ?_; rw [Hw9.out])
    refine bodyPost_ret (v := .tuple #[.agg zn, .int .i64 c1]) (results_row_tmp Try.results13 _ _ r2 27 zn (0, 0) _ (by kernel_rfl) Hz9.out Try.underlying27 rfl zn_info) rfl ?_
    exact HE.out
end
end Go.Proofs.Ythohpbppfihoiaa

/- The document's Take: kind 4. -/
namespace Go.Proofs.Ythohpbppfihoiaa
open Go.RowKit Go.Lib

section
variable {w : World}
set_option maxHeartbeats 16000000 in
set_option maxRecDepth 100000 in
theorem rtake_4 (v : Value) (bs : List Int) (hv : Oct.Bs w v bs) (hby : ∀ x ∈ bs, 0 ≤ x ∧ x < 256) (hl : bs.length ≤ 140737488355328) (a : Int) (hs : Oct.tkNum bs 0 = (4, a, 0)) :
    Calls Try.prog 13 #[v] w fun e w' => TakeP w w' (tkN bs).1 (tkN bs).2 e := by
  have HO : Hid (Old w.heap.size w v bs) := ⟨fun wx h => hv.below h⟩
  have hb0 := hv
  obtain ⟨va, vc, rfl, _, hvm, _⟩ := hb0
  obtain ⟨nb, Hnb⟩ : ∃ n, Hid (bs.length = n) := ⟨_, ⟨rfl⟩⟩
  rw [Hnb.out] at HO
  rw [Hnb.out]
  have t33 : ∀ (W : World) (i : Int), Below w.heap.size w W → Calls Try.prog 33 #[.slice va nb vc, .int .i64 i] W fun e w' => e = .returned (.tuple #[.int .i64 (Oct.tkNum bs i).1, .int .i64 (Oct.tkNum bs i).2.1, .int .i64 (Oct.tkNum bs i).2.2]) ∧ W = w' := fun W i h => Oct.rtakeNum_any _ bs i W (HO.out.on h).at hby
  have t34 : ∀ (W : World) (i m : Int), Below w.heap.size w W → Calls Try.prog 34 #[.slice va nb vc, .int .i64 i, .int .i64 m] W fun e w' => ∃ v', e = .returned (.tuple #[v', .int .i64 (Oct.tkText bs i m).2.1, .int .i64 (Oct.tkText bs i m).2.2]) ∧ Oct.OwnB w' W.heap.size 5 v' (Oct.tkText bs i m).1 ∧ Below W.heap.size W w' := fun W i m h => Oct.rtakeText_any _ bs i m W (HO.out.on h).at hby hl
  have T34 := Hid.mk t34
  clear t34
  have T33 := Hid.mk t33
  obtain ⟨r2, Hr2⟩ : ∃ x, Hid (w.heap.size = x) := ⟨_, ⟨rfl⟩⟩
  obtain ⟨wa, Hwa⟩ : ∃ x, Hid (w.alloc (.cells zn 27) = x) := ⟨_, ⟨rfl⟩⟩
  have HBa : Hid (Below w.heap.size w wa) := ⟨by rw [← Hwa.out]; exact (Below.refl _ w).alloc (Nat.le_refl _) _⟩
  have Hz2a : Hid (wa.heap[r2]? = some (.cells zn 27 (0, 0))) := ⟨by rw [← Hwa.out, ← Hr2.out]; exact heap_alloc_new w _⟩
  have t0 := t33 wa 0 HBa.out
  obtain ⟨R, HR⟩ : ∃ R, Hid (tkN bs = R) := ⟨_, ⟨rfl⟩⟩
  rw [HR.out]
  rw [hs] at t0
  simp only at t0
  obtain ⟨r7, Hr7⟩ : ∃ x, Hid (wa.heap.size = x) := ⟨_, ⟨rfl⟩⟩
  obtain ⟨A0, HA0⟩ : ∃ x, Hid (na 4 { data := #[] } 0 0 (.slice none 0 0) (.slice none 0 0) (.slice none 0 0) = x) := ⟨_, ⟨rfl⟩⟩
  have HAs : Hid ((Try.prog.info? 27).map (·.size) = some A0.size ∧ A0.all (·.oneCell') = true ∧ zn.size = A0.size) := ⟨by rw [← HA0.out]; exact ⟨info27, na_one _ _ _ _ _ _ _ _ _ _ _ _ _, rfl⟩⟩
  have hbu : ∀ W : World, (Instr.build 27 #[(0, .int .i64 4)]).run Try.prog W = .ok (.agg A0) W := fun W => by rw [← HA0.out]; exact run_build27 _ W
  obtain ⟨w2, Hw2⟩ : ∃ x, Hid ((wa.alloc (.cells zn 27)).setRow r7 A0 = x) := ⟨_, ⟨rfl⟩⟩
  have HBb : Hid (Below wa.heap.size wa w2) := ⟨by rw [← Hw2.out, ← Hr7.out]; exact below_setRow ((Below.refl _ wa).alloc (Nat.le_refl _) _) (Nat.le_refl _) _⟩
  have Hr27 : Hid (r2 < r7) := ⟨by rw [← Hr7.out, ← Hwa.out, ← Hr2.out]; simp⟩
  have HN2 : Hid (RtW w w2 r2 r7 A0) := ⟨⟨HBa.out.trans (HBb.out.mono HBa.out.size), (HBb.out.block r2 (by rw [Hr7.out]; exact Hr27.out)).trans Hz2a.out, by rw [← Hw2.out, ← Hr7.out]; exact setRow_heap _ _ zn _ 27 (0, 0) (heap_alloc_new wa _), ⟨by rw [Hr2.out]; exact Nat.le_refl _, Hr27.out⟩⟩⟩
  have HVn : Hid (noteS bs (0, 0) = noteK (true, false, false, true, false) bs 4 (a, 0)) := ⟨by unfold noteS; rw [nS_ok hs]; rfl⟩
  have Hat0 : Hid (0 ≤ a ∧ a ≤ (bs.length : Int)) := ⟨by have := Oct.tkNum_ok bs 0 hby (by rw [hs]); rw [hs] at this; simp only at this; omega⟩
  clear hv hs t33
  go_enter Try.func13, Try.ntmps13
  go_upto_region 1 with (refine wp_newZ zero27 rfl rfl ?_; rw [Hr2.out, Hwa.out])
  go_wp2_with fail
  refine t0.mono ?_
  rintro e w' ⟨rfl, rfl⟩
  clear t0
  go_upto_region 4 with fail
  go_upto_region 5 with (first
    | (refine wp_build1 (t := 27) (u := .int .i64 4) (C := A0) rfl (.tmp 41) rfl rfl (hbu _) ?_)
    | (refine wp_newZ zero27 rfl rfl ?_; rw [Hr7.out])
    | (refine wpList_store_row rfl 27 (.tmp 7) (.tmp 42) rfl r7 A0 rfl rfl 27 zn (by rw [← Hr7.out]; exact heap_alloc_new wa _) HAs.out.1 HAs.out.2.2 HAs.out.2.1 ?_; rw [Hw2.out]))
  clear hbu
  have y0 : w2.cell? ⟨r7, 0, none⟩ = some (.int .i64 4) := by rw [HN2.out.c7, ← HA0.out]; rfl
  have d1 : decide ((3 : Int) ≤ 4 ∧ (4 : Int) ≤ 7) = true := by decide
  have tc := hasFile18 (w := w2) 4
  rw [d1] at tc
  go_wp2_with fail
  refine tc.mono ?_
  rintro e w' ⟨rfl, rfl⟩
  clear tc
  obtain ⟨⟨ps, j1, c1⟩, Hx⟩ : ∃ r, Hid (Oct.tkText bs a 32 = r) := ⟨_, ⟨rfl⟩⟩
  have tx := T34.out w2 a 32 HN2.out.bl
  rw [Hx.out] at tx
  simp only at tx
  go_wp2_with fail
  refine tx.mono ?_
  rintro e w4 ⟨v4, rfl, hO4, hB4⟩
  have HN4 : Hid (RtW w w4 r2 r7 A0) := ⟨HN2.out.call hB4⟩
  have HO4 := Hid.mk hO4
  obtain ⟨a4, k4, e4, _⟩ := OwnY.shape (show OwnY w4 w2.heap.size v4 ps from hO4)
  subst e4
  clear tx hO4 hB4 y0
  by_cases hc : c1 = 0
  · subst hc
    obtain ⟨nm, Hnm⟩ : ∃ r, Hid (strOfNums ps = r) := ⟨_, ⟨rfl⟩⟩
    have hcv : (convert 25 9 (.slice a4 ps.length k4)).run Try.prog w4 = .ok (.string nm) w4 := by rw [← Hnm.out]; exact bs_str (Oct.OwnB.bs HO4.out)
    obtain ⟨A1, HA1⟩ : ∃ x, Hid (na 4 nm 0 0 (.slice none 0 0) (.slice none 0 0) (.slice none 0 0) = x) := ⟨_, ⟨rfl⟩⟩
    have k7 : w4.cell? ⟨r7, 1, none⟩ = some (.string { data := #[] }) := by rw [HN4.out.c7, ← HA0.out]; rfl
    have f7 := HN4.out.f7 1
    obtain ⟨w5, Hw5⟩ : ∃ x, Hid (w4.setCell ⟨r7, 1, none⟩ (.string nm) = x) := ⟨_, ⟨rfl⟩⟩
    have HNw5 : Hid (RtW w w5 r2 r7 A1) := ⟨by rw [← Hw5.out]; exact HN4.out.set 1 _ (by rw [← HA0.out, ← HA1.out]; rfl)⟩
    have HGw5 : Hid (Chg [r7] w4 w5) := ⟨by rw [← Hw5.out]; exact (Chg.refl [r7] w4).setCell (.inl (by simp)) _⟩
    go_upto_region 12 with fail
    rw [Hw5.out]
    clear hcv k7 f7
    obtain ⟨⟨g, j2, c2⟩, Hg⟩ : ∃ r, Hid (Oct.tkNum bs j1 = r) := ⟨_, ⟨rfl⟩⟩
    have tg := T33.out w5 j1 HNw5.out.bl
    rw [Hg.out] at tg
    simp only at tg
    go_wp2_with fail
    refine tg.mono ?_
    rintro e w' ⟨rfl, rfl⟩
    clear tg
    obtain ⟨A2, HA2⟩ : ∃ x, Hid (na 4 nm g 0 (.slice none 0 0) (.slice none 0 0) (.slice none 0 0) = x) := ⟨_, ⟨rfl⟩⟩
    have k7 : w5.cell? ⟨r7, 2, none⟩ = some (.int .i64 0) := by rw [HNw5.out.c7, ← HA1.out]; rfl
    have f7 := HNw5.out.f7 2
    obtain ⟨w6, Hw6⟩ : ∃ x, Hid (w5.setCell ⟨r7, 2, none⟩ (.int .i64 g) = x) := ⟨_, ⟨rfl⟩⟩
    have HNw6 : Hid (RtW w w6 r2 r7 A2) := ⟨by rw [← Hw6.out]; exact HNw5.out.set 2 _ (by rw [← HA1.out, ← HA2.out]; rfl)⟩
    have HGw6 : Hid (Chg [r7] w5 w6) := ⟨by rw [← Hw6.out]; exact (Chg.refl [r7] w5).setCell (.inl (by simp)) _⟩
    go_upto_region 13 with fail
    rw [Hw6.out]
    clear k7 f7
    by_cases hc : c2 = 0
    · subst hc
      have Hat : Hid (0 ≤ j2 ∧ j2 ≤ (bs.length : Int)) := ⟨by have := Oct.tkNum_ok bs j1 hby (by rw [Hg.out]); rw [Hg.out] at this; simp only at this; omega⟩
      have y0 : w6.cell? ⟨r7, 0, none⟩ = some (.int .i64 4) := by rw [HNw6.out.c7, ← HA2.out]; rfl
      have d2 : decide ((4 : Int) = 6 ∨ (4 : Int) = 7) = false := by decide
      have tc := hasI19 (w := w6) 4
      rw [d2] at tc
      go_wp2_with fail
      refine tc.mono ?_
      rintro e w' ⟨rfl, rfl⟩
      clear tc
      obtain ⟨⟨cnt, j3, c3⟩, Hi⟩ : ∃ r, Hid (Oct.tkNum bs j2 = r) := ⟨_, ⟨rfl⟩⟩
      have ti := T33.out w6 j2 HNw6.out.bl
      rw [Hi.out] at ti
      simp only at ti
      go_wp2_with fail
      refine ti.mono ?_
      rintro e w' ⟨rfl, rfl⟩
      clear ti
      by_cases hc : c3 = 0
      · subst hc
        have Hnk := Oct.tkNum_ok bs j2 hby (by rw [Hi.out])
        rw [Hi.out] at Hnk
        simp only at Hnk
        obtain ⟨m, rfl⟩ := Int.eq_ofNat_of_zero_le Hnk.2.1
        have hm9 : m ≤ 9007199254740991 := by omega
        have Hj3 : Hid (InS bs (j3, 0)) := ⟨⟨by simp only; omega, by simp only; omega⟩⟩
        by_cases hbig : 256 < m
        · have hb1 : decide ((256 : Int) < (m : Int)) = true := decide_eq_true (by omega)
          have HVl : Hid (R = (zN, 6)) := ⟨by rw [← HR.out]; exact tkN_of (st := (j3, 6)) (by rw [HVn.out]; exact fQ (st := (j3, 6)) (by show (lS bs 256 (pS bs) (nS bs (xS bs 32 (a, 0)).2).2).2 = _; rw [xS_ok Hx.out, nS_ok Hg.out, lS_big (nS_ok Hi.out) (by omega)]) (by simp)) (by simp)⟩
          obtain ⟨w9, Hw9⟩ : ∃ x, Hid (w6.setRow r2 zn = x) := ⟨_, ⟨rfl⟩⟩
          have Hz9 : Hid (w9.heap[r2]? = some (.cells zn 27 (0, 0))) := ⟨by rw [← Hw9.out]; exact setRow_heap _ _ zn _ 27 (0, 0) HNw6.out.z2⟩
          have HE : Hid (TakeP w w9 R.1 R.2 (.returned (.tuple #[.agg zn, .int .i64 6]))) := ⟨by rw [← Hw9.out]; exact leaf_end HNw6.out HVl.out⟩
          go_upto_region 26 with fail
          go_wp2_with (refine wpList_store_row rfl 27 (.tmp 2) (.tmp 126) rfl r2 zn rfl rfl 27 zn HNw6.out.z2 zn_info rfl zn_one ?_; rw [Hw9.out])
          refine bodyPost_ret (v := .tuple #[.agg zn, .int .i64 6]) (results_row_tmp Try.results13 _ _ r2 27 zn (0, 0) _ (by kernel_rfl) Hz9.out Try.underlying27 rfl zn_info) rfl ?_
          exact HE.out
        · have hb2 : decide ((256 : Int) < (m : Int)) = false := decide_eq_false (by omega)
          have HLs : Hid (lS bs 256 (pS bs) (j2, 0) = rep (pS bs) m (j3, 0)) := ⟨by rw [lS_small (nS_ok Hi.out) (by omega)]⟩
          have hmb : m ≤ 256 := by omega
          obtain ⟨zl, Hzl⟩ : ∃ x, Hid (w6.heap.size = x) := ⟨_, ⟨rfl⟩⟩
          have Hzr : Hid (r2 < zl ∧ r7 < zl) := ⟨by rw [← Hzl.out]; have h1 := (Array.getElem?_eq_some_iff.1 HNw6.out.z7).1; have h2 := HNw6.out.ne; omega⟩
          have HzB : Hid (w.heap.size ≤ zl) := ⟨by rw [← Hzl.out]; exact HNw6.out.bl.size⟩
          go_wp2_with fail
          clear y0
          go_loopg [5, 17] m (fun gg s5 s17 wr => ∃ (P : List Pt) (i1 : Int) (al : Option Addr) (cl : Nat), P.length ≤ m ∧ m - P.length ≤ gg ∧ s5 = .int .i64 i1 ∧ s17 = .int .i64 (P.length : Int) ∧ Hid (RtW w wr r2 r7 (na 4 nm g 0 (.slice none 0 0) (.slice al (P).length cl) (.slice none 0 0))) ∧ Hid (OwnE pe 33 49 wr zl (.slice al P.length cl) P) ∧ Hid (zl ≤ wr.heap.size) ∧ Hid (rep (pS bs) m (j3, 0) = (P ++ (rep (pS bs) (m - P.length) (i1, 0)).1, (rep (pS bs) (m - P.length) (i1, 0)).2)) ∧ Hid (InS bs (i1, 0)))
          case atStart => exact ⟨[], j3, none, 0, Nat.zero_le _, by simp, rfl, rfl, ⟨by rw [← HA2.out] at HNw6; exact HNw6.out⟩, ⟨OwnE.nil _ _ _ _ _⟩, ⟨by rw [Hzl.out]; exact Nat.le_refl _⟩, ⟨by simp⟩, Hj3⟩
          case round =>
            obtain ⟨P, i1, al, cl, hL, hgg, rfl, rfl, HNo, HOl_wo, Hzo, HRp, HIo⟩ := hrel
            rename World => wo
            obtain ⟨nl, Hnl⟩ : ∃ k, Hid (P.length = k) := ⟨_, ⟨rfl⟩⟩
            rw [Hnl.out] at hL hgg HNo HOl_wo HRp
            rw [Hnl.out]
            obtain ⟨A9, HA9⟩ : ∃ x, Hid (na 4 nm g 0 (.slice none 0 0) (.slice al nl cl) (.slice none 0 0) = x) := ⟨_, ⟨rfl⟩⟩
            rw [HA9.out] at HNo
            have y0 : wo.cell? ⟨r7, 0, none⟩ = some (.int .i64 4) := by rw [HNo.out.c7, ← HA9.out]; rfl
            by_cases hlt : nl < m
            · have hltz : (nl : Int) < (m : Int) := by omega
              have HRs := Hid.mk (rep_ok (pS bs) (m - (nl + 1)) (i1, 0) rfl)
              have HNk : Hid (m - nl = m - (nl + 1) + 1) := ⟨by omega⟩
              rw [HNk.out, HRs.out] at HRp
              have Hfl : Hid (∀ st : St, (pS bs (i1, 0)).2 = st → st.2 ≠ 0 → (noteS bs (0, 0)).2 = st) := ⟨fun st h h0 => by
                rw [HVn.out]
                refine fQ (st := st) ?_ h0
                show (lS bs 256 (pS bs) (nS bs (xS bs 32 (a, 0)).2).2).2 = _
                rw [xS_ok Hx.out, nS_ok Hg.out, HLs.out, HRp.out]
                show (rep (pS bs) (m - (nl + 1)) (pS bs (i1, 0)).2).2 = st
                rw [h, rep_stop _ _ _ h0]⟩
              obtain ⟨h, Hh⟩ : ∃ x, Hid (wo.heap.size = x) := ⟨_, ⟨rfl⟩⟩
              have Hhz : Hid (zl ≤ h ∧ r7 < h ∧ r2 < h) := ⟨by have h1 := Hzo.out; have h2 := Hzr.out; rw [Hh.out] at h1; omega⟩
              obtain ⟨ii, rfl⟩ := Int.eq_ofNat_of_zero_le HIo.out.1
              have hii : ii ≤ nb := by have h1 := HIo.out.2; have h2 := Hnb.out; simp only at h1; omega
              obtain ⟨mm, Hmm⟩ : ∃ x, Hid (nb - ii = x) := ⟨_, ⟨rfl⟩⟩
              have hsub : (nb : Int) - (ii : Int) = (mm : Int) := by rw [← Hmm.out]; omega
              have hnb63 : nb ≤ 9223372036854775807 := by rw [← Hnb.out]; omega
              have hmw : IntKind.i64.wrap (mm : Int) = (mm : Int) := IntWalk.i64_in _ ⟨by omega, by rw [← Hmm.out]; omega⟩
              by_cases hsh : nb < ii + 32
              · have hlt32 : (mm : Int) < 32 := by rw [← Hmm.out]; omega
                have Hst : Hid ((pS bs ((ii : Int), 0)).2 = ((ii : Int), 3)) := ⟨by unfold pS; rw [sS_short (by rw [Hnb.out]; exact hsh)]; exact congrArg Prod.snd (nS_f (by simp))⟩
                have HVl : Hid (R = (zN, 3)) := ⟨by rw [← HR.out]; exact tkN_of (st := ((ii : Int), 3)) (Hfl.out _ Hst.out (by simp)) (by simp)⟩
                obtain ⟨w9, Hw9⟩ : ∃ x, Hid (wo.setRow r2 zn = x) := ⟨_, ⟨rfl⟩⟩
                have Hz9 : Hid (w9.heap[r2]? = some (.cells zn 27 (0, 0))) := ⟨by rw [← Hw9.out]; exact setRow_heap _ _ zn _ 27 (0, 0) HNo.out.z2⟩
                have HE : Hid (TakeP w w9 R.1 R.2 (.returned (.tuple #[.agg zn, .int .i64 3]))) := ⟨by rw [← Hw9.out]; exact leaf_end HNo.out HVl.out⟩
                go_upto_region 42 with fail
                go_wp2_with (refine wpList_store_row rfl 27 (.tmp 2) (.tmp 174) rfl r2 zn rfl rfl 27 zn HNo.out.z2 zn_info rfl zn_one ?_; rw [Hw9.out])
                refine bodyPost_ret (v := .tuple #[.agg zn, .int .i64 3]) (results_row_tmp Try.results13 _ _ r2 27 zn (0, 0) _ (by kernel_rfl) Hz9.out Try.underlying27 rfl zn_info) rfl ?_
                exact HE.out
              · have hlt32 : ¬ (mm : Int) < 32 := by rw [← Hmm.out]; omega
                have Hlong : Hid (ii + 32 ≤ bs.length) := ⟨by rw [Hnb.out]; omega⟩
                have hb0 := HO.out.at
                rcases hb0.cases with ⟨e, _⟩ | ⟨_, bb, off, cap, e, hbl, hbm, _, hcell⟩
                · exfalso; rw [e] at Hnb; have := Hnb.out; simp at this; omega
                rw [Hnb.out] at e hcell hbl
                simp only [Value.slice.injEq] at e
                obtain ⟨rfl, -, rfl⟩ := e
                have Hcell : Hid (∀ wx, Below w.heap.size w wx → ∀ i, i < nb → wx.cell? ⟨bb, off + i, none⟩ = some (.int .u8 (bs.getD i 0))) := ⟨fun wx hx i hi => by
                  rw [← hcell i hi]
                  exact World.cell?_of_block (hx.block bb (World.block_lt_of_cell? _ _ (hcell i hi)))⟩
                clear hcell hb0
                obtain ⟨w3, Hw3⟩ : ∃ x, Hid ((wo.alloc (.cells (pe pz).toArray 49)).setRow h (pe pz).toArray = x) := ⟨_, ⟨rfl⟩⟩
                have HB3 : Hid (Below wo.heap.size wo w3) := ⟨by rw [← Hw3.out, ← Hh.out]; exact below_setRow ((Below.refl _ wo).alloc (Nat.le_refl _) _) (Nat.le_refl _) _⟩
                have Hz3 : Hid (w3.heap[h]? = some (.cells (pe pz).toArray 49 (0, 0))) := ⟨by rw [← Hw3.out, ← Hh.out]; exact setRow_heap _ _ (pe pz).toArray _ 49 (0, 0) (heap_alloc_new wo _)⟩
                have HN3 : Hid (RtW w w3 r2 r7 A9) := ⟨HNo.out.call HB3.out⟩
                have HO_w3 : Hid (OwnE pe 33 49 w3 zl (.slice al nl cl) P) := ⟨HOl_wo.out.far (Chg.ofBelow (X := []) HB3.out) (by simp)⟩
                have zP1 : (pe pz).toArray.all (·.oneCell') = true := by simp [pe, pz, Value.oneCell']
                go_upto_region 44 with (first
                  | (refine wp_newZ zero49 rfl rfl ?_; rw [Hh.out])
                  | (refine wpList_store_row rfl 49 (.tmp 22) (.tmp 175) rfl h (pe pz).toArray rfl rfl 49 (pe pz).toArray (by rw [← Hh.out]; exact heap_alloc_new wo _) info49 rfl zP1 ?_; rw [Hw3.out]))
                clear y0 zP1 hlt32 hsub hmw
                have Hnot : Hid (∀ g ∈ ob (Value.slice al nl cl), g ∉ [h]) := ⟨fun g hg hm => by simp at hm; have h1 := (HOl_wo.out.lt g hg).2; have h2 := Hh.out; omega⟩
                go_wp2_with fail
                go_loopg [23] 32 (fun gg s23 wr => ∃ j : Nat, j ≤ 32 ∧ 32 - j ≤ gg ∧ s23 = .int .i64 (j : Int) ∧ Hid (Chg [h] w3 wr) ∧ Hid (wr.heap[h]? = some (.cells (blk bs ii j) 49 (0, 0))))
                case atStart => exact ⟨0, Nat.zero_le _, by omega, rfl, ⟨Chg.refl _ _⟩, ⟨by rw [blk_zero]; exact Hz3.out⟩⟩
                case round =>
                  obtain ⟨j, hj, hgj, rfl, HGj, Hzj⟩ := hrel
                  rename World => wj
                  have HNj : Hid (RtW w wj r2 r7 A9) := ⟨HN3.out.other HGj.out (by simp; exact Hhz.out.2.1)⟩
                  by_cases hjl : j < 32
                  · have hjz : (j : Int) < 32 := by omega
                    obtain ⟨sj, Hsj⟩ : ∃ x, Hid (ii + j = x) := ⟨_, ⟨rfl⟩⟩
                    have hadd : (ii : Int) + (j : Int) = (sj : Int) := by rw [← Hsj.out]; omega
                    have hsn : (sj : Int) < (nb : Int) := by rw [← Hsj.out]; omega
                    have hsn' : sj < nb := by omega
                    have haw : IntKind.i64.wrap (sj : Int) = (sj : Int) := IntWalk.i64_in _ ⟨by omega, by omega⟩
                    have cb : wj.cell? ⟨bb, off + sj, none⟩ = some (.int .u8 (bs.getD sj 0)) := Hcell.out wj HNj.out.bl sj hsn'
                    have hbs : (blk bs ii j).size = 33 := blk_size hj Hlong.out
                    obtain ⟨old, Hold⟩ : ∃ v, Hid ((blk bs ii j)[j]? = some v) := ⟨_, ⟨Array.getElem?_eq_getElem (by omega)⟩⟩
                    have ch : wj.cell? ⟨h, j, none⟩ = some old := by rw [cell_of_row _ _ _ _ _ _ Hzj.out]; exact Hold.out
                    have fh : wj.frozen? ⟨h, j, none⟩ = false := frozen_of_row wj h j _ 49 Hzj.out
                    have Hby8 : Hid (0 ≤ bs.getD sj 0 ∧ bs.getD sj 0 < 256) := ⟨by
                      have : bs.getD sj 0 ∈ bs := getD_mem' (by rw [Hnb.out]; exact hsn')
                      exact hby _ this⟩
                    obtain ⟨bv, Hbv⟩ : ∃ x, Hid (bs.getD sj 0 = x) := ⟨_, ⟨rfl⟩⟩
                    rw [Hbv.out] at cb
                    have HGk : Hid (Chg [h] w3 (wj.setCell ⟨h, j, none⟩ (.int .u8 bv))) := ⟨HGj.out.setCell (.inl (by simp)) _⟩
                    have Hzk : Hid ((wj.setCell ⟨h, j, none⟩ (.int .u8 bv)).heap[h]? = some (.cells (blk bs ii (j + 1)) 49 (0, 0))) := ⟨by rw [heap_setCell_same wj h j _ 49 _ Hzj.out, ← Hbv.out, ← Hsj.out, blk_step hjl Hlong.out]⟩
                    clear hbs
                    go_wp2_with fail
                    go_roundg (32 - (j + 1))
                    case measure => omega
                    case rel => exact ⟨j + 1, by omega, by omega, by go_num, HGk, Hzk⟩
                  · obtain rfl : j = 32 := by omega
                    have hadd : IntKind.i64.wrap ((ii : Int) + 32) = (ii : Int) + 32 := IntWalk.i64_in _ ⟨by omega, by have := Hlong.out; rw [Hnb.out] at this; omega⟩
                    obtain ⟨⟨yn, jn, cy⟩, Hg⟩ : ∃ r, Hid (Oct.tkNum bs ((ii : Int) + 32) = r) := ⟨_, ⟨rfl⟩⟩
                    have tg := T33.out wj ((ii : Int) + 32) HNj.out.bl
                    rw [Hg.out] at tg
                    simp only at tg
                    go_wp2_with fail
                    refine tg.mono ?_
                    rintro e w' ⟨rfl, rfl⟩
                    clear tg hadd
                    by_cases hc : cy = 0
                    · subst hc
                      obtain ⟨old, Hold⟩ : ∃ v, Hid ((blk bs ii 32)[32]? = some v) := ⟨_, ⟨Array.getElem?_eq_getElem (by rw [blk_size (Nat.le_refl _) Hlong.out]; decide)⟩⟩
                      have k7 : wj.cell? ⟨h, 32, none⟩ = some old := by rw [cell_of_row _ _ _ _ _ _ Hzj.out]; exact Hold.out
                      have f7 : wj.frozen? ⟨h, 32, none⟩ = false := frozen_of_row wj h 32 _ 49 Hzj.out
                      obtain ⟨wv, Hwv⟩ : ∃ x, Hid (wj.setCell ⟨h, 32, none⟩ (.int .i64 yn) = x) := ⟨_, ⟨rfl⟩⟩
                      have HGv : Hid (Chg [h] w3 wv) := ⟨by rw [← Hwv.out]; exact HGj.out.setCell (.inl (by simp)) _⟩
                      have HNv : Hid (RtW w wv r2 r7 A9) := ⟨HN3.out.other HGv.out (by simp; exact Hhz.out.2.1)⟩
                      have HO_wv : Hid (OwnE pe 33 49 wv zl (.slice al nl cl) P) := ⟨HO_w3.out.far HGv.out Hnot.out⟩
                      have Hzv : Hid (zl ≤ wv.heap.size) := ⟨Nat.le_trans Hzo.out (Nat.le_trans HB3.out.size HGv.out.size)⟩
                      go_upto_region 52 with fail
                      rw [Hwv.out]
                      clear k7 f7
                      obtain ⟨E, HEd⟩ : ∃ x : Pt, Hid (((bs.drop ii).take 32, yn) = x) := ⟨_, ⟨rfl⟩⟩
                      have HEe : Hid (pS bs ((ii : Int), 0) = (E, (jn, 0))) := ⟨by unfold pS; rw [sS_long Hlong.out]; simp only; rw [nS_ok Hg.out, HEd.out]⟩
                      have HIn : Hid (InS bs (jn, 0)) := ⟨by have := pS_in hby HIo.out; rw [HEe.out] at this; exact this⟩
                      obtain ⟨C, HCe⟩ : ∃ r, Hid ((pe E).toArray = r) := ⟨_, ⟨rfl⟩⟩
                      have HCsz : Hid (C.size = 33) := ⟨by rw [← HCe.out, ← HEd.out]; have h2 := Hlong.out; simp [pe]; omega⟩
                      have HE1 : Hid (∀ u ∈ pe E, u.oneCell' = true) := ⟨by intro u hu; unfold pe at hu; simp only [List.mem_append, List.mem_map, List.mem_singleton] at hu; rcases hu with ⟨y, _, rfl⟩ | rfl <;> rfl⟩
                      have HzC : Hid (wv.heap[h]? = some (.cells C 49 (0, 0))) := ⟨by rw [← HCe.out, ← HEd.out, ← Hwv.out, heap_setCell_same wj h 32 _ 49 _ Hzj.out, blk_last Hlong.out]⟩
                      have y4 : wv.cell? ⟨r7, 5, none⟩ = some (.slice al nl cl) := by rw [HNv.out.c7, ← HA9.out]; rfl
                      obtain ⟨zc, Hzc⟩ : ∃ x, Hid (wv.heap.size = x) := ⟨_, ⟨rfl⟩⟩
                      obtain ⟨wc, Hwc⟩ : ∃ x, Hid (wv.alloc (.cells C 49) = x) := ⟨_, ⟨rfl⟩⟩
                      have HBc : Hid (Below wv.heap.size wv wc) := ⟨by rw [← Hwc.out]; exact (Below.refl _ wv).alloc (Nat.le_refl _) _⟩
                      have HRc : Hid (RdE pe 33 p0 wc (.slice (some ⟨zc, 0, none⟩) 1 1) [E]) := ⟨by rw [← Hwc.out, ← Hzc.out, ← HCe.out]; exact rde_one wv E (by have := HCsz.out; rw [← HCe.out, List.size_toArray] at this; exact this) HE1.out 49⟩
                      have HOc : Hid (OwnE pe 33 49 wc zl (.slice al nl cl) P) := ⟨HO_wv.out.far (Chg.ofBelow (X := []) HBc.out) (by simp)⟩
                      have HNc : Hid (RtW w wc r2 r7 A9) := ⟨HNv.out.call HBc.out⟩
                      have Hob : Hid (∀ g ∈ ob (Value.slice al nl cl), zl ≤ g) := ⟨fun g hg => (HOc.out.lt g hg).1⟩
                      have HCi : Hid ((Try.prog.info? 49).map (·.size) = some C.size) := ⟨by rw [HCsz.out]; exact info49⟩
                      have Hzcz : Hid (zl ≤ wc.heap.size) := ⟨Nat.le_trans Hzv.out HBc.out.size⟩
                      go_wp2_with (first
                        | (refine wp_load rfl 49 (.tmp 22) rfl h rfl C 49 (0, 0) _ HzC.out Try.underlying49 rfl HCi.out ?_)
                        | (refine wp_sliceE eltPt rfl (.tmp 206) rfl C rfl HCsz.out (by decide) ?_; rw [Hzc.out, Hwc.out])
                        | (at_builtin; refine wp_appE (f := pe) (d := p0) (L := P) (M := [E]) eltPt rfl (.tmp 205) (.tmp 207) rfl rfl HOc.out rfl HRc.out (by have := Hnl.out; simp only [List.length_cons, List.length_nil]; omega) (by have := Hnl.out; unfold maxLen; simp only [List.length_cons, List.length_nil]; omega) Hzcz.out ?_; intro v4 w4 hO4 hG4 hV4; have HO4 := Hid.mk hO4; have HN4 : Hid (RtW w w4 r2 r7 A9) := ⟨HNc.out.other hG4 (fun x hx => by have h1 := Hob.out x hx; have h2 := Hzr.out; omega)⟩; have Hz4 : Hid (zl ≤ w4.heap.size) := ⟨Nat.le_trans Hzcz.out hG4.size⟩; clear hO4 hG4 hV4; obtain ⟨a4, c4, e4, _⟩ := (HO4.out.rd p0).shape; subst e4; obtain ⟨n4, Hn4⟩ : ∃ x, Hid ((P ++ [E]).length = x) := ⟨_, ⟨rfl⟩⟩; rw [Hn4.out] at HO4; rw [Hn4.out]; have k4 : w4.cell? ⟨r7, 5, none⟩ = some (.slice al nl cl) := (by rw [HN4.out.c7, ← HA9.out]; rfl); have f4 := HN4.out.f7 5))
                      have HN5 : Hid (RtW w (w4.setCell ⟨r7, 5, none⟩ (.slice a4 n4 c4)) r2 r7 (na 4 nm g 0 (.slice none 0 0) (.slice a4 n4 c4) (.slice none 0 0))) := ⟨HN4.out.set 5 _ (by rw [← HA9.out]; rfl)⟩
                      have HO5 : Hid (OwnE pe 33 49 (w4.setCell ⟨r7, 5, none⟩ (.slice a4 n4 c4)) zl (.slice a4 n4 c4) (P ++ [E])) := ⟨HO4.out.far ((Chg.refl [r7] w4).setCell (.inl (by simp)) _) (fun g hg hm => by simp at hm; have h1 := (HO4.out.lt g hg).1; have h2 := Hzr.out; omega)⟩
                      have Hz5 : Hid (zl ≤ (w4.setCell ⟨r7, 5, none⟩ (.slice a4 n4 c4)).heap.size) := ⟨by simpa [World.setCell] using Hz4.out⟩
                      have Hk4 : Hid ((P ++ [E]).length = nl + 1) := ⟨by rw [List.length_append, Hnl.out]; rfl⟩
                      have HRp4 : Hid (rep (pS bs) m (j3, 0) = ((P ++ [E]) ++ (rep (pS bs) (m - (P ++ [E]).length) (jn, 0)).1, (rep (pS bs) (m - (P ++ [E]).length) (jn, 0)).2)) := ⟨by rw [Hk4.out, HRp.out, HEe.out, List.append_assoc]; rfl⟩
                      go_roundg (m - (nl + 1))
                      case measure => omega
                      case rel => exact ⟨P ++ [E], jn, a4, c4, by rw [Hk4.out]; omega, by rw [Hk4.out]; exact Nat.le_refl _, rfl, by rw [Hk4.out]; go_num, ⟨by rw [Hn4.out]; exact HN5.out⟩, ⟨by rw [Hn4.out]; exact HO5.out⟩, Hz5, HRp4, HIn⟩
                    · have hc' : (cy != 0) = true := by simpa using hc
                      have Hst : Hid ((pS bs ((ii : Int), 0)).2 = ((ii : Int) + 32, cy)) := ⟨by unfold pS; rw [sS_long Hlong.out]; exact congrArg Prod.snd (nS_no Hg.out hc)⟩
                      have HVl : Hid (R = (zN, cy)) := ⟨by rw [← HR.out]; exact tkN_of (st := ((ii : Int) + 32, cy)) (Hfl.out _ Hst.out hc) hc⟩
                      obtain ⟨w9, Hw9⟩ : ∃ x, Hid (wj.setRow r2 zn = x) := ⟨_, ⟨rfl⟩⟩
                      have Hz9 : Hid (w9.heap[r2]? = some (.cells zn 27 (0, 0))) := ⟨by rw [← Hw9.out]; exact setRow_heap _ _ zn _ 27 (0, 0) HNj.out.z2⟩
                      have HE : Hid (TakeP w w9 R.1 R.2 (.returned (.tuple #[.agg zn, .int .i64 cy]))) := ⟨by rw [← Hw9.out]; exact leaf_end HNj.out HVl.out⟩
                      go_upto_region 50 with fail
                      go_wp2_with (refine wpList_store_row rfl 27 (.tmp 2) (.tmp 199) rfl r2 zn rfl rfl 27 zn HNj.out.z2 zn_info rfl zn_one ?_; rw [Hw9.out])
                      refine bodyPost_ret (v := .tuple #[.agg zn, .int .i64 cy]) (results_row_tmp Try.results13 _ _ r2 27 zn (0, 0) _ (by kernel_rfl) Hz9.out Try.underlying27 rfl zn_info) rfl ?_
                      exact HE.out
            · obtain rfl : nl = m := by omega
              have hltz : ¬ (nl : Int) < (nl : Int) := by omega
              have HLx : Hid (lS bs 256 (pS bs) (j2, 0) = (P, (i1, 0))) := ⟨by rw [HLs.out, HRp.out, Nat.sub_self]; simp [rep]⟩
              have HVf : Hid (noteS bs (0, 0) = (⟨4, nm, g, 0, [], P, []⟩, (i1, 0))) := ⟨by rw [HVn.out]; unfold noteK; simp only [cond_true, cond_false, xS_ok Hx.out, nS_ok Hg.out, Hnm.out, HLx.out]⟩
              obtain ⟨n0, Hn0⟩ : ∃ x : Nt, Hid ((⟨4, nm, g, 0, [], P, []⟩ : Nt) = x) := ⟨_, ⟨rfl⟩⟩
              rw [Hn0.out] at HVf
              have HNi : Hid ((Try.prog.info? 27).map (·.size) = some A9.size ∧ A9.all (·.oneCell') = true ∧ zn.size = A9.size) := ⟨by rw [← HA9.out]; exact ⟨info27, na_one _ _ _ _ _ _ _ _ _ _ _ _ _, rfl⟩⟩
              have t9 := rcheck9 (w := wo) 4 nm g 0 none al none 0 0 nl cl 0 0 [] P ((OwnE.nil he 2 46 wo 0).rd h0) rfl (HOl_wo.out.rd p0) Hnl.out
              have HcN : Hid (chk 4 nm g 0 [] P 0 = chkN n0) := ⟨by rw [← Hn0.out]; unfold chkN; rfl⟩
              rw [HcN.out, HA9.out] at t9
              obtain ⟨z, Hz⟩ : ∃ z, Hid (chkN n0 = z) := ⟨_, ⟨rfl⟩⟩
              rw [Hz.out] at t9
              go_upto_region 60 with fail
              clear y0
              go_wp2_with (refine wp_load rfl 27 (.tmp 7) rfl r7 rfl A9 27 (0, 0) _ HNo.out.z7 Try.underlying27 rfl HNi.out.1 ?_)
              refine t9.mono ?_
              rintro e wm ⟨rfl, hBm⟩
              have HNm : Hid (RtW w wm r2 r7 A9) := ⟨HNo.out.call hBm⟩
              have HGm : Hid (Chg [] wo wm) := ⟨Chg.ofBelow hBm⟩
              clear t9 hBm
              have HOl_wm : Hid (OwnE pe 33 49 wm zl (.slice al nl cl) P) := ⟨HOl_wo.out.far HGm.out (by simp)⟩
              by_cases hz : z = 0
              · subst hz
                by_cases hat : i1 < (nb : Int)
                · have HVl : Hid (R = (zN, 4)) := ⟨by rw [← HR.out]; exact tkN_form HVf.out Hz.out (by rw [Hnb.out]; exact hat)⟩
                  obtain ⟨w9, Hw9⟩ : ∃ x, Hid (wm.setRow r2 zn = x) := ⟨_, ⟨rfl⟩⟩
                  have Hz9 : Hid (w9.heap[r2]? = some (.cells zn 27 (0, 0))) := ⟨by rw [← Hw9.out]; exact setRow_heap _ _ zn _ 27 (0, 0) HNm.out.z2⟩
                  have HE : Hid (TakeP w w9 R.1 R.2 (.returned (.tuple #[.agg zn, .int .i64 4]))) := ⟨by rw [← Hw9.out]; exact leaf_end HNm.out HVl.out⟩
                  go_upto_region 64 with fail
                  go_wp2_with (refine wpList_store_row rfl 27 (.tmp 2) (.tmp 237) rfl r2 zn rfl rfl 27 zn HNm.out.z2 zn_info rfl zn_one ?_; rw [Hw9.out])
                  refine bodyPost_ret (v := .tuple #[.agg zn, .int .i64 4]) (results_row_tmp Try.results13 _ _ r2 27 zn (0, 0) _ (by kernel_rfl) Hz9.out Try.underlying27 rfl zn_info) rfl ?_
                  exact HE.out
                · have HVl : Hid (R = (n0, 0)) := ⟨by rw [← HR.out]; exact tkN_ok HVf.out Hz.out (by rw [Hnb.out]; exact hat)⟩
                  obtain ⟨w9, Hw9⟩ : ∃ x, Hid (wm.setRow r2 A9 = x) := ⟨_, ⟨rfl⟩⟩
                  have Hz9 : Hid (w9.heap[r2]? = some (.cells A9 27 (0, 0))) := ⟨by rw [← Hw9.out]; exact setRow_heap _ _ zn _ 27 (0, 0) HNm.out.z2⟩
                  have HG9 : Hid (Chg [r2] wm w9) := ⟨by rw [← Hw9.out]; exact ⟨rfl, rfl, rfl, by simp, fun k hk hx => setRow_other _ _ k _ (by simpa using hx)⟩⟩
                  have HB9 : Hid (Below w.heap.size w w9) := ⟨by rw [← Hw9.out]; exact below_res HNm.out.bl HNm.out.ne.1 _⟩
                  have HOl_w9 : Hid (OwnE pe 33 49 w9 zl (.slice al nl cl) P) := ⟨HOl_wm.out.far HG9.out (fun g hg hm => by simp at hm; have := (HOl_wm.out.lt g hg).1; have := Hzr.out; omega)⟩
                  go_upto_region 65 with fail
                  go_wp2_with (first
                    | (refine wp_load rfl 27 (.tmp 7) rfl r7 rfl A9 27 (0, 0) _ HNm.out.z7 Try.underlying27 rfl HNi.out.1 ?_)
                    | (refine wpList_store_row rfl 27 (.tmp 2) (.tmp 238) rfl r2 A9 rfl rfl 27 zn HNm.out.z2 HNi.out.1 HNi.out.2.2 HNi.out.2.1 ?_; rw [Hw9.out]))
                  refine bodyPost_ret (v := .tuple #[.agg A9, .int .i64 0]) (results_row_tmp Try.results13 _ _ r2 27 A9 (0, 0) _ (by kernel_rfl) Hz9.out Try.underlying27 rfl HNi.out.1) rfl ?_
                  rw [HVl.out, ← HA9.out, ← Hn0.out]
                  exact ⟨none, 0, al, cl, none, 0, by rw [← Hnl.out]; rfl, OwnE.nil _ _ _ _ _, by rw [show (P : List Pt).length = nl from Hnl.out]; exact HOl_w9.out.base HzB.out, owny_nil _ _, HB9.out⟩
              · have hz' : (z != 0) = true := by simpa using hz
                have HVl : Hid (R = (zN, z)) := ⟨by rw [← HR.out, ← Hz.out]; exact tkN_chk HVf.out (by rw [Hz.out]; exact hz)⟩
                obtain ⟨w9, Hw9⟩ : ∃ x, Hid (wm.setRow r2 zn = x) := ⟨_, ⟨rfl⟩⟩
                have Hz9 : Hid (w9.heap[r2]? = some (.cells zn 27 (0, 0))) := ⟨by rw [← Hw9.out]; exact setRow_heap _ _ zn _ 27 (0, 0) HNm.out.z2⟩
                have HE : Hid (TakeP w w9 R.1 R.2 (.returned (.tuple #[.agg zn, .int .i64 z]))) := ⟨by rw [← Hw9.out]; exact leaf_end HNm.out HVl.out⟩
                go_upto_region 62 with fail
                go_wp2_with (refine wpList_store_row rfl 27 (.tmp 2) (.tmp 231) rfl r2 zn rfl rfl 27 zn HNm.out.z2 zn_info rfl zn_one ?_; rw [Hw9.out])
                refine bodyPost_ret (v := .tuple #[.agg zn, .int .i64 z]) (results_row_tmp Try.results13 _ _ r2 27 zn (0, 0) _ (by kernel_rfl) Hz9.out Try.underlying27 rfl zn_info) rfl ?_
                exact HE.out
      · have hc' : (c3 != 0) = true := by simpa using hc
        have HVl : Hid (R = (zN, c3)) := ⟨by rw [← HR.out]; exact tkN_of (st := (j2, c3)) (by rw [HVn.out]; exact fQ (st := (j2, c3)) (by show (lS bs 256 (pS bs) (nS bs (xS bs 32 (a, 0)).2).2).2 = _; rw [xS_ok Hx.out, nS_ok Hg.out, lS_err (by rw [nS_no Hi.out hc]; exact hc), nS_no Hi.out hc]) hc) hc⟩
        obtain ⟨w9, Hw9⟩ : ∃ x, Hid (w6.setRow r2 zn = x) := ⟨_, ⟨rfl⟩⟩
        have Hz9 : Hid (w9.heap[r2]? = some (.cells zn 27 (0, 0))) := ⟨by rw [← Hw9.out]; exact setRow_heap _ _ zn _ 27 (0, 0) HNw6.out.z2⟩
        have HE : Hid (TakeP w w9 R.1 R.2 (.returned (.tuple #[.agg zn, .int .i64 c3]))) := ⟨by rw [← Hw9.out]; exact leaf_end HNw6.out HVl.out⟩
        go_upto_region 24 with fail
        go_wp2_with (refine wpList_store_row rfl 27 (.tmp 2) (.tmp 113) rfl r2 zn rfl rfl 27 zn HNw6.out.z2 zn_info rfl zn_one ?_; rw [Hw9.out])
        refine bodyPost_ret (v := .tuple #[.agg zn, .int .i64 c3]) (results_row_tmp Try.results13 _ _ r2 27 zn (0, 0) _ (by kernel_rfl) Hz9.out Try.underlying27 rfl zn_info) rfl ?_
        exact HE.out
    · have hc' : (c2 != 0) = true := by simpa using hc
      have HVl : Hid (R = (zN, c2)) := ⟨by rw [← HR.out]; exact tkN_of (st := (j1, c2)) (by rw [HVn.out]; exact fG (st := (j1, c2)) (by show (nS bs (xS bs 32 (a, 0)).2).2 = _; rw [xS_ok Hx.out, nS_no Hg.out hc]) hc) hc⟩
      obtain ⟨w9, Hw9⟩ : ∃ x, Hid (w6.setRow r2 zn = x) := ⟨_, ⟨rfl⟩⟩
      have Hz9 : Hid (w9.heap[r2]? = some (.cells zn 27 (0, 0))) := ⟨by rw [← Hw9.out]; exact setRow_heap _ _ zn _ 27 (0, 0) HNw6.out.z2⟩
      have HE : Hid (TakeP w w9 R.1 R.2 (.returned (.tuple #[.agg zn, .int .i64 c2]))) := ⟨by rw [← Hw9.out]; exact leaf_end HNw6.out HVl.out⟩
      go_upto_region 14 with fail
      go_wp2_with (refine wpList_store_row rfl 27 (.tmp 2) (.tmp 77) rfl r2 zn rfl rfl 27 zn HNw6.out.z2 zn_info rfl zn_one ?_; rw [Hw9.out])
      refine bodyPost_ret (v := .tuple #[.agg zn, .int .i64 c2]) (results_row_tmp Try.results13 _ _ r2 27 zn (0, 0) _ (by kernel_rfl) Hz9.out Try.underlying27 rfl zn_info) rfl ?_
      exact HE.out
  · have hc' : (c1 != 0) = true := by simpa using hc
    have HVl : Hid (R = (zN, c1)) := ⟨by rw [← HR.out]; exact tkN_of (st := (a, c1)) (by rw [HVn.out]; exact fP (st := (a, c1)) (by show (xS bs 32 (a, 0)).2 = _; rw [xS_no Hx.out hc]) hc) hc⟩
    obtain ⟨w9, Hw9⟩ : ∃ x, Hid (w4.setRow r2 zn = x) := ⟨_, ⟨rfl⟩⟩
    have Hz9 : Hid (w9.heap[r2]? = some (.cells zn 27 (0, 0))) := ⟨by rw [← Hw9.out]; exact setRow_heap _ _ zn _ 27 (0, 0) HN4.out.z2⟩
    have HE : Hid (TakeP w w9 R.1 R.2 (.returned (.tuple #[.agg zn, .int .i64 c1]))) := ⟨by rw [← Hw9.out]; exact leaf_end HN4.out HVl.out⟩
    go_upto_region 10 with fail
    go_wp2_with (refine wpList_store_row rfl 27 (.tmp 2) (.tmp 62) rfl r2 zn rfl rfl 27 zn HN4.out.z2 zn_info rfl zn_one ?_; rw [Hw9.out])
    refine bodyPost_ret (v := .tuple #[.agg zn, .int .i64 c1]) (results_row_tmp Try.results13 _ _ r2 27 zn (0, 0) _ (by kernel_rfl) Hz9.out Try.underlying27 rfl zn_info) rfl ?_
    exact HE.out
end
end Go.Proofs.Ythohpbppfihoiaa

/- The document's Take: kind 5. -/
namespace Go.Proofs.Ythohpbppfihoiaa
open Go.RowKit Go.Lib

section
variable {w : World}
set_option maxHeartbeats 16000000 in
set_option maxRecDepth 100000 in
theorem rtake_5 (v : Value) (bs : List Int) (hv : Oct.Bs w v bs) (hby : ∀ x ∈ bs, 0 ≤ x ∧ x < 256) (hl : bs.length ≤ 140737488355328) (a : Int) (hs : Oct.tkNum bs 0 = (5, a, 0)) :
    Calls Try.prog 13 #[v] w fun e w' => TakeP w w' (tkN bs).1 (tkN bs).2 e := by
  have HO : Hid (Old w.heap.size w v bs) := ⟨fun wx h => hv.below h⟩
  have hb0 := hv
  obtain ⟨va, vc, rfl, _, hvm, _⟩ := hb0
  obtain ⟨nb, Hnb⟩ : ∃ n, Hid (bs.length = n) := ⟨_, ⟨rfl⟩⟩
  rw [Hnb.out] at HO
  rw [Hnb.out]
  have t33 : ∀ (W : World) (i : Int), Below w.heap.size w W → Calls Try.prog 33 #[.slice va nb vc, .int .i64 i] W fun e w' => e = .returned (.tuple #[.int .i64 (Oct.tkNum bs i).1, .int .i64 (Oct.tkNum bs i).2.1, .int .i64 (Oct.tkNum bs i).2.2]) ∧ W = w' := fun W i h => Oct.rtakeNum_any _ bs i W (HO.out.on h).at hby
  have t34 : ∀ (W : World) (i m : Int), Below w.heap.size w W → Calls Try.prog 34 #[.slice va nb vc, .int .i64 i, .int .i64 m] W fun e w' => ∃ v', e = .returned (.tuple #[v', .int .i64 (Oct.tkText bs i m).2.1, .int .i64 (Oct.tkText bs i m).2.2]) ∧ Oct.OwnB w' W.heap.size 5 v' (Oct.tkText bs i m).1 ∧ Below W.heap.size W w' := fun W i m h => Oct.rtakeText_any _ bs i m W (HO.out.on h).at hby hl
  have T34 := Hid.mk t34
  clear t34
  have T33 := Hid.mk t33
  obtain ⟨r2, Hr2⟩ : ∃ x, Hid (w.heap.size = x) := ⟨_, ⟨rfl⟩⟩
  obtain ⟨wa, Hwa⟩ : ∃ x, Hid (w.alloc (.cells zn 27) = x) := ⟨_, ⟨rfl⟩⟩
  have HBa : Hid (Below w.heap.size w wa) := ⟨by rw [← Hwa.out]; exact (Below.refl _ w).alloc (Nat.le_refl _) _⟩
  have Hz2a : Hid (wa.heap[r2]? = some (.cells zn 27 (0, 0))) := ⟨by rw [← Hwa.out, ← Hr2.out]; exact heap_alloc_new w _⟩
  have t0 := t33 wa 0 HBa.out
  obtain ⟨R, HR⟩ : ∃ R, Hid (tkN bs = R) := ⟨_, ⟨rfl⟩⟩
  rw [HR.out]
  rw [hs] at t0
  simp only at t0
  obtain ⟨r7, Hr7⟩ : ∃ x, Hid (wa.heap.size = x) := ⟨_, ⟨rfl⟩⟩
  obtain ⟨A0, HA0⟩ : ∃ x, Hid (na 5 { data := #[] } 0 0 (.slice none 0 0) (.slice none 0 0) (.slice none 0 0) = x) := ⟨_, ⟨rfl⟩⟩
  have HAs : Hid ((Try.prog.info? 27).map (·.size) = some A0.size ∧ A0.all (·.oneCell') = true ∧ zn.size = A0.size) := ⟨by rw [← HA0.out]; exact ⟨info27, na_one _ _ _ _ _ _ _ _ _ _ _ _ _, rfl⟩⟩
  have hbu : ∀ W : World, (Instr.build 27 #[(0, .int .i64 5)]).run Try.prog W = .ok (.agg A0) W := fun W => by rw [← HA0.out]; exact run_build27 _ W
  obtain ⟨w2, Hw2⟩ : ∃ x, Hid ((wa.alloc (.cells zn 27)).setRow r7 A0 = x) := ⟨_, ⟨rfl⟩⟩
  have HBb : Hid (Below wa.heap.size wa w2) := ⟨by rw [← Hw2.out, ← Hr7.out]; exact below_setRow ((Below.refl _ wa).alloc (Nat.le_refl _) _) (Nat.le_refl _) _⟩
  have Hr27 : Hid (r2 < r7) := ⟨by rw [← Hr7.out, ← Hwa.out, ← Hr2.out]; simp⟩
  have HN2 : Hid (RtW w w2 r2 r7 A0) := ⟨⟨HBa.out.trans (HBb.out.mono HBa.out.size), (HBb.out.block r2 (by rw [Hr7.out]; exact Hr27.out)).trans Hz2a.out, by rw [← Hw2.out, ← Hr7.out]; exact setRow_heap _ _ zn _ 27 (0, 0) (heap_alloc_new wa _), ⟨by rw [Hr2.out]; exact Nat.le_refl _, Hr27.out⟩⟩⟩
  have HVn : Hid (noteS bs (0, 0) = noteK (true, false, false, false, false) bs 5 (a, 0)) := ⟨by unfold noteS; rw [nS_ok hs]; rfl⟩
  have Hat0 : Hid (0 ≤ a ∧ a ≤ (bs.length : Int)) := ⟨by have := Oct.tkNum_ok bs 0 hby (by rw [hs]); rw [hs] at this; simp only at this; omega⟩
  clear hv hs t33
  go_enter Try.func13, Try.ntmps13
  go_upto_region 1 with (refine wp_newZ zero27 rfl rfl ?_; rw [Hr2.out, Hwa.out])
  go_wp2_with fail
  refine t0.mono ?_
  rintro e w' ⟨rfl, rfl⟩
  clear t0
  go_upto_region 4 with fail
  go_upto_region 5 with (first
    | (refine wp_build1 (t := 27) (u := .int .i64 5) (C := A0) rfl (.tmp 41) rfl rfl (hbu _) ?_)
    | (refine wp_newZ zero27 rfl rfl ?_; rw [Hr7.out])
    | (refine wpList_store_row rfl 27 (.tmp 7) (.tmp 42) rfl r7 A0 rfl rfl 27 zn (by rw [← Hr7.out]; exact heap_alloc_new wa _) HAs.out.1 HAs.out.2.2 HAs.out.2.1 ?_; rw [Hw2.out]))
  clear hbu
  have y0 : w2.cell? ⟨r7, 0, none⟩ = some (.int .i64 5) := by rw [HN2.out.c7, ← HA0.out]; rfl
  have d1 : decide ((3 : Int) ≤ 5 ∧ (5 : Int) ≤ 7) = true := by decide
  have tc := hasFile18 (w := w2) 5
  rw [d1] at tc
  go_wp2_with fail
  refine tc.mono ?_
  rintro e w' ⟨rfl, rfl⟩
  clear tc
  obtain ⟨⟨ps, j1, c1⟩, Hx⟩ : ∃ r, Hid (Oct.tkText bs a 32 = r) := ⟨_, ⟨rfl⟩⟩
  have tx := T34.out w2 a 32 HN2.out.bl
  rw [Hx.out] at tx
  simp only at tx
  go_wp2_with fail
  refine tx.mono ?_
  rintro e w4 ⟨v4, rfl, hO4, hB4⟩
  have HN4 : Hid (RtW w w4 r2 r7 A0) := ⟨HN2.out.call hB4⟩
  have HO4 := Hid.mk hO4
  obtain ⟨a4, k4, e4, _⟩ := OwnY.shape (show OwnY w4 w2.heap.size v4 ps from hO4)
  subst e4
  clear tx hO4 hB4 y0
  by_cases hc : c1 = 0
  · subst hc
    obtain ⟨nm, Hnm⟩ : ∃ r, Hid (strOfNums ps = r) := ⟨_, ⟨rfl⟩⟩
    have hcv : (convert 25 9 (.slice a4 ps.length k4)).run Try.prog w4 = .ok (.string nm) w4 := by rw [← Hnm.out]; exact bs_str (Oct.OwnB.bs HO4.out)
    obtain ⟨A1, HA1⟩ : ∃ x, Hid (na 5 nm 0 0 (.slice none 0 0) (.slice none 0 0) (.slice none 0 0) = x) := ⟨_, ⟨rfl⟩⟩
    have k7 : w4.cell? ⟨r7, 1, none⟩ = some (.string { data := #[] }) := by rw [HN4.out.c7, ← HA0.out]; rfl
    have f7 := HN4.out.f7 1
    obtain ⟨w5, Hw5⟩ : ∃ x, Hid (w4.setCell ⟨r7, 1, none⟩ (.string nm) = x) := ⟨_, ⟨rfl⟩⟩
    have HNw5 : Hid (RtW w w5 r2 r7 A1) := ⟨by rw [← Hw5.out]; exact HN4.out.set 1 _ (by rw [← HA0.out, ← HA1.out]; rfl)⟩
    have HGw5 : Hid (Chg [r7] w4 w5) := ⟨by rw [← Hw5.out]; exact (Chg.refl [r7] w4).setCell (.inl (by simp)) _⟩
    go_upto_region 12 with fail
    rw [Hw5.out]
    clear hcv k7 f7
    obtain ⟨⟨g, j2, c2⟩, Hg⟩ : ∃ r, Hid (Oct.tkNum bs j1 = r) := ⟨_, ⟨rfl⟩⟩
    have tg := T33.out w5 j1 HNw5.out.bl
    rw [Hg.out] at tg
    simp only at tg
    go_wp2_with fail
    refine tg.mono ?_
    rintro e w' ⟨rfl, rfl⟩
    clear tg
    obtain ⟨A2, HA2⟩ : ∃ x, Hid (na 5 nm g 0 (.slice none 0 0) (.slice none 0 0) (.slice none 0 0) = x) := ⟨_, ⟨rfl⟩⟩
    have k7 : w5.cell? ⟨r7, 2, none⟩ = some (.int .i64 0) := by rw [HNw5.out.c7, ← HA1.out]; rfl
    have f7 := HNw5.out.f7 2
    obtain ⟨w6, Hw6⟩ : ∃ x, Hid (w5.setCell ⟨r7, 2, none⟩ (.int .i64 g) = x) := ⟨_, ⟨rfl⟩⟩
    have HNw6 : Hid (RtW w w6 r2 r7 A2) := ⟨by rw [← Hw6.out]; exact HNw5.out.set 2 _ (by rw [← HA1.out, ← HA2.out]; rfl)⟩
    have HGw6 : Hid (Chg [r7] w5 w6) := ⟨by rw [← Hw6.out]; exact (Chg.refl [r7] w5).setCell (.inl (by simp)) _⟩
    go_upto_region 13 with fail
    rw [Hw6.out]
    clear k7 f7
    by_cases hc : c2 = 0
    · subst hc
      have Hat : Hid (0 ≤ j2 ∧ j2 ≤ (bs.length : Int)) := ⟨by have := Oct.tkNum_ok bs j1 hby (by rw [Hg.out]); rw [Hg.out] at this; simp only at this; omega⟩
      have y0 : w6.cell? ⟨r7, 0, none⟩ = some (.int .i64 5) := by rw [HNw6.out.c7, ← HA2.out]; rfl
      have d2 : decide ((5 : Int) = 6 ∨ (5 : Int) = 7) = false := by decide
      have tc := hasI19 (w := w6) 5
      rw [d2] at tc
      go_wp2_with fail
      refine tc.mono ?_
      rintro e w' ⟨rfl, rfl⟩
      clear tc
      have HVf : Hid (noteS bs (0, 0) = (⟨5, nm, g, 0, [], [], []⟩, (j2, 0))) := ⟨by rw [HVn.out]; unfold noteK; simp only [cond_true, cond_false, xS_ok Hx.out, nS_ok Hg.out, Hnm.out]⟩
      obtain ⟨n0, Hn0⟩ : ∃ x : Nt, Hid ((⟨5, nm, g, 0, [], [], []⟩ : Nt) = x) := ⟨_, ⟨rfl⟩⟩
      rw [Hn0.out] at HVf
      have HNi : Hid ((Try.prog.info? 27).map (·.size) = some A2.size ∧ A2.all (·.oneCell') = true ∧ zn.size = A2.size) := ⟨by rw [← HA2.out]; exact ⟨info27, na_one _ _ _ _ _ _ _ _ _ _ _ _ _, rfl⟩⟩
      have t9 := rcheck9 (w := w6) 5 nm g 0 none none none 0 0 0 0 0 0 [] [] ((OwnE.nil he 2 46 w6 0).rd h0) rfl ((OwnE.nil pe 33 49 w6 0).rd p0) rfl
      have HcN : Hid (chk 5 nm g 0 [] [] 0 = chkN n0) := ⟨by rw [← Hn0.out]; unfold chkN; rfl⟩
      rw [HcN.out, HA2.out] at t9
      obtain ⟨z, Hz⟩ : ∃ z, Hid (chkN n0 = z) := ⟨_, ⟨rfl⟩⟩
      rw [Hz.out] at t9
      go_upto_region 60 with fail
      clear y0
      go_wp2_with (refine wp_load rfl 27 (.tmp 7) rfl r7 rfl A2 27 (0, 0) _ HNw6.out.z7 Try.underlying27 rfl HNi.out.1 ?_)
      refine t9.mono ?_
      rintro e wm ⟨rfl, hBm⟩
      have HNm : Hid (RtW w wm r2 r7 A2) := ⟨HNw6.out.call hBm⟩
      have HGm : Hid (Chg [] w6 wm) := ⟨Chg.ofBelow hBm⟩
      clear t9 hBm
      by_cases hz : z = 0
      · subst hz
        by_cases hat : j2 < (nb : Int)
        · have HVl : Hid (R = (zN, 4)) := ⟨by rw [← HR.out]; exact tkN_form HVf.out Hz.out (by rw [Hnb.out]; exact hat)⟩
          obtain ⟨w9, Hw9⟩ : ∃ x, Hid (wm.setRow r2 zn = x) := ⟨_, ⟨rfl⟩⟩
          have Hz9 : Hid (w9.heap[r2]? = some (.cells zn 27 (0, 0))) := ⟨by rw [← Hw9.out]; exact setRow_heap _ _ zn _ 27 (0, 0) HNm.out.z2⟩
          have HE : Hid (TakeP w w9 R.1 R.2 (.returned (.tuple #[.agg zn, .int .i64 4]))) := ⟨by rw [← Hw9.out]; exact leaf_end HNm.out HVl.out⟩
          go_upto_region 64 with fail
          go_wp2_with (refine wpList_store_row rfl 27 (.tmp 2) (.tmp 237) rfl r2 zn rfl rfl 27 zn HNm.out.z2 zn_info rfl zn_one ?_; rw [Hw9.out])
          refine bodyPost_ret (v := .tuple #[.agg zn, .int .i64 4]) (results_row_tmp Try.results13 _ _ r2 27 zn (0, 0) _ (by kernel_rfl) Hz9.out Try.underlying27 rfl zn_info) rfl ?_
          exact HE.out
        · have HVl : Hid (R = (n0, 0)) := ⟨by rw [← HR.out]; exact tkN_ok HVf.out Hz.out (by rw [Hnb.out]; exact hat)⟩
          obtain ⟨w9, Hw9⟩ : ∃ x, Hid (wm.setRow r2 A2 = x) := ⟨_, ⟨rfl⟩⟩
          have Hz9 : Hid (w9.heap[r2]? = some (.cells A2 27 (0, 0))) := ⟨by rw [← Hw9.out]; exact setRow_heap _ _ zn _ 27 (0, 0) HNm.out.z2⟩
          have HG9 : Hid (Chg [r2] wm w9) := ⟨by rw [← Hw9.out]; exact ⟨rfl, rfl, rfl, by simp, fun k hk hx => setRow_other _ _ k _ (by simpa using hx)⟩⟩
          have HB9 : Hid (Below w.heap.size w w9) := ⟨by rw [← Hw9.out]; exact below_res HNm.out.bl HNm.out.ne.1 _⟩
          go_upto_region 65 with fail
          go_wp2_with (first
            | (refine wp_load rfl 27 (.tmp 7) rfl r7 rfl A2 27 (0, 0) _ HNm.out.z7 Try.underlying27 rfl HNi.out.1 ?_)
            | (refine wpList_store_row rfl 27 (.tmp 2) (.tmp 238) rfl r2 A2 rfl rfl 27 zn HNm.out.z2 HNi.out.1 HNi.out.2.2 HNi.out.2.1 ?_; rw [Hw9.out]))
          refine bodyPost_ret (v := .tuple #[.agg A2, .int .i64 0]) (results_row_tmp Try.results13 _ _ r2 27 A2 (0, 0) _ (by kernel_rfl) Hz9.out Try.underlying27 rfl HNi.out.1) rfl ?_
          rw [HVl.out, ← HA2.out, ← Hn0.out]
          exact ⟨none, 0, none, 0, none, 0, rfl, OwnE.nil _ _ _ _ _, OwnE.nil _ _ _ _ _, owny_nil _ _, HB9.out⟩
      · have hz' : (z != 0) = true := by simpa using hz
        have HVl : Hid (R = (zN, z)) := ⟨by rw [← HR.out, ← Hz.out]; exact tkN_chk HVf.out (by rw [Hz.out]; exact hz)⟩
        obtain ⟨w9, Hw9⟩ : ∃ x, Hid (wm.setRow r2 zn = x) := ⟨_, ⟨rfl⟩⟩
        have Hz9 : Hid (w9.heap[r2]? = some (.cells zn 27 (0, 0))) := ⟨by rw [← Hw9.out]; exact setRow_heap _ _ zn _ 27 (0, 0) HNm.out.z2⟩
        have HE : Hid (TakeP w w9 R.1 R.2 (.returned (.tuple #[.agg zn, .int .i64 z]))) := ⟨by rw [← Hw9.out]; exact leaf_end HNm.out HVl.out⟩
        go_upto_region 62 with fail
        go_wp2_with (refine wpList_store_row rfl 27 (.tmp 2) (.tmp 231) rfl r2 zn rfl rfl 27 zn HNm.out.z2 zn_info rfl zn_one ?_; rw [Hw9.out])
        refine bodyPost_ret (v := .tuple #[.agg zn, .int .i64 z]) (results_row_tmp Try.results13 _ _ r2 27 zn (0, 0) _ (by kernel_rfl) Hz9.out Try.underlying27 rfl zn_info) rfl ?_
        exact HE.out
    · have hc' : (c2 != 0) = true := by simpa using hc
      have HVl : Hid (R = (zN, c2)) := ⟨by rw [← HR.out]; exact tkN_of (st := (j1, c2)) (by rw [HVn.out]; exact fG (st := (j1, c2)) (by show (nS bs (xS bs 32 (a, 0)).2).2 = _; rw [xS_ok Hx.out, nS_no Hg.out hc]) hc) hc⟩
      obtain ⟨w9, Hw9⟩ : ∃ x, Hid (w6.setRow r2 zn = x) := ⟨_, ⟨rfl⟩⟩
      have Hz9 : Hid (w9.heap[r2]? = some (.cells zn 27 (0, 0))) := ⟨by rw [← Hw9.out]; exact setRow_heap _ _ zn _ 27 (0, 0) HNw6.out.z2⟩
      have HE : Hid (TakeP w w9 R.1 R.2 (.returned (.tuple #[.agg zn, .int .i64 c2]))) := ⟨by rw [← Hw9.out]; exact leaf_end HNw6.out HVl.out⟩
      go_upto_region 14 with fail
      go_wp2_with (refine wpList_store_row rfl 27 (.tmp 2) (.tmp 77) rfl r2 zn rfl rfl 27 zn HNw6.out.z2 zn_info rfl zn_one ?_; rw [Hw9.out])
      refine bodyPost_ret (v := .tuple #[.agg zn, .int .i64 c2]) (results_row_tmp Try.results13 _ _ r2 27 zn (0, 0) _ (by kernel_rfl) Hz9.out Try.underlying27 rfl zn_info) rfl ?_
      exact HE.out
  · have hc' : (c1 != 0) = true := by simpa using hc
    have HVl : Hid (R = (zN, c1)) := ⟨by rw [← HR.out]; exact tkN_of (st := (a, c1)) (by rw [HVn.out]; exact fP (st := (a, c1)) (by show (xS bs 32 (a, 0)).2 = _; rw [xS_no Hx.out hc]) hc) hc⟩
    obtain ⟨w9, Hw9⟩ : ∃ x, Hid (w4.setRow r2 zn = x) := ⟨_, ⟨rfl⟩⟩
    have Hz9 : Hid (w9.heap[r2]? = some (.cells zn 27 (0, 0))) := ⟨by rw [← Hw9.out]; exact setRow_heap _ _ zn _ 27 (0, 0) HN4.out.z2⟩
    have HE : Hid (TakeP w w9 R.1 R.2 (.returned (.tuple #[.agg zn, .int .i64 c1]))) := ⟨by rw [← Hw9.out]; exact leaf_end HN4.out HVl.out⟩
    go_upto_region 10 with fail
    go_wp2_with (refine wpList_store_row rfl 27 (.tmp 2) (.tmp 62) rfl r2 zn rfl rfl 27 zn HN4.out.z2 zn_info rfl zn_one ?_; rw [Hw9.out])
    refine bodyPost_ret (v := .tuple #[.agg zn, .int .i64 c1]) (results_row_tmp Try.results13 _ _ r2 27 zn (0, 0) _ (by kernel_rfl) Hz9.out Try.underlying27 rfl zn_info) rfl ?_
    exact HE.out
end
end Go.Proofs.Ythohpbppfihoiaa

/- The document's Take: kind 6. -/
namespace Go.Proofs.Ythohpbppfihoiaa
open Go.RowKit Go.Lib

section
variable {w : World}
set_option maxHeartbeats 16000000 in
set_option maxRecDepth 100000 in
theorem rtake_6 (v : Value) (bs : List Int) (hv : Oct.Bs w v bs) (hby : ∀ x ∈ bs, 0 ≤ x ∧ x < 256) (hl : bs.length ≤ 140737488355328) (a : Int) (hs : Oct.tkNum bs 0 = (6, a, 0)) :
    Calls Try.prog 13 #[v] w fun e w' => TakeP w w' (tkN bs).1 (tkN bs).2 e := by
  have HO : Hid (Old w.heap.size w v bs) := ⟨fun wx h => hv.below h⟩
  have hb0 := hv
  obtain ⟨va, vc, rfl, _, hvm, _⟩ := hb0
  obtain ⟨nb, Hnb⟩ : ∃ n, Hid (bs.length = n) := ⟨_, ⟨rfl⟩⟩
  rw [Hnb.out] at HO
  rw [Hnb.out]
  have t33 : ∀ (W : World) (i : Int), Below w.heap.size w W → Calls Try.prog 33 #[.slice va nb vc, .int .i64 i] W fun e w' => e = .returned (.tuple #[.int .i64 (Oct.tkNum bs i).1, .int .i64 (Oct.tkNum bs i).2.1, .int .i64 (Oct.tkNum bs i).2.2]) ∧ W = w' := fun W i h => Oct.rtakeNum_any _ bs i W (HO.out.on h).at hby
  have t34 : ∀ (W : World) (i m : Int), Below w.heap.size w W → Calls Try.prog 34 #[.slice va nb vc, .int .i64 i, .int .i64 m] W fun e w' => ∃ v', e = .returned (.tuple #[v', .int .i64 (Oct.tkText bs i m).2.1, .int .i64 (Oct.tkText bs i m).2.2]) ∧ Oct.OwnB w' W.heap.size 5 v' (Oct.tkText bs i m).1 ∧ Below W.heap.size W w' := fun W i m h => Oct.rtakeText_any _ bs i m W (HO.out.on h).at hby hl
  have T34 := Hid.mk t34
  clear t34
  have T33 := Hid.mk t33
  obtain ⟨r2, Hr2⟩ : ∃ x, Hid (w.heap.size = x) := ⟨_, ⟨rfl⟩⟩
  obtain ⟨wa, Hwa⟩ : ∃ x, Hid (w.alloc (.cells zn 27) = x) := ⟨_, ⟨rfl⟩⟩
  have HBa : Hid (Below w.heap.size w wa) := ⟨by rw [← Hwa.out]; exact (Below.refl _ w).alloc (Nat.le_refl _) _⟩
  have Hz2a : Hid (wa.heap[r2]? = some (.cells zn 27 (0, 0))) := ⟨by rw [← Hwa.out, ← Hr2.out]; exact heap_alloc_new w _⟩
  have t0 := t33 wa 0 HBa.out
  obtain ⟨R, HR⟩ : ∃ R, Hid (tkN bs = R) := ⟨_, ⟨rfl⟩⟩
  rw [HR.out]
  rw [hs] at t0
  simp only at t0
  obtain ⟨r7, Hr7⟩ : ∃ x, Hid (wa.heap.size = x) := ⟨_, ⟨rfl⟩⟩
  obtain ⟨A0, HA0⟩ : ∃ x, Hid (na 6 { data := #[] } 0 0 (.slice none 0 0) (.slice none 0 0) (.slice none 0 0) = x) := ⟨_, ⟨rfl⟩⟩
  have HAs : Hid ((Try.prog.info? 27).map (·.size) = some A0.size ∧ A0.all (·.oneCell') = true ∧ zn.size = A0.size) := ⟨by rw [← HA0.out]; exact ⟨info27, na_one _ _ _ _ _ _ _ _ _ _ _ _ _, rfl⟩⟩
  have hbu : ∀ W : World, (Instr.build 27 #[(0, .int .i64 6)]).run Try.prog W = .ok (.agg A0) W := fun W => by rw [← HA0.out]; exact run_build27 _ W
  obtain ⟨w2, Hw2⟩ : ∃ x, Hid ((wa.alloc (.cells zn 27)).setRow r7 A0 = x) := ⟨_, ⟨rfl⟩⟩
  have HBb : Hid (Below wa.heap.size wa w2) := ⟨by rw [← Hw2.out, ← Hr7.out]; exact below_setRow ((Below.refl _ wa).alloc (Nat.le_refl _) _) (Nat.le_refl _) _⟩
  have Hr27 : Hid (r2 < r7) := ⟨by rw [← Hr7.out, ← Hwa.out, ← Hr2.out]; simp⟩
  have HN2 : Hid (RtW w w2 r2 r7 A0) := ⟨⟨HBa.out.trans (HBb.out.mono HBa.out.size), (HBb.out.block r2 (by rw [Hr7.out]; exact Hr27.out)).trans Hz2a.out, by rw [← Hw2.out, ← Hr7.out]; exact setRow_heap _ _ zn _ 27 (0, 0) (heap_alloc_new wa _), ⟨by rw [Hr2.out]; exact Nat.le_refl _, Hr27.out⟩⟩⟩
  have HVn : Hid (noteS bs (0, 0) = noteK (true, true, false, false, false) bs 6 (a, 0)) := ⟨by unfold noteS; rw [nS_ok hs]; rfl⟩
  have Hat0 : Hid (0 ≤ a ∧ a ≤ (bs.length : Int)) := ⟨by have := Oct.tkNum_ok bs 0 hby (by rw [hs]); rw [hs] at this; simp only at this; omega⟩
  clear hv hs t33
  go_enter Try.func13, Try.ntmps13
  go_upto_region 1 with (refine wp_newZ zero27 rfl rfl ?_; rw [Hr2.out, Hwa.out])
  go_wp2_with fail
  refine t0.mono ?_
  rintro e w' ⟨rfl, rfl⟩
  clear t0
  go_upto_region 4 with fail
  go_upto_region 5 with (first
    | (refine wp_build1 (t := 27) (u := .int .i64 6) (C := A0) rfl (.tmp 41) rfl rfl (hbu _) ?_)
    | (refine wp_newZ zero27 rfl rfl ?_; rw [Hr7.out])
    | (refine wpList_store_row rfl 27 (.tmp 7) (.tmp 42) rfl r7 A0 rfl rfl 27 zn (by rw [← Hr7.out]; exact heap_alloc_new wa _) HAs.out.1 HAs.out.2.2 HAs.out.2.1 ?_; rw [Hw2.out]))
  clear hbu
  have y0 : w2.cell? ⟨r7, 0, none⟩ = some (.int .i64 6) := by rw [HN2.out.c7, ← HA0.out]; rfl
  have d1 : decide ((3 : Int) ≤ 6 ∧ (6 : Int) ≤ 7) = true := by decide
  have tc := hasFile18 (w := w2) 6
  rw [d1] at tc
  go_wp2_with fail
  refine tc.mono ?_
  rintro e w' ⟨rfl, rfl⟩
  clear tc
  obtain ⟨⟨ps, j1, c1⟩, Hx⟩ : ∃ r, Hid (Oct.tkText bs a 32 = r) := ⟨_, ⟨rfl⟩⟩
  have tx := T34.out w2 a 32 HN2.out.bl
  rw [Hx.out] at tx
  simp only at tx
  go_wp2_with fail
  refine tx.mono ?_
  rintro e w4 ⟨v4, rfl, hO4, hB4⟩
  have HN4 : Hid (RtW w w4 r2 r7 A0) := ⟨HN2.out.call hB4⟩
  have HO4 := Hid.mk hO4
  obtain ⟨a4, k4, e4, _⟩ := OwnY.shape (show OwnY w4 w2.heap.size v4 ps from hO4)
  subst e4
  clear tx hO4 hB4 y0
  by_cases hc : c1 = 0
  · subst hc
    obtain ⟨nm, Hnm⟩ : ∃ r, Hid (strOfNums ps = r) := ⟨_, ⟨rfl⟩⟩
    have hcv : (convert 25 9 (.slice a4 ps.length k4)).run Try.prog w4 = .ok (.string nm) w4 := by rw [← Hnm.out]; exact bs_str (Oct.OwnB.bs HO4.out)
    obtain ⟨A1, HA1⟩ : ∃ x, Hid (na 6 nm 0 0 (.slice none 0 0) (.slice none 0 0) (.slice none 0 0) = x) := ⟨_, ⟨rfl⟩⟩
    have k7 : w4.cell? ⟨r7, 1, none⟩ = some (.string { data := #[] }) := by rw [HN4.out.c7, ← HA0.out]; rfl
    have f7 := HN4.out.f7 1
    obtain ⟨w5, Hw5⟩ : ∃ x, Hid (w4.setCell ⟨r7, 1, none⟩ (.string nm) = x) := ⟨_, ⟨rfl⟩⟩
    have HNw5 : Hid (RtW w w5 r2 r7 A1) := ⟨by rw [← Hw5.out]; exact HN4.out.set 1 _ (by rw [← HA0.out, ← HA1.out]; rfl)⟩
    have HGw5 : Hid (Chg [r7] w4 w5) := ⟨by rw [← Hw5.out]; exact (Chg.refl [r7] w4).setCell (.inl (by simp)) _⟩
    go_upto_region 12 with fail
    rw [Hw5.out]
    clear hcv k7 f7
    obtain ⟨⟨g, j2, c2⟩, Hg⟩ : ∃ r, Hid (Oct.tkNum bs j1 = r) := ⟨_, ⟨rfl⟩⟩
    have tg := T33.out w5 j1 HNw5.out.bl
    rw [Hg.out] at tg
    simp only at tg
    go_wp2_with fail
    refine tg.mono ?_
    rintro e w' ⟨rfl, rfl⟩
    clear tg
    obtain ⟨A2, HA2⟩ : ∃ x, Hid (na 6 nm g 0 (.slice none 0 0) (.slice none 0 0) (.slice none 0 0) = x) := ⟨_, ⟨rfl⟩⟩
    have k7 : w5.cell? ⟨r7, 2, none⟩ = some (.int .i64 0) := by rw [HNw5.out.c7, ← HA1.out]; rfl
    have f7 := HNw5.out.f7 2
    obtain ⟨w6, Hw6⟩ : ∃ x, Hid (w5.setCell ⟨r7, 2, none⟩ (.int .i64 g) = x) := ⟨_, ⟨rfl⟩⟩
    have HNw6 : Hid (RtW w w6 r2 r7 A2) := ⟨by rw [← Hw6.out]; exact HNw5.out.set 2 _ (by rw [← HA1.out, ← HA2.out]; rfl)⟩
    have HGw6 : Hid (Chg [r7] w5 w6) := ⟨by rw [← Hw6.out]; exact (Chg.refl [r7] w5).setCell (.inl (by simp)) _⟩
    go_upto_region 13 with fail
    rw [Hw6.out]
    clear k7 f7
    by_cases hc : c2 = 0
    · subst hc
      have Hat : Hid (0 ≤ j2 ∧ j2 ≤ (bs.length : Int)) := ⟨by have := Oct.tkNum_ok bs j1 hby (by rw [Hg.out]); rw [Hg.out] at this; simp only at this; omega⟩
      have y0 : w6.cell? ⟨r7, 0, none⟩ = some (.int .i64 6) := by rw [HNw6.out.c7, ← HA2.out]; rfl
      have d2 : decide ((6 : Int) = 6 ∨ (6 : Int) = 7) = true := by decide
      have tc := hasI19 (w := w6) 6
      rw [d2] at tc
      go_wp2_with fail
      refine tc.mono ?_
      rintro e w' ⟨rfl, rfl⟩
      clear tc
      obtain ⟨⟨i, j3, c3⟩, Hi⟩ : ∃ r, Hid (Oct.tkNum bs j2 = r) := ⟨_, ⟨rfl⟩⟩
      have ti := T33.out w6 j2 HNw6.out.bl
      rw [Hi.out] at ti
      simp only at ti
      go_wp2_with fail
      refine ti.mono ?_
      rintro e w' ⟨rfl, rfl⟩
      clear ti
      by_cases hc : c3 = 0
      · subst hc
        clear y0
        obtain ⟨A3, HA3⟩ : ∃ x, Hid (na 6 nm g i (.slice none 0 0) (.slice none 0 0) (.slice none 0 0) = x) := ⟨_, ⟨rfl⟩⟩
        have k7 : w6.cell? ⟨r7, 3, none⟩ = some (.int .i64 0) := by rw [HNw6.out.c7, ← HA2.out]; rfl
        have f7 := HNw6.out.f7 3
        obtain ⟨w7, Hw7⟩ : ∃ x, Hid (w6.setCell ⟨r7, 3, none⟩ (.int .i64 i) = x) := ⟨_, ⟨rfl⟩⟩
        have HNw7 : Hid (RtW w w7 r2 r7 A3) := ⟨by rw [← Hw7.out]; exact HNw6.out.set 3 _ (by rw [← HA2.out, ← HA3.out]; rfl)⟩
        have HGw7 : Hid (Chg [r7] w6 w7) := ⟨by rw [← Hw7.out]; exact (Chg.refl [r7] w6).setCell (.inl (by simp)) _⟩
        go_upto_region 20 with fail
        rw [Hw7.out]
        clear k7 f7
        have Hat3 : Hid (0 ≤ j3 ∧ j3 ≤ (bs.length : Int)) := ⟨by have := Oct.tkNum_ok bs j2 hby (by rw [Hi.out]); rw [Hi.out] at this; simp only at this; omega⟩
        have y0 : w7.cell? ⟨r7, 0, none⟩ = some (.int .i64 6) := by rw [HNw7.out.c7, ← HA3.out]; rfl
        have HVf : Hid (noteS bs (0, 0) = (⟨6, nm, g, i, [], [], []⟩, (j3, 0))) := ⟨by rw [HVn.out]; unfold noteK; simp only [cond_true, cond_false, xS_ok Hx.out, nS_ok Hg.out, Hnm.out, nS_ok Hi.out]⟩
        obtain ⟨n0, Hn0⟩ : ∃ x : Nt, Hid ((⟨6, nm, g, i, [], [], []⟩ : Nt) = x) := ⟨_, ⟨rfl⟩⟩
        rw [Hn0.out] at HVf
        have HNi : Hid ((Try.prog.info? 27).map (·.size) = some A3.size ∧ A3.all (·.oneCell') = true ∧ zn.size = A3.size) := ⟨by rw [← HA3.out]; exact ⟨info27, na_one _ _ _ _ _ _ _ _ _ _ _ _ _, rfl⟩⟩
        have t9 := rcheck9 (w := w7) 6 nm g i none none none 0 0 0 0 0 0 [] [] ((OwnE.nil he 2 46 w7 0).rd h0) rfl ((OwnE.nil pe 33 49 w7 0).rd p0) rfl
        have HcN : Hid (chk 6 nm g i [] [] 0 = chkN n0) := ⟨by rw [← Hn0.out]; unfold chkN; rfl⟩
        rw [HcN.out, HA3.out] at t9
        obtain ⟨z, Hz⟩ : ∃ z, Hid (chkN n0 = z) := ⟨_, ⟨rfl⟩⟩
        rw [Hz.out] at t9
        go_upto_region 60 with fail
        clear y0
        go_wp2_with (refine wp_load rfl 27 (.tmp 7) rfl r7 rfl A3 27 (0, 0) _ HNw7.out.z7 Try.underlying27 rfl HNi.out.1 ?_)
        refine t9.mono ?_
        rintro e wm ⟨rfl, hBm⟩
        have HNm : Hid (RtW w wm r2 r7 A3) := ⟨HNw7.out.call hBm⟩
        have HGm : Hid (Chg [] w7 wm) := ⟨Chg.ofBelow hBm⟩
        clear t9 hBm
        by_cases hz : z = 0
        · subst hz
          by_cases hat : j3 < (nb : Int)
          · have HVl : Hid (R = (zN, 4)) := ⟨by rw [← HR.out]; exact tkN_form HVf.out Hz.out (by rw [Hnb.out]; exact hat)⟩
            obtain ⟨w9, Hw9⟩ : ∃ x, Hid (wm.setRow r2 zn = x) := ⟨_, ⟨rfl⟩⟩
            have Hz9 : Hid (w9.heap[r2]? = some (.cells zn 27 (0, 0))) := ⟨by rw [← Hw9.out]; exact setRow_heap _ _ zn _ 27 (0, 0) HNm.out.z2⟩
            have HE : Hid (TakeP w w9 R.1 R.2 (.returned (.tuple #[.agg zn, .int .i64 4]))) := ⟨by rw [← Hw9.out]; exact leaf_end HNm.out HVl.out⟩
            go_upto_region 64 with fail
            go_wp2_with (refine wpList_store_row rfl 27 (.tmp 2) (.tmp 237) rfl r2 zn rfl rfl 27 zn HNm.out.z2 zn_info rfl zn_one ?_; rw [Hw9.out])
            refine bodyPost_ret (v := .tuple #[.agg zn, .int .i64 4]) (results_row_tmp Try.results13 _ _ r2 27 zn (0, 0) _ (by kernel_rfl) Hz9.out Try.underlying27 rfl zn_info) rfl ?_
            exact HE.out
          · have HVl : Hid (R = (n0, 0)) := ⟨by rw [← HR.out]; exact tkN_ok HVf.out Hz.out (by rw [Hnb.out]; exact hat)⟩
            obtain ⟨w9, Hw9⟩ : ∃ x, Hid (wm.setRow r2 A3 = x) := ⟨_, ⟨rfl⟩⟩
            have Hz9 : Hid (w9.heap[r2]? = some (.cells A3 27 (0, 0))) := ⟨by rw [← Hw9.out]; exact setRow_heap _ _ zn _ 27 (0, 0) HNm.out.z2⟩
            have HG9 : Hid (Chg [r2] wm w9) := ⟨by rw [← Hw9.out]; exact ⟨rfl, rfl, rfl, by simp, fun k hk hx => setRow_other _ _ k _ (by simpa using hx)⟩⟩
            have HB9 : Hid (Below w.heap.size w w9) := ⟨by rw [← Hw9.out]; exact below_res HNm.out.bl HNm.out.ne.1 _⟩
            go_upto_region 65 with fail
            go_wp2_with (first
              | (refine wp_load rfl 27 (.tmp 7) rfl r7 rfl A3 27 (0, 0) _ HNm.out.z7 Try.underlying27 rfl HNi.out.1 ?_)
              | (refine wpList_store_row rfl 27 (.tmp 2) (.tmp 238) rfl r2 A3 rfl rfl 27 zn HNm.out.z2 HNi.out.1 HNi.out.2.2 HNi.out.2.1 ?_; rw [Hw9.out]))
            refine bodyPost_ret (v := .tuple #[.agg A3, .int .i64 0]) (results_row_tmp Try.results13 _ _ r2 27 A3 (0, 0) _ (by kernel_rfl) Hz9.out Try.underlying27 rfl HNi.out.1) rfl ?_
            rw [HVl.out, ← HA3.out, ← Hn0.out]
            exact ⟨none, 0, none, 0, none, 0, rfl, OwnE.nil _ _ _ _ _, OwnE.nil _ _ _ _ _, owny_nil _ _, HB9.out⟩
        · have hz' : (z != 0) = true := by simpa using hz
          have HVl : Hid (R = (zN, z)) := ⟨by rw [← HR.out, ← Hz.out]; exact tkN_chk HVf.out (by rw [Hz.out]; exact hz)⟩
          obtain ⟨w9, Hw9⟩ : ∃ x, Hid (wm.setRow r2 zn = x) := ⟨_, ⟨rfl⟩⟩
          have Hz9 : Hid (w9.heap[r2]? = some (.cells zn 27 (0, 0))) := ⟨by rw [← Hw9.out]; exact setRow_heap _ _ zn _ 27 (0, 0) HNm.out.z2⟩
          have HE : Hid (TakeP w w9 R.1 R.2 (.returned (.tuple #[.agg zn, .int .i64 z]))) := ⟨by rw [← Hw9.out]; exact leaf_end HNm.out HVl.out⟩
          go_upto_region 62 with fail
          go_wp2_with (refine wpList_store_row rfl 27 (.tmp 2) (.tmp 231) rfl r2 zn rfl rfl 27 zn HNm.out.z2 zn_info rfl zn_one ?_; rw [Hw9.out])
          refine bodyPost_ret (v := .tuple #[.agg zn, .int .i64 z]) (results_row_tmp Try.results13 _ _ r2 27 zn (0, 0) _ (by kernel_rfl) Hz9.out Try.underlying27 rfl zn_info) rfl ?_
          exact HE.out
      · have hc' : (c3 != 0) = true := by simpa using hc
        have HVl : Hid (R = (zN, c3)) := ⟨by rw [← HR.out]; exact tkN_of (st := (j2, c3)) (by rw [HVn.out]; exact fI (st := (j2, c3)) (by show (nS bs (nS bs (xS bs 32 (a, 0)).2).2).2 = _; rw [xS_ok Hx.out, nS_ok Hg.out, nS_no Hi.out hc]) hc) hc⟩
        obtain ⟨w9, Hw9⟩ : ∃ x, Hid (w6.setRow r2 zn = x) := ⟨_, ⟨rfl⟩⟩
        have Hz9 : Hid (w9.heap[r2]? = some (.cells zn 27 (0, 0))) := ⟨by rw [← Hw9.out]; exact setRow_heap _ _ zn _ 27 (0, 0) HNw6.out.z2⟩
        have HE : Hid (TakeP w w9 R.1 R.2 (.returned (.tuple #[.agg zn, .int .i64 c3]))) := ⟨by rw [← Hw9.out]; exact leaf_end HNw6.out HVl.out⟩
        go_upto_region 18 with fail
        go_wp2_with (refine wpList_store_row rfl 27 (.tmp 2) (.tmp 91) rfl r2 zn rfl rfl 27 zn HNw6.out.z2 zn_info rfl zn_one ?_; rw [Hw9.out])
        refine bodyPost_ret (v := .tuple #[.agg zn, .int .i64 c3]) (results_row_tmp Try.results13 _ _ r2 27 zn (0, 0) _ (by kernel_rfl) Hz9.out Try.underlying27 rfl zn_info) rfl ?_
        exact HE.out
    · have hc' : (c2 != 0) = true := by simpa using hc
      have HVl : Hid (R = (zN, c2)) := ⟨by rw [← HR.out]; exact tkN_of (st := (j1, c2)) (by rw [HVn.out]; exact fG (st := (j1, c2)) (by show (nS bs (xS bs 32 (a, 0)).2).2 = _; rw [xS_ok Hx.out, nS_no Hg.out hc]) hc) hc⟩
      obtain ⟨w9, Hw9⟩ : ∃ x, Hid (w6.setRow r2 zn = x) := ⟨_, ⟨rfl⟩⟩
      have Hz9 : Hid (w9.heap[r2]? = some (.cells zn 27 (0, 0))) := ⟨by rw [← Hw9.out]; exact setRow_heap _ _ zn _ 27 (0, 0) HNw6.out.z2⟩
      have HE : Hid (TakeP w w9 R.1 R.2 (.returned (.tuple #[.agg zn, .int .i64 c2]))) := ⟨by rw [← Hw9.out]; exact leaf_end HNw6.out HVl.out⟩
      go_upto_region 14 with fail
      go_wp2_with (refine wpList_store_row rfl 27 (.tmp 2) (.tmp 77) rfl r2 zn rfl rfl 27 zn HNw6.out.z2 zn_info rfl zn_one ?_; rw [Hw9.out])
      refine bodyPost_ret (v := .tuple #[.agg zn, .int .i64 c2]) (results_row_tmp Try.results13 _ _ r2 27 zn (0, 0) _ (by kernel_rfl) Hz9.out Try.underlying27 rfl zn_info) rfl ?_
      exact HE.out
  · have hc' : (c1 != 0) = true := by simpa using hc
    have HVl : Hid (R = (zN, c1)) := ⟨by rw [← HR.out]; exact tkN_of (st := (a, c1)) (by rw [HVn.out]; exact fP (st := (a, c1)) (by show (xS bs 32 (a, 0)).2 = _; rw [xS_no Hx.out hc]) hc) hc⟩
    obtain ⟨w9, Hw9⟩ : ∃ x, Hid (w4.setRow r2 zn = x) := ⟨_, ⟨rfl⟩⟩
    have Hz9 : Hid (w9.heap[r2]? = some (.cells zn 27 (0, 0))) := ⟨by rw [← Hw9.out]; exact setRow_heap _ _ zn _ 27 (0, 0) HN4.out.z2⟩
    have HE : Hid (TakeP w w9 R.1 R.2 (.returned (.tuple #[.agg zn, .int .i64 c1]))) := ⟨by rw [← Hw9.out]; exact leaf_end HN4.out HVl.out⟩
    go_upto_region 10 with fail
    go_wp2_with (refine wpList_store_row rfl 27 (.tmp 2) (.tmp 62) rfl r2 zn rfl rfl 27 zn HN4.out.z2 zn_info rfl zn_one ?_; rw [Hw9.out])
    refine bodyPost_ret (v := .tuple #[.agg zn, .int .i64 c1]) (results_row_tmp Try.results13 _ _ r2 27 zn (0, 0) _ (by kernel_rfl) Hz9.out Try.underlying27 rfl zn_info) rfl ?_
    exact HE.out
end
end Go.Proofs.Ythohpbppfihoiaa

/- The document's Take: kind 7. -/
namespace Go.Proofs.Ythohpbppfihoiaa
open Go.RowKit Go.Lib

section
variable {w : World}
set_option maxHeartbeats 16000000 in
set_option maxRecDepth 100000 in
theorem rtake_7 (v : Value) (bs : List Int) (hv : Oct.Bs w v bs) (hby : ∀ x ∈ bs, 0 ≤ x ∧ x < 256) (hl : bs.length ≤ 140737488355328) (a : Int) (hs : Oct.tkNum bs 0 = (7, a, 0)) :
    Calls Try.prog 13 #[v] w fun e w' => TakeP w w' (tkN bs).1 (tkN bs).2 e := by
  have HO : Hid (Old w.heap.size w v bs) := ⟨fun wx h => hv.below h⟩
  have hb0 := hv
  obtain ⟨va, vc, rfl, _, hvm, _⟩ := hb0
  obtain ⟨nb, Hnb⟩ : ∃ n, Hid (bs.length = n) := ⟨_, ⟨rfl⟩⟩
  rw [Hnb.out] at HO
  rw [Hnb.out]
  have t33 : ∀ (W : World) (i : Int), Below w.heap.size w W → Calls Try.prog 33 #[.slice va nb vc, .int .i64 i] W fun e w' => e = .returned (.tuple #[.int .i64 (Oct.tkNum bs i).1, .int .i64 (Oct.tkNum bs i).2.1, .int .i64 (Oct.tkNum bs i).2.2]) ∧ W = w' := fun W i h => Oct.rtakeNum_any _ bs i W (HO.out.on h).at hby
  have t34 : ∀ (W : World) (i m : Int), Below w.heap.size w W → Calls Try.prog 34 #[.slice va nb vc, .int .i64 i, .int .i64 m] W fun e w' => ∃ v', e = .returned (.tuple #[v', .int .i64 (Oct.tkText bs i m).2.1, .int .i64 (Oct.tkText bs i m).2.2]) ∧ Oct.OwnB w' W.heap.size 5 v' (Oct.tkText bs i m).1 ∧ Below W.heap.size W w' := fun W i m h => Oct.rtakeText_any _ bs i m W (HO.out.on h).at hby hl
  have T34 := Hid.mk t34
  clear t34
  have T33 := Hid.mk t33
  obtain ⟨r2, Hr2⟩ : ∃ x, Hid (w.heap.size = x) := ⟨_, ⟨rfl⟩⟩
  obtain ⟨wa, Hwa⟩ : ∃ x, Hid (w.alloc (.cells zn 27) = x) := ⟨_, ⟨rfl⟩⟩
  have HBa : Hid (Below w.heap.size w wa) := ⟨by rw [← Hwa.out]; exact (Below.refl _ w).alloc (Nat.le_refl _) _⟩
  have Hz2a : Hid (wa.heap[r2]? = some (.cells zn 27 (0, 0))) := ⟨by rw [← Hwa.out, ← Hr2.out]; exact heap_alloc_new w _⟩
  have t0 := t33 wa 0 HBa.out
  obtain ⟨R, HR⟩ : ∃ R, Hid (tkN bs = R) := ⟨_, ⟨rfl⟩⟩
  rw [HR.out]
  rw [hs] at t0
  simp only at t0
  obtain ⟨r7, Hr7⟩ : ∃ x, Hid (wa.heap.size = x) := ⟨_, ⟨rfl⟩⟩
  obtain ⟨A0, HA0⟩ : ∃ x, Hid (na 7 { data := #[] } 0 0 (.slice none 0 0) (.slice none 0 0) (.slice none 0 0) = x) := ⟨_, ⟨rfl⟩⟩
  have HAs : Hid ((Try.prog.info? 27).map (·.size) = some A0.size ∧ A0.all (·.oneCell') = true ∧ zn.size = A0.size) := ⟨by rw [← HA0.out]; exact ⟨info27, na_one _ _ _ _ _ _ _ _ _ _ _ _ _, rfl⟩⟩
  have hbu : ∀ W : World, (Instr.build 27 #[(0, .int .i64 7)]).run Try.prog W = .ok (.agg A0) W := fun W => by rw [← HA0.out]; exact run_build27 _ W
  obtain ⟨w2, Hw2⟩ : ∃ x, Hid ((wa.alloc (.cells zn 27)).setRow r7 A0 = x) := ⟨_, ⟨rfl⟩⟩
  have HBb : Hid (Below wa.heap.size wa w2) := ⟨by rw [← Hw2.out, ← Hr7.out]; exact below_setRow ((Below.refl _ wa).alloc (Nat.le_refl _) _) (Nat.le_refl _) _⟩
  have Hr27 : Hid (r2 < r7) := ⟨by rw [← Hr7.out, ← Hwa.out, ← Hr2.out]; simp⟩
  have HN2 : Hid (RtW w w2 r2 r7 A0) := ⟨⟨HBa.out.trans (HBb.out.mono HBa.out.size), (HBb.out.block r2 (by rw [Hr7.out]; exact Hr27.out)).trans Hz2a.out, by rw [← Hw2.out, ← Hr7.out]; exact setRow_heap _ _ zn _ 27 (0, 0) (heap_alloc_new wa _), ⟨by rw [Hr2.out]; exact Nat.le_refl _, Hr27.out⟩⟩⟩
  have HVn : Hid (noteS bs (0, 0) = noteK (true, true, false, false, true) bs 7 (a, 0)) := ⟨by unfold noteS; rw [nS_ok hs]; rfl⟩
  have Hat0 : Hid (0 ≤ a ∧ a ≤ (bs.length : Int)) := ⟨by have := Oct.tkNum_ok bs 0 hby (by rw [hs]); rw [hs] at this; simp only at this; omega⟩
  clear hv hs t33
  go_enter Try.func13, Try.ntmps13
  go_upto_region 1 with (refine wp_newZ zero27 rfl rfl ?_; rw [Hr2.out, Hwa.out])
  go_wp2_with fail
  refine t0.mono ?_
  rintro e w' ⟨rfl, rfl⟩
  clear t0
  go_upto_region 4 with fail
  go_upto_region 5 with (first
    | (refine wp_build1 (t := 27) (u := .int .i64 7) (C := A0) rfl (.tmp 41) rfl rfl (hbu _) ?_)
    | (refine wp_newZ zero27 rfl rfl ?_; rw [Hr7.out])
    | (refine wpList_store_row rfl 27 (.tmp 7) (.tmp 42) rfl r7 A0 rfl rfl 27 zn (by rw [← Hr7.out]; exact heap_alloc_new wa _) HAs.out.1 HAs.out.2.2 HAs.out.2.1 ?_; rw [Hw2.out]))
  clear hbu
  have y0 : w2.cell? ⟨r7, 0, none⟩ = some (.int .i64 7) := by rw [HN2.out.c7, ← HA0.out]; rfl
  have d1 : decide ((3 : Int) ≤ 7 ∧ (7 : Int) ≤ 7) = true := by decide
  have tc := hasFile18 (w := w2) 7
  rw [d1] at tc
  go_wp2_with fail
  refine tc.mono ?_
  rintro e w' ⟨rfl, rfl⟩
  clear tc
  obtain ⟨⟨ps, j1, c1⟩, Hx⟩ : ∃ r, Hid (Oct.tkText bs a 32 = r) := ⟨_, ⟨rfl⟩⟩
  have tx := T34.out w2 a 32 HN2.out.bl
  rw [Hx.out] at tx
  simp only at tx
  go_wp2_with fail
  refine tx.mono ?_
  rintro e w4 ⟨v4, rfl, hO4, hB4⟩
  have HN4 : Hid (RtW w w4 r2 r7 A0) := ⟨HN2.out.call hB4⟩
  have HO4 := Hid.mk hO4
  obtain ⟨a4, k4, e4, _⟩ := OwnY.shape (show OwnY w4 w2.heap.size v4 ps from hO4)
  subst e4
  clear tx hO4 hB4 y0
  by_cases hc : c1 = 0
  · subst hc
    obtain ⟨nm, Hnm⟩ : ∃ r, Hid (strOfNums ps = r) := ⟨_, ⟨rfl⟩⟩
    have hcv : (convert 25 9 (.slice a4 ps.length k4)).run Try.prog w4 = .ok (.string nm) w4 := by rw [← Hnm.out]; exact bs_str (Oct.OwnB.bs HO4.out)
    obtain ⟨A1, HA1⟩ : ∃ x, Hid (na 7 nm 0 0 (.slice none 0 0) (.slice none 0 0) (.slice none 0 0) = x) := ⟨_, ⟨rfl⟩⟩
    have k7 : w4.cell? ⟨r7, 1, none⟩ = some (.string { data := #[] }) := by rw [HN4.out.c7, ← HA0.out]; rfl
    have f7 := HN4.out.f7 1
    obtain ⟨w5, Hw5⟩ : ∃ x, Hid (w4.setCell ⟨r7, 1, none⟩ (.string nm) = x) := ⟨_, ⟨rfl⟩⟩
    have HNw5 : Hid (RtW w w5 r2 r7 A1) := ⟨by rw [← Hw5.out]; exact HN4.out.set 1 _ (by rw [← HA0.out, ← HA1.out]; rfl)⟩
    have HGw5 : Hid (Chg [r7] w4 w5) := ⟨by rw [← Hw5.out]; exact (Chg.refl [r7] w4).setCell (.inl (by simp)) _⟩
    go_upto_region 12 with fail
    rw [Hw5.out]
    clear hcv k7 f7
    obtain ⟨⟨g, j2, c2⟩, Hg⟩ : ∃ r, Hid (Oct.tkNum bs j1 = r) := ⟨_, ⟨rfl⟩⟩
    have tg := T33.out w5 j1 HNw5.out.bl
    rw [Hg.out] at tg
    simp only at tg
    go_wp2_with fail
    refine tg.mono ?_
    rintro e w' ⟨rfl, rfl⟩
    clear tg
    obtain ⟨A2, HA2⟩ : ∃ x, Hid (na 7 nm g 0 (.slice none 0 0) (.slice none 0 0) (.slice none 0 0) = x) := ⟨_, ⟨rfl⟩⟩
    have k7 : w5.cell? ⟨r7, 2, none⟩ = some (.int .i64 0) := by rw [HNw5.out.c7, ← HA1.out]; rfl
    have f7 := HNw5.out.f7 2
    obtain ⟨w6, Hw6⟩ : ∃ x, Hid (w5.setCell ⟨r7, 2, none⟩ (.int .i64 g) = x) := ⟨_, ⟨rfl⟩⟩
    have HNw6 : Hid (RtW w w6 r2 r7 A2) := ⟨by rw [← Hw6.out]; exact HNw5.out.set 2 _ (by rw [← HA1.out, ← HA2.out]; rfl)⟩
    have HGw6 : Hid (Chg [r7] w5 w6) := ⟨by rw [← Hw6.out]; exact (Chg.refl [r7] w5).setCell (.inl (by simp)) _⟩
    go_upto_region 13 with fail
    rw [Hw6.out]
    clear k7 f7
    by_cases hc : c2 = 0
    · subst hc
      have Hat : Hid (0 ≤ j2 ∧ j2 ≤ (bs.length : Int)) := ⟨by have := Oct.tkNum_ok bs j1 hby (by rw [Hg.out]); rw [Hg.out] at this; simp only at this; omega⟩
      have y0 : w6.cell? ⟨r7, 0, none⟩ = some (.int .i64 7) := by rw [HNw6.out.c7, ← HA2.out]; rfl
      have d2 : decide ((7 : Int) = 6 ∨ (7 : Int) = 7) = true := by decide
      have tc := hasI19 (w := w6) 7
      rw [d2] at tc
      go_wp2_with fail
      refine tc.mono ?_
      rintro e w' ⟨rfl, rfl⟩
      clear tc
      obtain ⟨⟨i, j3, c3⟩, Hi⟩ : ∃ r, Hid (Oct.tkNum bs j2 = r) := ⟨_, ⟨rfl⟩⟩
      have ti := T33.out w6 j2 HNw6.out.bl
      rw [Hi.out] at ti
      simp only at ti
      go_wp2_with fail
      refine ti.mono ?_
      rintro e w' ⟨rfl, rfl⟩
      clear ti
      by_cases hc : c3 = 0
      · subst hc
        clear y0
        obtain ⟨A3, HA3⟩ : ∃ x, Hid (na 7 nm g i (.slice none 0 0) (.slice none 0 0) (.slice none 0 0) = x) := ⟨_, ⟨rfl⟩⟩
        have k7 : w6.cell? ⟨r7, 3, none⟩ = some (.int .i64 0) := by rw [HNw6.out.c7, ← HA2.out]; rfl
        have f7 := HNw6.out.f7 3
        obtain ⟨w7, Hw7⟩ : ∃ x, Hid (w6.setCell ⟨r7, 3, none⟩ (.int .i64 i) = x) := ⟨_, ⟨rfl⟩⟩
        have HNw7 : Hid (RtW w w7 r2 r7 A3) := ⟨by rw [← Hw7.out]; exact HNw6.out.set 3 _ (by rw [← HA2.out, ← HA3.out]; rfl)⟩
        have HGw7 : Hid (Chg [r7] w6 w7) := ⟨by rw [← Hw7.out]; exact (Chg.refl [r7] w6).setCell (.inl (by simp)) _⟩
        go_upto_region 20 with fail
        rw [Hw7.out]
        clear k7 f7
        have Hat3 : Hid (0 ≤ j3 ∧ j3 ≤ (bs.length : Int)) := ⟨by have := Oct.tkNum_ok bs j2 hby (by rw [Hi.out]); rw [Hi.out] at this; simp only at this; omega⟩
        have y0 : w7.cell? ⟨r7, 0, none⟩ = some (.int .i64 7) := by rw [HNw7.out.c7, ← HA3.out]; rfl
        obtain ⟨⟨y, j4, c4⟩, Hy⟩ : ∃ r, Hid (Oct.tkText bs j3 512 = r) := ⟨_, ⟨rfl⟩⟩
        have tx := T34.out w7 j3 512 HNw7.out.bl
        rw [Hy.out] at tx
        simp only at tx
        obtain ⟨zl, Hzl⟩ : ∃ x, Hid (w7.heap.size = x) := ⟨_, ⟨rfl⟩⟩
        have Hzr : Hid (r2 < zl ∧ r7 < zl) := ⟨by rw [← Hzl.out]; have h1 := (Array.getElem?_eq_some_iff.1 HNw7.out.z7).1; have h2 := HNw7.out.ne; omega⟩
        have HzB : Hid (w.heap.size ≤ zl) := ⟨by rw [← Hzl.out]; exact HNw7.out.bl.size⟩
        rw [Hzl.out] at tx
        go_wp2_with fail
        refine tx.mono ?_
        rintro e wt ⟨vt, rfl, hOt, hBt⟩
        have HNt : Hid (RtW w wt r2 r7 A3) := ⟨HNw7.out.call (by rw [Hzl.out]; exact hBt)⟩
        have HOl_wt : Hid (OwnY wt zl vt y) := ⟨hOt⟩
        obtain ⟨al, cl, e4, _⟩ := OwnY.shape HOl_wt.out
        subst e4
        clear tx hOt hBt y0
        obtain ⟨nl, Hnl⟩ : ∃ x, Hid (y.length = x) := ⟨_, ⟨rfl⟩⟩
        rw [Hnl.out] at HOl_wt
        rw [Hnl.out]
        by_cases hc : c4 = 0
        · subst hc
          obtain ⟨A4, HA4⟩ : ∃ x, Hid (na 7 nm g i (.slice none 0 0) (.slice none 0 0) (.slice al nl cl) = x) := ⟨_, ⟨rfl⟩⟩
          have k7 : wt.cell? ⟨r7, 6, none⟩ = some (.slice none 0 0) := by rw [HNt.out.c7, ← HA3.out]; rfl
          have f7 := HNt.out.f7 6
          obtain ⟨w8, Hw8⟩ : ∃ x, Hid (wt.setCell ⟨r7, 6, none⟩ (.slice al nl cl) = x) := ⟨_, ⟨rfl⟩⟩
          have HNw8 : Hid (RtW w w8 r2 r7 A4) := ⟨by rw [← Hw8.out]; exact HNt.out.set 6 _ (by rw [← HA3.out, ← HA4.out]; rfl)⟩
          have HGw8 : Hid (Chg [r7] wt w8) := ⟨by rw [← Hw8.out]; exact (Chg.refl [r7] wt).setCell (.inl (by simp)) _⟩
          have HOl_w8 : Hid (OwnY w8 zl (.slice al nl cl) y) := ⟨own_far HOl_wt.out HGw8.out (fun g hg hm => by simp at hm; have := own_geY HOl_wt.out g (mem_ob.2 hg); have := Hzr.out; omega)⟩
          go_upto_region 59 with fail
          rw [Hw8.out]
          clear k7 f7
          have y0 : w8.cell? ⟨r7, 0, none⟩ = some (.int .i64 7) := by rw [HNw8.out.c7, ← HA4.out]; rfl
          have HVf : Hid (noteS bs (0, 0) = (⟨7, nm, g, i, [], [], y⟩, (j4, 0))) := ⟨by rw [HVn.out]; unfold noteK; simp only [cond_true, cond_false, xS_ok Hx.out, nS_ok Hg.out, Hnm.out, nS_ok Hi.out, xS_ok Hy.out]⟩
          obtain ⟨n0, Hn0⟩ : ∃ x : Nt, Hid ((⟨7, nm, g, i, [], [], y⟩ : Nt) = x) := ⟨_, ⟨rfl⟩⟩
          rw [Hn0.out] at HVf
          have HNi : Hid ((Try.prog.info? 27).map (·.size) = some A4.size ∧ A4.all (·.oneCell') = true ∧ zn.size = A4.size) := ⟨by rw [← HA4.out]; exact ⟨info27, na_one _ _ _ _ _ _ _ _ _ _ _ _ _, rfl⟩⟩
          have t9 := rcheck9 (w := w8) 7 nm g i none none al 0 0 0 0 nl cl [] [] ((OwnE.nil he 2 46 w8 0).rd h0) rfl ((OwnE.nil pe 33 49 w8 0).rd p0) rfl
          have HcN : Hid (chk 7 nm g i [] [] nl = chkN n0) := ⟨by rw [← Hn0.out]; unfold chkN; rw [← Hnl.out]⟩
          rw [HcN.out, HA4.out] at t9
          obtain ⟨z, Hz⟩ : ∃ z, Hid (chkN n0 = z) := ⟨_, ⟨rfl⟩⟩
          rw [Hz.out] at t9
          go_upto_region 60 with fail
          clear y0
          go_wp2_with (refine wp_load rfl 27 (.tmp 7) rfl r7 rfl A4 27 (0, 0) _ HNw8.out.z7 Try.underlying27 rfl HNi.out.1 ?_)
          refine t9.mono ?_
          rintro e wm ⟨rfl, hBm⟩
          have HNm : Hid (RtW w wm r2 r7 A4) := ⟨HNw8.out.call hBm⟩
          have HGm : Hid (Chg [] w8 wm) := ⟨Chg.ofBelow hBm⟩
          clear t9 hBm
          have HOl_wm : Hid (OwnY wm zl (.slice al nl cl) y) := ⟨own_far HOl_w8.out HGm.out (by simp)⟩
          by_cases hz : z = 0
          · subst hz
            by_cases hat : j4 < (nb : Int)
            · have HVl : Hid (R = (zN, 4)) := ⟨by rw [← HR.out]; exact tkN_form HVf.out Hz.out (by rw [Hnb.out]; exact hat)⟩
              obtain ⟨w9, Hw9⟩ : ∃ x, Hid (wm.setRow r2 zn = x) := ⟨_, ⟨rfl⟩⟩
              have Hz9 : Hid (w9.heap[r2]? = some (.cells zn 27 (0, 0))) := ⟨by rw [← Hw9.out]; exact setRow_heap _ _ zn _ 27 (0, 0) HNm.out.z2⟩
              have HE : Hid (TakeP w w9 R.1 R.2 (.returned (.tuple #[.agg zn, .int .i64 4]))) := ⟨by rw [← Hw9.out]; exact leaf_end HNm.out HVl.out⟩
              go_upto_region 64 with fail
              go_wp2_with (refine wpList_store_row rfl 27 (.tmp 2) (.tmp 237) rfl r2 zn rfl rfl 27 zn HNm.out.z2 zn_info rfl zn_one ?_; rw [Hw9.out])
              refine bodyPost_ret (v := .tuple #[.agg zn, .int .i64 4]) (results_row_tmp Try.results13 _ _ r2 27 zn (0, 0) _ (by kernel_rfl) Hz9.out Try.underlying27 rfl zn_info) rfl ?_
              exact HE.out
            · have HVl : Hid (R = (n0, 0)) := ⟨by rw [← HR.out]; exact tkN_ok HVf.out Hz.out (by rw [Hnb.out]; exact hat)⟩
              obtain ⟨w9, Hw9⟩ : ∃ x, Hid (wm.setRow r2 A4 = x) := ⟨_, ⟨rfl⟩⟩
              have Hz9 : Hid (w9.heap[r2]? = some (.cells A4 27 (0, 0))) := ⟨by rw [← Hw9.out]; exact setRow_heap _ _ zn _ 27 (0, 0) HNm.out.z2⟩
              have HG9 : Hid (Chg [r2] wm w9) := ⟨by rw [← Hw9.out]; exact ⟨rfl, rfl, rfl, by simp, fun k hk hx => setRow_other _ _ k _ (by simpa using hx)⟩⟩
              have HB9 : Hid (Below w.heap.size w w9) := ⟨by rw [← Hw9.out]; exact below_res HNm.out.bl HNm.out.ne.1 _⟩
              have HOl_w9 : Hid (OwnY w9 zl (.slice al nl cl) y) := ⟨own_far HOl_wm.out HG9.out (fun g hg hm => by simp at hm; have := own_geY HOl_wm.out g (mem_ob.2 hg); have := Hzr.out; omega)⟩
              go_upto_region 65 with fail
              go_wp2_with (first
                | (refine wp_load rfl 27 (.tmp 7) rfl r7 rfl A4 27 (0, 0) _ HNm.out.z7 Try.underlying27 rfl HNi.out.1 ?_)
                | (refine wpList_store_row rfl 27 (.tmp 2) (.tmp 238) rfl r2 A4 rfl rfl 27 zn HNm.out.z2 HNi.out.1 HNi.out.2.2 HNi.out.2.1 ?_; rw [Hw9.out]))
              refine bodyPost_ret (v := .tuple #[.agg A4, .int .i64 0]) (results_row_tmp Try.results13 _ _ r2 27 A4 (0, 0) _ (by kernel_rfl) Hz9.out Try.underlying27 rfl HNi.out.1) rfl ?_
              rw [HVl.out, ← HA4.out, ← Hn0.out]
              exact ⟨none, 0, none, 0, al, cl, by rw [← Hnl.out]; rfl, OwnE.nil _ _ _ _ _, OwnE.nil _ _ _ _ _, by rw [show (y : List Int).length = nl from Hnl.out]; exact Oct.OwnB.mono HOl_w9.out HzB.out, HB9.out⟩
          · have hz' : (z != 0) = true := by simpa using hz
            have HVl : Hid (R = (zN, z)) := ⟨by rw [← HR.out, ← Hz.out]; exact tkN_chk HVf.out (by rw [Hz.out]; exact hz)⟩
            obtain ⟨w9, Hw9⟩ : ∃ x, Hid (wm.setRow r2 zn = x) := ⟨_, ⟨rfl⟩⟩
            have Hz9 : Hid (w9.heap[r2]? = some (.cells zn 27 (0, 0))) := ⟨by rw [← Hw9.out]; exact setRow_heap _ _ zn _ 27 (0, 0) HNm.out.z2⟩
            have HE : Hid (TakeP w w9 R.1 R.2 (.returned (.tuple #[.agg zn, .int .i64 z]))) := ⟨by rw [← Hw9.out]; exact leaf_end HNm.out HVl.out⟩
            go_upto_region 62 with fail
            go_wp2_with (refine wpList_store_row rfl 27 (.tmp 2) (.tmp 231) rfl r2 zn rfl rfl 27 zn HNm.out.z2 zn_info rfl zn_one ?_; rw [Hw9.out])
            refine bodyPost_ret (v := .tuple #[.agg zn, .int .i64 z]) (results_row_tmp Try.results13 _ _ r2 27 zn (0, 0) _ (by kernel_rfl) Hz9.out Try.underlying27 rfl zn_info) rfl ?_
            exact HE.out
        · have hc' : (c4 != 0) = true := by simpa using hc
          have HVl : Hid (R = (zN, c4)) := ⟨by rw [← HR.out]; exact tkN_of (st := (j3, c4)) (by rw [HVn.out]; show (xS bs 512 (nS bs (nS bs (xS bs 32 (a, 0)).2).2).2).2 = (j3, c4); rw [xS_ok Hx.out, nS_ok Hg.out, nS_ok Hi.out, xS_no Hy.out hc]) hc⟩
          obtain ⟨w9, Hw9⟩ : ∃ x, Hid (wt.setRow r2 zn = x) := ⟨_, ⟨rfl⟩⟩
          have Hz9 : Hid (w9.heap[r2]? = some (.cells zn 27 (0, 0))) := ⟨by rw [← Hw9.out]; exact setRow_heap _ _ zn _ 27 (0, 0) HNt.out.z2⟩
          have HE : Hid (TakeP w w9 R.1 R.2 (.returned (.tuple #[.agg zn, .int .i64 c4]))) := ⟨by rw [← Hw9.out]; exact leaf_end HNt.out HVl.out⟩
          go_upto_region 57 with fail
          go_wp2_with (refine wpList_store_row rfl 27 (.tmp 2) (.tmp 222) rfl r2 zn rfl rfl 27 zn HNt.out.z2 zn_info rfl zn_one ?_; rw [Hw9.out])
          refine bodyPost_ret (v := .tuple #[.agg zn, .int .i64 c4]) (results_row_tmp Try.results13 _ _ r2 27 zn (0, 0) _ (by kernel_rfl) Hz9.out Try.underlying27 rfl zn_info) rfl ?_
          exact HE.out
      · have hc' : (c3 != 0) = true := by simpa using hc
        have HVl : Hid (R = (zN, c3)) := ⟨by rw [← HR.out]; exact tkN_of (st := (j2, c3)) (by rw [HVn.out]; exact fI (st := (j2, c3)) (by show (nS bs (nS bs (xS bs 32 (a, 0)).2).2).2 = _; rw [xS_ok Hx.out, nS_ok Hg.out, nS_no Hi.out hc]) hc) hc⟩
        obtain ⟨w9, Hw9⟩ : ∃ x, Hid (w6.setRow r2 zn = x) := ⟨_, ⟨rfl⟩⟩
        have Hz9 : Hid (w9.heap[r2]? = some (.cells zn 27 (0, 0))) := ⟨by rw [← Hw9.out]; exact setRow_heap _ _ zn _ 27 (0, 0) HNw6.out.z2⟩
        have HE : Hid (TakeP w w9 R.1 R.2 (.returned (.tuple #[.agg zn, .int .i64 c3]))) := ⟨by rw [← Hw9.out]; exact leaf_end HNw6.out HVl.out⟩
        go_upto_region 18 with fail
        go_wp2_with (refine wpList_store_row rfl 27 (.tmp 2) (.tmp 91) rfl r2 zn rfl rfl 27 zn HNw6.out.z2 zn_info rfl zn_one ?_; rw [Hw9.out])
        refine bodyPost_ret (v := .tuple #[.agg zn, .int .i64 c3]) (results_row_tmp Try.results13 _ _ r2 27 zn (0, 0) _ (by kernel_rfl) Hz9.out Try.underlying27 rfl zn_info) rfl ?_
        exact HE.out
    · have hc' : (c2 != 0) = true := by simpa using hc
      have HVl : Hid (R = (zN, c2)) := ⟨by rw [← HR.out]; exact tkN_of (st := (j1, c2)) (by rw [HVn.out]; exact fG (st := (j1, c2)) (by show (nS bs (xS bs 32 (a, 0)).2).2 = _; rw [xS_ok Hx.out, nS_no Hg.out hc]) hc) hc⟩
      obtain ⟨w9, Hw9⟩ : ∃ x, Hid (w6.setRow r2 zn = x) := ⟨_, ⟨rfl⟩⟩
      have Hz9 : Hid (w9.heap[r2]? = some (.cells zn 27 (0, 0))) := ⟨by rw [← Hw9.out]; exact setRow_heap _ _ zn _ 27 (0, 0) HNw6.out.z2⟩
      have HE : Hid (TakeP w w9 R.1 R.2 (.returned (.tuple #[.agg zn, .int .i64 c2]))) := ⟨by rw [← Hw9.out]; exact leaf_end HNw6.out HVl.out⟩
      go_upto_region 14 with fail
      go_wp2_with (refine wpList_store_row rfl 27 (.tmp 2) (.tmp 77) rfl r2 zn rfl rfl 27 zn HNw6.out.z2 zn_info rfl zn_one ?_; rw [Hw9.out])
      refine bodyPost_ret (v := .tuple #[.agg zn, .int .i64 c2]) (results_row_tmp Try.results13 _ _ r2 27 zn (0, 0) _ (by kernel_rfl) Hz9.out Try.underlying27 rfl zn_info) rfl ?_
      exact HE.out
  · have hc' : (c1 != 0) = true := by simpa using hc
    have HVl : Hid (R = (zN, c1)) := ⟨by rw [← HR.out]; exact tkN_of (st := (a, c1)) (by rw [HVn.out]; exact fP (st := (a, c1)) (by show (xS bs 32 (a, 0)).2 = _; rw [xS_no Hx.out hc]) hc) hc⟩
    obtain ⟨w9, Hw9⟩ : ∃ x, Hid (w4.setRow r2 zn = x) := ⟨_, ⟨rfl⟩⟩
    have Hz9 : Hid (w9.heap[r2]? = some (.cells zn 27 (0, 0))) := ⟨by rw [← Hw9.out]; exact setRow_heap _ _ zn _ 27 (0, 0) HN4.out.z2⟩
    have HE : Hid (TakeP w w9 R.1 R.2 (.returned (.tuple #[.agg zn, .int .i64 c1]))) := ⟨by rw [← Hw9.out]; exact leaf_end HN4.out HVl.out⟩
    go_upto_region 10 with fail
    go_wp2_with (refine wpList_store_row rfl 27 (.tmp 2) (.tmp 62) rfl r2 zn rfl rfl 27 zn HN4.out.z2 zn_info rfl zn_one ?_; rw [Hw9.out])
    refine bodyPost_ret (v := .tuple #[.agg zn, .int .i64 c1]) (results_row_tmp Try.results13 _ _ r2 27 zn (0, 0) _ (by kernel_rfl) Hz9.out Try.underlying27 rfl zn_info) rfl ?_
    exact HE.out
end
end Go.Proofs.Ythohpbppfihoiaa
