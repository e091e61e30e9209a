/- The walk of GearAgain. -/
import Derived.Test.YtngeefipeghjiaaP2
namespace Go.Proofs.Ytngeefipeghjiaa
open Go.RowKit

set_option maxHeartbeats 4000000 in
set_option maxRecDepth 100000 in
theorem walk_gearAgain (v : Value) (b : Int × Int × Int) (seed : Int) (va : Value) (la : List Int) (vb : Value) (lb : List Int) (vd : Value) (ld : List Int) (w : World) (hv : CutV v b) (hw : (Lit.int .u64 seed).wf = true) (ha : Bs w va la) (hb : Bs w vb lb) (hd : Bs w vd ld) : Calls Try.prog 7 #[v, .int .u64 seed, va, vb, vd] w fun e w' => e = .returned (.bool true) ∧ Below w.heap.size w w' := by
  obtain ⟨h0, h1⟩ := u64_rng hw
  clear hw
  obtain ⟨mn, av, mx⟩ := b
  unfold CutV at hv
  subst hv
  simp only
  obtain ⟨zs, Hzs⟩ : ∃ zs, Hid (zc27 = zs) := ⟨_, ⟨rfl⟩⟩
  have hzv := zv27
  have hzn := zc27_ne
  rw [Hzs.out] at hzn
  simp only [Hzs.out] at hzv
  have HZS : Hid (zs.size = 256) := ⟨by rw [← Hzs.out]; simp [zc27]⟩
  obtain ⟨w1, HW1⟩ : ∃ w1, Hid (w.alloc (.cells #[.int .i64 mn, .int .i64 av, .int .i64 mx] 24) = w1) := ⟨_, ⟨rfl⟩⟩
  have Hb : Hid (Below w.heap.size w w1) := ⟨by rw [← HW1.out]; exact (Below.refl _ w).alloc (Nat.le_refl _) _⟩
  have Hx : Hid (w1.heap[w.heap.size]? = some (.cells #[.int .i64 mn, .int .i64 av, .int .i64 mx] 24 (0, 0))) := ⟨by rw [← HW1.out]; exact heap_alloc_new w _⟩
  have Hsz : Hid (w1.heap.size = w.heap.size + 1) := ⟨by rw [← HW1.out]; simp⟩
  obtain ⟨B, HBB⟩ : ∃ B, Hid (w.heap.size = B) := ⟨_, ⟨rfl⟩⟩
  have t1 := rtable_any seed w1
  go_enter Try.func7, Try.ntmps7
  go_upto_region 1 with fail
  rw [HW1.out]
  rw [HBB.out] at Hx Hsz Hb ⊢
  go_upto_region 2 with (first | (go_at_call 11; refine t1.mono ?_; rintro e w2 ⟨ta, rfl, hT, hb2⟩; have HT := Hid.mk hT; have HB2 := Hid.mk hb2; have hone := tab_one hT; have hpl : (Try.prog.info? 27).map (·.size) = some ta.size := (by rw [hT.1]; exact info27); have hts : zs.size = ta.size := (by rw [hT.1]; exact HZS.out); clear hT hb2) | (refine wpList_store_row rfl 27 (.tmp 11) (.tmp 25) rfl w2.heap.size ta rfl rfl 27 zs (heap_alloc_new w2 _) hpl hts hone ?_))
  obtain ⟨w3, HW3⟩ : ∃ w3, Hid ((w2.alloc (.cells zs 27)).setRow w2.heap.size ta = w3) := ⟨_, ⟨rfl⟩⟩
  rw [HW3.out]
  obtain ⟨Tb, HTb⟩ : ∃ Tb, Hid (w2.heap.size = Tb) := ⟨_, ⟨rfl⟩⟩
  obtain ⟨D, HD⟩ : ∃ D, Hid (w3.heap.size = D) := ⟨_, ⟨rfl⟩⟩
  have HX3 : Hid (w3.heap[B]? = some (.cells #[.int .i64 mn, .int .i64 av, .int .i64 mx] 24 (0, 0)) ∧ w3.heap[Tb]? = some (.cells ta 27 (0, 0)) ∧ B < D ∧ Tb < D ∧ Below B w w3) := ⟨by
    have e1 : w2.heap[B]? = some (.cells #[.int .i64 mn, .int .i64 av, .int .i64 mx] 24 (0, 0)) := (HB2.out.block B (by rw [Hsz.out]; omega)).trans Hx.out
    have hB2 : B < w2.heap.size := (Array.getElem?_eq_some_iff.1 e1).1
    have hsz3 : w3.heap.size = w2.heap.size + 1 := by rw [← HW3.out]; simp
    refine ⟨?_, ?_, by rw [← HD.out, hsz3]; omega, by rw [← HD.out, ← HTb.out, hsz3]; omega, ?_⟩
    · rw [← HW3.out, setRow_other _ _ _ _ (by omega), Below.heap_alloc _ _ _ hB2]; exact e1
    · rw [← HW3.out, ← HTb.out]; exact setRow_heap _ _ _ ta 27 (0, 0) (heap_alloc_new w2 _)
    · rw [← HW3.out]; exact below_setRow' ((Hb.out.trans (HB2.out.mono (by rw [Hsz.out]; omega))).alloc (by omega) _) (by omega) _⟩
  rw [HTb.out]
  clear hzv hzn hone hts t1
  have HCells : Hid (∀ w', Below D w3 w' → w'.heap[B]? = some (.cells #[.int .i64 mn, .int .i64 av, .int .i64 mx] 24 (0, 0)) ∧ w'.heap[Tb]? = some (.cells ta 27 (0, 0))) := ⟨fun w' hb' => ⟨(hb'.block B HX3.out.2.2.1).trans HX3.out.1, (hb'.block Tb HX3.out.2.2.2.1).trans HX3.out.2.1⟩⟩
  have HA : Hid (Bs w3 va la) := ⟨ha.below (by rw [HBB.out]; exact HX3.out.2.2.2.2)⟩
  have HBv : Hid (Bs w3 vb lb) := ⟨hb.below (by rw [HBB.out]; exact HX3.out.2.2.2.2)⟩
  have HDv : Hid (Bs w3 vd ld) := ⟨hd.below (by rw [HBB.out]; exact HX3.out.2.2.2.2)⟩
  obtain ⟨aa, ca, rfl, hla, _⟩ := HA.out
  obtain ⟨ab, cb, rfl, hlb, _⟩ := HBv.out
  obtain ⟨ad, cd, rfl, hld, _⟩ := HDv.out
  clear ha hb hd
  obtain ⟨hx, hx1⟩ := HCells.out w3 (Below.refl _ _)
  have t4 := rcheck_any mn av mx w3
  by_cases hok : okC mn av mx
  · rw [chk_ok hok] at t4
    go_upto_region 4 with (first | (refine wpList_load_row rfl 24 (.tmp 5) rfl B rfl 24 #[.int .i64 mn, .int .i64 av, .int .i64 mx] (0, 0) _ hx Try.underlying24 rfl info24 ?_) | (refine wpList_load_row rfl 27 (.tmp 11) rfl Tb rfl 27 ta (0, 0) _ hx1 Try.underlying27 rfl hpl ?_) | (go_at_call 13; refine t4.mono ?_; rintro e w4 ⟨rfl, hb4⟩))
    have Hw4 : Hid (Below D w3 w4) := ⟨by rw [← HD.out]; exact hb4⟩
    have szw4 : D ≤ w4.heap.size := by rw [← HD.out]; exact hb4.size
    clear t4 hx hx1 hb4
    have HSS : Hid (∀ w', Below D w3 w' → w'.cell? ⟨B, 0, none⟩ = some (.int .i64 mn) ∧ w'.cell? ⟨B, 1, none⟩ = some (.int .i64 av) ∧ w'.cell? ⟨B, 2, none⟩ = some (.int .i64 mx) ∧ (loadVar 27 ⟨Tb, 0, none⟩).run Try.prog w' = .ok (.agg ta) w') := ⟨fun w' hb' => by
      obtain ⟨hy, hy1⟩ := HCells.out w' hb'
      refine ⟨?_, ?_, ?_, run_loadVar_row w' Tb 27 27 ta (0, 0) (.array 256 26) hy1 Try.underlying27 rfl hpl⟩
      · rw [cell_of_row _ _ _ _ _ _ hy]; rfl
      · rw [cell_of_row _ _ _ _ _ _ hy]; rfl
      · rw [cell_of_row _ _ _ _ _ _ hy]; rfl⟩
    have HA3 : Hid (Bs w3 (.slice aa (min la.length 3000) ca) (la.take 3000)) := ⟨bs_small HA.out⟩
    have HB3 : Hid (Bs w3 (.slice ab (min lb.length 3000) cb) (lb.take 3000)) := ⟨bs_small HBv.out⟩
    have HD3 : Hid (Bs w3 (.slice ad (min ld.length 3000) cd) (ld.take 3000)) := ⟨bs_small HDv.out⟩
    have hA3 : (la.take 3000).length ≤ 3000 := List.length_take_le _ _
    have hB3 : (lb.take 3000).length ≤ 3000 := List.length_take_le _ _
    have hD3 : (ld.take 3000).length ≤ 3000 := List.length_take_le _ _
    generalize la.take 3000 = xa at HA3 hA3
    generalize lb.take 3000 = xb at HB3 hB3
    generalize ld.take 3000 = xd at HD3 hD3
    obtain ⟨E, HE⟩ : ∃ E, Hid (endB mn av mx (tabV seed) = E) := ⟨_, ⟨rfl⟩⟩
    obtain ⟨r1, Hrox⟩ : ∃ r, Hid ((feed E [] xa).1.length = r) := ⟨_, ⟨rfl⟩⟩
    obtain ⟨r2, Hroy⟩ : ∃ r, Hid ((feed E [] xb).1.length = r) := ⟨_, ⟨rfl⟩⟩
    have hr1 : r1 ≤ 3000 := by rw [← Hrox.out]; have := feed_len E xa []; omega
    have hr2 : r2 ≤ 3000 := by rw [← Hroy.out]; have := feed_len E xb []; omega
    go_wp2_with fail
    refine wp_region_held_drew (S := (fun w' => w'.cell? ⟨B, 0, none⟩ = some (.int .i64 mn) ∧ w'.cell? ⟨B, 1, none⟩ = some (.int .i64 av) ∧ w'.cell? ⟨B, 2, none⟩ = some (.int .i64 mx) ∧ (loadVar 27 ⟨Tb, 0, none⟩).run Try.prog w' = .ok (.agg ta) w')) (by kernel_rfl) (HSS.out w4.drew Hw4.out.drew) (fun hS => ?_)
    refine wpAnyH_take (i := 0) (v := .agg #[.int .i64 mn, .int .i64 av, .int .i64 mx]) rfl (by kernel_rfl) (by kernel_rfl) (by kernel_rfl) (fun _ _ _ h => h) (Or.inl ⟨by kernel_rfl, fun wx hx => by obtain ⟨hx0, hx1, hx2, hx3⟩ := hx; go_simp⟩) hS ?_
    refine wpAnyH_take (i := 1) (v := .agg ta) rfl (by kernel_rfl) (by kernel_rfl) (by kernel_rfl) (fun _ _ _ h => h) (Or.inl ⟨by kernel_rfl, fun wx hx => yld_load (x := .tmp 11) rfl (by kernel_rfl) hx.2.2.2⟩) hS ?_
    refine wpAnyH_take (i := 2) (v := .slice aa la.length ca) rfl (by kernel_rfl) (by kernel_rfl) (by kernel_rfl) (fun _ _ _ h => h) (Or.inl ⟨by kernel_rfl, fun _ _ => by kernel_rfl⟩) hS ?_
    refine wpAnyH_ready (rs := [3]) (by kernel_rfl) (by simp) (AllReadyH.cons rfl (fun Kc hK => ?_) AllReadyH.nil)
    go_simp
    refine (small_any _ _ _ hla _).mono ?_
    rintro e w' ⟨rfl, rfl⟩
    go_simp
    refine hK.out _ _ (HSS.out w4.drew Hw4.out.drew) (fun hS => ?_)
    clear hK
    refine wpAnyH_ready (rs := [4]) (by kernel_rfl) (by simp) (AllReadyH.cons rfl (fun Kc hK => ?_) AllReadyH.nil)
    go_simp
    refine (split_any hok ta _ HT.out _ xa (HA3.out.below (by rw [HD.out]; exact Hw4.out.drew)) (by omega)).mono ?_
    rintro e w5 ⟨ov, rv, rfl, hO, hOB, hR, hb⟩
    have Hw5 : Hid (Below D w3 w5) := ⟨Hw4.out.drew.trans (hb.mono (by show D ≤ w4.heap.size; exact szw4))⟩
    have HGw5 : Hid (Below w4.heap.size w4 w5) := ⟨(Below.refl _ w4).drew.trans hb⟩
    have szw5 : D ≤ w5.heap.size := Nat.le_trans szw4 HGw5.out.size
    have HOw5 := Hid.mk hO
    obtain ⟨ox, cox, rfl, hcox, _⟩ := hO.rows.shape
    obtain ⟨rox, crox, rfl, _⟩ := hR.bs
    clear hO hOB hR hb
    simp only [HE.out, Hrox.out] at HOw5 hcox ⊢
    go_simp
    refine hK.out _ _ (HSS.out w5 Hw5.out) (fun hS => ?_)
    clear hK
    refine wpAnyH_take (i := 5) (v := .tuple #[.slice ox r1 cox, .slice rox (feed E [] xa).2.length crox]) rfl (by kernel_rfl) (by kernel_rfl) (by kernel_rfl) (fun _ _ _ h => h) (Or.inl ⟨by kernel_rfl, fun _ _ => by kernel_rfl⟩) hS ?_
    refine wpAnyH_take (i := 6) (v := .slice ox r1 cox) rfl (by kernel_rfl) (by kernel_rfl) (by kernel_rfl) (fun _ _ _ h => h) (Or.inl ⟨by kernel_rfl, fun _ _ => by kernel_rfl⟩) hS ?_
    refine wpAnyH_take (i := 7) (v := .slice rox (feed E [] xa).2.length crox) rfl (by kernel_rfl) (by kernel_rfl) (by kernel_rfl) (fun _ _ _ h => h) (Or.inl ⟨by kernel_rfl, fun _ _ => by kernel_rfl⟩) hS ?_
    refine wpAnyH_take (i := 8) (v := .slice ox r1 cox) rfl (by kernel_rfl) (by kernel_rfl) (by kernel_rfl) (fun _ _ _ h => h) (Or.inl ⟨by kernel_rfl, fun _ _ => by kernel_rfl⟩) hS ?_
    refine wpAnyH_take (i := 9) (v := .slice rox (feed E [] xa).2.length crox) rfl (by kernel_rfl) (by kernel_rfl) (by kernel_rfl) (fun _ _ _ h => h) (Or.inl ⟨by kernel_rfl, fun _ _ => by kernel_rfl⟩) hS ?_
    refine wpAnyH_done (by kernel_rfl) ?_ _
    clear hS
    go_simp
    go_wp2_with fail
    refine wp_region_held_drew (S := (fun w' => w'.cell? ⟨B, 0, none⟩ = some (.int .i64 mn) ∧ w'.cell? ⟨B, 1, none⟩ = some (.int .i64 av) ∧ w'.cell? ⟨B, 2, none⟩ = some (.int .i64 mx) ∧ (loadVar 27 ⟨Tb, 0, none⟩).run Try.prog w' = .ok (.agg ta) w')) (by kernel_rfl) (HSS.out w5.drew Hw5.out.drew) (fun hS => ?_)
    refine wpAnyH_take (i := 0) (v := .agg #[.int .i64 mn, .int .i64 av, .int .i64 mx]) rfl (by kernel_rfl) (by kernel_rfl) (by kernel_rfl) (fun _ _ _ h => h) (Or.inl ⟨by kernel_rfl, fun wx hx => by obtain ⟨hx0, hx1, hx2, hx3⟩ := hx; go_simp⟩) hS ?_
    refine wpAnyH_take (i := 1) (v := .agg ta) rfl (by kernel_rfl) (by kernel_rfl) (by kernel_rfl) (fun _ _ _ h => h) (Or.inl ⟨by kernel_rfl, fun wx hx => yld_load (x := .tmp 11) rfl (by kernel_rfl) hx.2.2.2⟩) hS ?_
    refine wpAnyH_take (i := 2) (v := .slice ab lb.length cb) rfl (by kernel_rfl) (by kernel_rfl) (by kernel_rfl) (fun _ _ _ h => h) (Or.inl ⟨by kernel_rfl, fun _ _ => by kernel_rfl⟩) hS ?_
    refine wpAnyH_ready (rs := [3]) (by kernel_rfl) (by simp) (AllReadyH.cons rfl (fun Kc hK => ?_) AllReadyH.nil)
    go_simp
    refine (small_any _ _ _ hlb _).mono ?_
    rintro e w' ⟨rfl, rfl⟩
    go_simp
    refine hK.out _ _ (HSS.out w5.drew Hw5.out.drew) (fun hS => ?_)
    clear hK
    refine wpAnyH_ready (rs := [4]) (by kernel_rfl) (by simp) (AllReadyH.cons rfl (fun Kc hK => ?_) AllReadyH.nil)
    go_simp
    refine (split_any hok ta _ HT.out _ xb (HB3.out.below (by rw [HD.out]; exact Hw5.out.drew)) (by omega)).mono ?_
    rintro e w6 ⟨ov, rv, rfl, hO, hOB, hR, hb⟩
    have Hw6 : Hid (Below D w3 w6) := ⟨Hw5.out.drew.trans (hb.mono (by show D ≤ w5.heap.size; exact szw5))⟩
    have HGw6 : Hid (Below w5.heap.size w5 w6) := ⟨(Below.refl _ w5).drew.trans hb⟩
    have szw6 : D ≤ w6.heap.size := Nat.le_trans szw5 HGw6.out.size
    have HOw6 := Hid.mk hO
    obtain ⟨oy, coy, rfl, hcoy, _⟩ := hO.rows.shape
    obtain ⟨roy, croy, rfl, _⟩ := hR.bs
    clear hO hOB hR hb
    simp only [HE.out, Hroy.out] at HOw6 hcoy ⊢
    go_simp
    refine hK.out _ _ (HSS.out w6 Hw6.out) (fun hS => ?_)
    clear hK
    refine wpAnyH_take (i := 5) (v := .tuple #[.slice oy r2 coy, .slice roy (feed E [] xb).2.length croy]) rfl (by kernel_rfl) (by kernel_rfl) (by kernel_rfl) (fun _ _ _ h => h) (Or.inl ⟨by kernel_rfl, fun _ _ => by kernel_rfl⟩) hS ?_
    refine wpAnyH_take (i := 6) (v := .slice oy r2 coy) rfl (by kernel_rfl) (by kernel_rfl) (by kernel_rfl) (fun _ _ _ h => h) (Or.inl ⟨by kernel_rfl, fun _ _ => by kernel_rfl⟩) hS ?_
    refine wpAnyH_take (i := 7) (v := .slice roy (feed E [] xb).2.length croy) rfl (by kernel_rfl) (by kernel_rfl) (by kernel_rfl) (fun _ _ _ h => h) (Or.inl ⟨by kernel_rfl, fun _ _ => by kernel_rfl⟩) hS ?_
    refine wpAnyH_take (i := 8) (v := .slice oy r2 coy) rfl (by kernel_rfl) (by kernel_rfl) (by kernel_rfl) (fun _ _ _ h => h) (Or.inl ⟨by kernel_rfl, fun _ _ => by kernel_rfl⟩) hS ?_
    refine wpAnyH_take (i := 9) (v := .slice roy (feed E [] xb).2.length croy) rfl (by kernel_rfl) (by kernel_rfl) (by kernel_rfl) (fun _ _ _ h => h) (Or.inl ⟨by kernel_rfl, fun _ _ => by kernel_rfl⟩) hS ?_
    refine wpAnyH_done (by kernel_rfl) ?_ _
    clear hS
    go_simp
    go_wp2_with fail
    go_loopg [16, 18] r1 (fun gg sp si wr => ∃ kk : Nat, kk ≤ r1 ∧ r1 - kk ≤ gg ∧ si = .int .i64 (kk : Int) ∧ Hid (OwnB wr w6.heap.size sp (((feed E [] xa).1.take kk).flatten)) ∧ Hid (Below w6.heap.size w6 wr))
    case atStart => exact ⟨0, Nat.zero_le _, by omega, rfl, ⟨World.ownsRow_nil _ _ _ _⟩, ⟨Below.refl _ _⟩⟩
    case round =>
      obtain ⟨kk, hkk, hgg, rfl, HO, HB⟩ := hrel
      obtain ⟨ap, cp, rfl, hmp⟩ := OwnB.mine HO.out
      clear hmp
      have hsz := HB.out.size
      by_cases hlt : kk < r1
      · have hltz : (kk : Int) < (r1 : Int) := by omega
        have hlL : kk < (feed E [] xa).1.length := by rw [Hrox.out]; exact hlt
        have hR := ((HOw5.out.rows.still (Chg.ofBelow HGw6.out)).still (Chg.ofBelow HB.out)).at (i := kk) hlL
        rw [Hrox.out] at hR
        obtain ⟨b1, o1, c1', x1, m1, z1, e1, _, d1, y1⟩ := hR
        simp at e1
        obtain ⟨rfl, rfl⟩ := e1
        have HY : Hid (Bs wr (.slice x1 m1 z1) ((feed E [] xa).1.getD kk [])) := ⟨y1⟩
        have HF : Hid (((feed E [] xa).1.take (kk + 1)).flatten = ((feed E [] xa).1.take kk).flatten ++ (feed E [] xa).1.getD kk []) := ⟨flat_take_snoc _ hlL⟩
        have hfl : (((feed E [] xa).1.take kk).flatten).length + ((feed E [] xa).1.getD kk []).length ≤ 140735488355328 := by
          have h5 : (((feed E [] xa).1.take (kk + 1)).flatten).length ≤ (feed E [] xa).1.flatten.length := by
            conv => rhs; rw [← List.take_append_drop (kk + 1) (feed E [] xa).1, List.flatten_append, List.length_append]
            omega
          have h6 := congrArg List.length (feed_flat E xa [])
          rw [List.length_append] at h6
          rw [HF.out, List.length_append] at h5
          simp at h6
          simp only [List.length_flatten] at h5 h6 ⊢
          omega
        obtain ⟨np, Hnp⟩ : ∃ np, Hid ((((feed E [] xa).1.take kk).flatten).length = np) := ⟨_, ⟨rfl⟩⟩
        rw [Hnp.out] at HO ⊢
        clear y1
        go_wp2_with (at_builtin; refine wp_appSat (base := w6.heap.size) rfl (.tmp 52) (.tmp 56) rfl rfl HO.out rfl HY.out hfl hsz ?_; intro v' wq hO4 hG4 hV4; replace hG4 : Chg (ob (.slice ap np cp)) wr wq := hG4)
        go_roundg (r1 - (kk + 1))
        case measure => omega
        case rel => exact ⟨kk + 1, by omega, by omega, by go_num, ⟨by rw [HF.out]; exact hO4⟩, ⟨HB.out.trans (hG4.below hsz (fun x hx => (HO.out.lt x (mem_ob.1 hx)).1))⟩⟩
      · obtain rfl : r1 = kk := by omega
        have hfin : (feed E [] xa).1.take r1 = (feed E [] xa).1 := List.take_of_length_le (by rw [Hrox.out]; exact Nat.le_refl _)
        rw [hfin] at HO ⊢
        clear hfin
        obtain ⟨Fa, HFa⟩ : ∃ F, Hid ((feed E [] xa).1.flatten = F) := ⟨_, ⟨rfl⟩⟩
        rw [HFa.out] at HO ⊢
        obtain ⟨fa, Hfa⟩ : ∃ n, Hid (Fa.length = n) := ⟨_, ⟨rfl⟩⟩
        rw [Hfa.out] at HO ⊢
        have HG7 := HB
        have HOp := HO
        clear HB HO
        obtain ⟨w7, e7⟩ : ∃ x, x = wr := ⟨_, rfl⟩
        subst e7
        obtain ⟨app, e7⟩ : ∃ x, x = ap := ⟨_, rfl⟩
        subst e7
        obtain ⟨cpp, e7⟩ : ∃ x, x = cp := ⟨_, rfl⟩
        subst e7
        go_wp2_with fail
        go_loopg [17, 19] r2 (fun gg sp si wr => ∃ kk : Nat, kk ≤ r2 ∧ r2 - kk ≤ gg ∧ si = .int .i64 (kk : Int) ∧ Hid (OwnB wr w7.heap.size sp (((feed E [] xb).1.take kk).flatten)) ∧ Hid (Below w7.heap.size w7 wr))
        case atStart => exact ⟨0, Nat.zero_le _, by omega, rfl, ⟨World.ownsRow_nil _ _ _ _⟩, ⟨Below.refl _ _⟩⟩
        case round =>
          obtain ⟨kk, hkk, hgg, rfl, HO, HB⟩ := hrel
          obtain ⟨ap, cp, rfl, hmp⟩ := OwnB.mine HO.out
          clear hmp
          have hsz := HB.out.size
          by_cases hlt : kk < r2
          · have hltz : (kk : Int) < (r2 : Int) := by omega
            have hlL : kk < (feed E [] xb).1.length := by rw [Hroy.out]; exact hlt
            have hR := ((HOw6.out.rows.still (Chg.ofBelow HG7.out)).still (Chg.ofBelow HB.out)).at (i := kk) hlL
            rw [Hroy.out] at hR
            obtain ⟨b1, o1, c1', x1, m1, z1, e1, _, d1, y1⟩ := hR
            simp at e1
            obtain ⟨rfl, rfl⟩ := e1
            have HY : Hid (Bs wr (.slice x1 m1 z1) ((feed E [] xb).1.getD kk [])) := ⟨y1⟩
            have HF : Hid (((feed E [] xb).1.take (kk + 1)).flatten = ((feed E [] xb).1.take kk).flatten ++ (feed E [] xb).1.getD kk []) := ⟨flat_take_snoc _ hlL⟩
            have hfl : (((feed E [] xb).1.take kk).flatten).length + ((feed E [] xb).1.getD kk []).length ≤ 140735488355328 := by
              have h5 : (((feed E [] xb).1.take (kk + 1)).flatten).length ≤ (feed E [] xb).1.flatten.length := by
                conv => rhs; rw [← List.take_append_drop (kk + 1) (feed E [] xb).1, List.flatten_append, List.length_append]
                omega
              have h6 := congrArg List.length (feed_flat E xb [])
              rw [List.length_append] at h6
              rw [HF.out, List.length_append] at h5
              simp at h6
              simp only [List.length_flatten] at h5 h6 ⊢
              omega
            obtain ⟨np, Hnp⟩ : ∃ np, Hid ((((feed E [] xb).1.take kk).flatten).length = np) := ⟨_, ⟨rfl⟩⟩
            rw [Hnp.out] at HO ⊢
            clear y1
            go_wp2_with (at_builtin; refine wp_appSat (base := w7.heap.size) rfl (.tmp 64) (.tmp 68) rfl rfl HO.out rfl HY.out hfl hsz ?_; intro v' wq hO4 hG4 hV4; replace hG4 : Chg (ob (.slice ap np cp)) wr wq := hG4)
            go_roundg (r2 - (kk + 1))
            case measure => omega
            case rel => exact ⟨kk + 1, by omega, by omega, by go_num, ⟨by rw [HF.out]; exact hO4⟩, ⟨HB.out.trans (hG4.below hsz (fun x hx => (HO.out.lt x (mem_ob.1 hx)).1))⟩⟩
          · obtain rfl : r2 = kk := by omega
            have hfin : (feed E [] xb).1.take r2 = (feed E [] xb).1 := List.take_of_length_le (by rw [Hroy.out]; exact Nat.le_refl _)
            rw [hfin] at HO ⊢
            clear hfin
            obtain ⟨Fb, HFb⟩ : ∃ F, Hid ((feed E [] xb).1.flatten = F) := ⟨_, ⟨rfl⟩⟩
            rw [HFb.out] at HO ⊢
            obtain ⟨fb, Hfb⟩ : ∃ n, Hid (Fb.length = n) := ⟨_, ⟨rfl⟩⟩
            rw [Hfb.out] at HO ⊢
            have HG8 := HB
            have HOq := HO
            clear HB HO
            obtain ⟨w8, e7⟩ : ∃ x, x = wr := ⟨_, rfl⟩
            subst e7
            obtain ⟨aq, e7⟩ : ∃ x, x = ap := ⟨_, rfl⟩
            subst e7
            obtain ⟨cq, e7⟩ : ∃ x, x = cp := ⟨_, rfl⟩
            subst e7
            have szw6' : D ≤ w6.heap.size := szw6
            have szw7 : D ≤ w7.heap.size := Nat.le_trans szw6 HG7.out.size
            have szw8 : D ≤ w8.heap.size := Nat.le_trans szw7 HG8.out.size
            have Hw8 : Hid (Below D w3 w8) := ⟨(Hw6.out.trans (HG7.out.mono szw6)).trans (HG8.out.mono szw7)⟩
            have HOp8 : Hid (OwnB w8 w6.heap.size (.slice app fa cpp) Fa) := ⟨own_far HOp.out (Chg.ofBelow (X := []) HG8.out) (by simp)⟩
            have HYy : Hid (Byt Fa ∧ Byt Fb ∧ Byt xd ∧ Fa.length ≤ 3000 ∧ Fb.length ≤ 3000) := ⟨by
              have ya : Byt xa := by obtain ⟨_, _, _, _, _, _, _, hy⟩ := HA3.out; exact hy
              have yb : Byt xb := by obtain ⟨_, _, _, _, _, _, _, hy⟩ := HB3.out; exact hy
              have yd : Byt xd := by obtain ⟨_, _, _, _, _, _, _, hy⟩ := HD3.out; exact hy
              have qa := feed_flat E xa []
              have qb := feed_flat E xb []
              rw [HFa.out] at qa
              rw [HFb.out] at qb
              rw [List.nil_append] at qa qb
              refine ⟨fun y hy => ya y (by rw [← qa]; exact List.mem_append_left _ hy), fun y hy => yb y (by rw [← qb]; exact List.mem_append_left _ hy), yd, ?_, ?_⟩
              · have := congrArg List.length qa; rw [List.length_append] at this; omega
              · have := congrArg List.length qb; rw [List.length_append] at this; omega⟩
            have hfa3 : Fa.length ≤ 3000 := HYy.out.2.2.2.1
            have hfb3 : Fb.length ≤ 3000 := HYy.out.2.2.2.2
            have HLa : Hid (allL E (Fa ++ xd) = (feed E [] xa).1 ++ allL E xd) := ⟨by rw [← HFa.out]; exact allL_again E xa xd⟩
            have HLb : Hid (allL E (Fb ++ xd) = (feed E [] xb).1 ++ allL E xd) := ⟨by rw [← HFb.out]; exact allL_again E xb xd⟩
            obtain ⟨nl, Hnl⟩ : ∃ n, Hid (((feed E [] xa).1 ++ allL E xd).length = n) := ⟨_, ⟨rfl⟩⟩
            obtain ⟨nm, Hnm⟩ : ∃ n, Hid (((feed E [] xb).1 ++ allL E xd).length = n) := ⟨_, ⟨rfl⟩⟩
            go_wp2_with fail
            refine wp_region_held_drew (S := (fun w' => w'.cell? ⟨B, 0, none⟩ = some (.int .i64 mn) ∧ w'.cell? ⟨B, 1, none⟩ = some (.int .i64 av) ∧ w'.cell? ⟨B, 2, none⟩ = some (.int .i64 mx) ∧ (loadVar 27 ⟨Tb, 0, none⟩).run Try.prog w' = .ok (.agg ta) w')) (by kernel_rfl) (HSS.out w8.drew Hw8.out.drew) (fun hS => ?_)
            refine wpAnyH_take (i := 0) (v := .agg #[.int .i64 mn, .int .i64 av, .int .i64 mx]) rfl (by kernel_rfl) (by kernel_rfl) (by kernel_rfl) (fun _ _ _ h => h) (Or.inl ⟨by kernel_rfl, fun wx hx => by obtain ⟨hx0, hx1, hx2, hx3⟩ := hx; go_simp⟩) hS ?_
            refine wpAnyH_take (i := 1) (v := .agg ta) rfl (by kernel_rfl) (by kernel_rfl) (by kernel_rfl) (fun _ _ _ h => h) (Or.inl ⟨by kernel_rfl, fun wx hx => yld_load (x := .tmp 11) rfl (by kernel_rfl) hx.2.2.2⟩) hS ?_
            refine wpAnyH_take (i := 2) (v := .slice app fa cpp) rfl (by kernel_rfl) (by kernel_rfl) (by kernel_rfl) (fun _ _ _ h => h) (Or.inl ⟨by kernel_rfl, fun _ _ => by kernel_rfl⟩) hS ?_
            refine wpAnyH_take (i := 3) (v := .slice ad ld.length cd) rfl (by kernel_rfl) (by kernel_rfl) (by kernel_rfl) (fun _ _ _ h => h) (Or.inl ⟨by kernel_rfl, fun _ _ => by kernel_rfl⟩) hS ?_
            refine wpAnyH_ready (rs := [4]) (by kernel_rfl) (by simp) (AllReadyH.cons rfl (fun Kc hK => ?_) AllReadyH.nil)
            go_simp
            refine (small_any _ _ _ hld _).mono ?_
            rintro e w' ⟨rfl, rfl⟩
            go_simp
            refine hK.out _ _ (HSS.out w8.drew Hw8.out.drew) (fun hS => ?_)
            clear hK
            refine wpAnyH_ready (rs := [5]) (by kernel_rfl) (by simp) (AllReadyH.cons rfl (fun Kc hK => ?_) AllReadyH.nil)
            refine rdy_of (by kernel_rfl) ?_
            refine op_appSat (base := w6.heap.size) (xs := Fa) (.tmp 73) (.tmp 75) rfl (by kernel_rfl) (own_far HOp8.out (Chg.refl [] _).drew (by simp)) (by kernel_rfl) (HD3.out.below (by rw [HD.out]; exact Hw8.out.drew)) (by omega) (by show w6.heap.size ≤ w8.heap.size; exact Nat.le_trans HG7.out.size HG8.out.size) ?_
            intro va w9 hOa hGa hVa
            have Hw9 : Hid (Below D w3 w9) := ⟨Hw8.out.drew.trans (hGa.below (by show D ≤ w8.heap.size; exact szw8) (fun x hx => Nat.le_trans szw6 (HOp8.out.lt x (mem_ob.1 hx)).1))⟩
            have szw9 : D ≤ w9.heap.size := by have := Hw9.out.size; rw [HD.out] at this; exact this
            have HGw9 : Hid (Chg (ob (.slice app fa cpp)) w8 w9) := ⟨(Chg.refl _ w8).drew.trans hGa⟩
            have hY12 : Byt (Fa ++ xd) := fun y hy => by
              rcases List.mem_append.1 hy with q | q
              · exact HYy.out.1 y q
              · exact HYy.out.2.2.1 y q
            have t13 := all_any hok ta _ HT.out va (Fa ++ xd) (hOa.bs hY12) (by simp; omega)
            rw [HE.out, HLa.out] at t13
            obtain ⟨a12, c12, rfl, _⟩ := OwnB.mine hOa
            obtain ⟨n12, Hn12⟩ : ∃ n, Hid ((Fa ++ xd).length = n) := ⟨_, ⟨rfl⟩⟩
            rw [Hn12.out] at t13 ⊢
            clear hOa hGa hVa hY12
            refine hK.out _ _ (HSS.out w9 Hw9.out) (fun hS => ?_)
            clear hK
            refine wpAnyH_ready (rs := [6]) (by kernel_rfl) (by simp) (AllReadyH.cons rfl (fun Kc hK => ?_) AllReadyH.nil)
            go_simp
            refine t13.mono ?_
            rintro e w10 ⟨ov, rfl, hO, hOB, hb⟩
            have Hw10 : Hid (Below D w3 w10) := ⟨Hw9.out.trans (hb.mono szw9)⟩
            have HGw10 : Hid (Below w9.heap.size w9 w10) := ⟨hb⟩
            have szw10 : D ≤ w10.heap.size := Nat.le_trans szw9 HGw10.out.size
            have HOw10 := Hid.mk hO
            have HOBw10 := Hid.mk hOB
            obtain ⟨ol, col, rfl, hcol, _⟩ := hO.rows.shape
            clear hO hOB hb t13
            simp only [Hnl.out] at HOw10 HOBw10 hcol ⊢
            go_simp
            refine hK.out _ _ (HSS.out w10 Hw10.out) (fun hS => ?_)
            clear hK
            refine wpAnyH_take (i := 7) (v := .tuple #[.slice ol nl col, .int .i64 0]) rfl (by kernel_rfl) (by kernel_rfl) (by kernel_rfl) (fun _ _ _ h => h) (Or.inl ⟨by kernel_rfl, fun _ _ => by kernel_rfl⟩) hS ?_
            refine wpAnyH_take (i := 8) (v := .slice ol nl col) rfl (by kernel_rfl) (by kernel_rfl) (by kernel_rfl) (fun _ _ _ h => h) (Or.inl ⟨by kernel_rfl, fun _ _ => by kernel_rfl⟩) hS ?_
            refine wpAnyH_take (i := 9) (v := .int .i64 0) rfl (by kernel_rfl) (by kernel_rfl) (by kernel_rfl) (fun _ _ _ h => h) (Or.inl ⟨by kernel_rfl, fun _ _ => by kernel_rfl⟩) hS ?_
            refine wpAnyH_take (i := 10) (v := .slice ol nl col) rfl (by kernel_rfl) (by kernel_rfl) (by kernel_rfl) (fun _ _ _ h => h) (Or.inl ⟨by kernel_rfl, fun _ _ => by kernel_rfl⟩) hS ?_
            refine wpAnyH_take (i := 11) (v := .int .i64 0) rfl (by kernel_rfl) (by kernel_rfl) (by kernel_rfl) (fun _ _ _ h => h) (Or.inl ⟨by kernel_rfl, fun _ _ => by kernel_rfl⟩) hS ?_
            refine wpAnyH_done (by kernel_rfl) ?_ _
            clear hS
            go_simp
            go_wp2_with fail
            have HOq9 : Hid (OwnB w9 w7.heap.size (.slice aq fb cq) Fb) := ⟨own_far HOq.out HGw9.out (fun g hg hm => by
              have q1 := (HOq.out.lt g hg).1
              have q2 := (HOp.out.lt g (mem_ob.1 hm)).2
              omega)⟩
            have HOq10 : Hid (OwnB w10 w7.heap.size (.slice aq fb cq) Fb) := ⟨own_far HOq9.out (Chg.ofBelow (X := []) HGw10.out) (by simp)⟩
            refine wp_region_held_drew (S := (fun w' => w'.cell? ⟨B, 0, none⟩ = some (.int .i64 mn) ∧ w'.cell? ⟨B, 1, none⟩ = some (.int .i64 av) ∧ w'.cell? ⟨B, 2, none⟩ = some (.int .i64 mx) ∧ (loadVar 27 ⟨Tb, 0, none⟩).run Try.prog w' = .ok (.agg ta) w')) (by kernel_rfl) (HSS.out w10.drew Hw10.out.drew) (fun hS => ?_)
            refine wpAnyH_take (i := 0) (v := .agg #[.int .i64 mn, .int .i64 av, .int .i64 mx]) rfl (by kernel_rfl) (by kernel_rfl) (by kernel_rfl) (fun _ _ _ h => h) (Or.inl ⟨by kernel_rfl, fun wx hx => by obtain ⟨hx0, hx1, hx2, hx3⟩ := hx; go_simp⟩) hS ?_
            refine wpAnyH_take (i := 1) (v := .agg ta) rfl (by kernel_rfl) (by kernel_rfl) (by kernel_rfl) (fun _ _ _ h => h) (Or.inl ⟨by kernel_rfl, fun wx hx => yld_load (x := .tmp 11) rfl (by kernel_rfl) hx.2.2.2⟩) hS ?_
            refine wpAnyH_take (i := 2) (v := .slice aq fb cq) rfl (by kernel_rfl) (by kernel_rfl) (by kernel_rfl) (fun _ _ _ h => h) (Or.inl ⟨by kernel_rfl, fun _ _ => by kernel_rfl⟩) hS ?_
            refine wpAnyH_take (i := 3) (v := .slice ad ld.length cd) rfl (by kernel_rfl) (by kernel_rfl) (by kernel_rfl) (fun _ _ _ h => h) (Or.inl ⟨by kernel_rfl, fun _ _ => by kernel_rfl⟩) hS ?_
            refine wpAnyH_ready (rs := [4]) (by kernel_rfl) (by simp) (AllReadyH.cons rfl (fun Kc hK => ?_) AllReadyH.nil)
            go_simp
            refine (small_any _ _ _ hld _).mono ?_
            rintro e w' ⟨rfl, rfl⟩
            go_simp
            refine hK.out _ _ (HSS.out w10.drew Hw10.out.drew) (fun hS => ?_)
            clear hK
            refine wpAnyH_ready (rs := [5]) (by kernel_rfl) (by simp) (AllReadyH.cons rfl (fun Kc hK => ?_) AllReadyH.nil)
            refine rdy_of (by kernel_rfl) ?_
            refine op_appSat (base := w7.heap.size) (xs := Fb) (.tmp 83) (.tmp 85) rfl (by kernel_rfl) (own_far HOq10.out (Chg.refl [] _).drew (by simp)) (by kernel_rfl) (HD3.out.below (by rw [HD.out]; exact Hw10.out.drew)) (by omega) (by show w7.heap.size ≤ w10.heap.size; exact Nat.le_trans HG8.out.size (Nat.le_trans HGw9.out.size HGw10.out.size)) ?_
            intro va w11 hOa hGa hVa
            have Hw11 : Hid (Below D w3 w11) := ⟨Hw10.out.drew.trans (hGa.below (by show D ≤ w10.heap.size; exact szw10) (fun x hx => Nat.le_trans szw7 (HOq10.out.lt x (mem_ob.1 hx)).1))⟩
            have szw11 : D ≤ w11.heap.size := by have := Hw11.out.size; rw [HD.out] at this; exact this
            have HGw11 : Hid (Chg (ob (.slice aq fb cq)) w10 w11) := ⟨(Chg.refl _ w10).drew.trans hGa⟩
            have hY12 : Byt (Fb ++ xd) := fun y hy => by
              rcases List.mem_append.1 hy with q | q
              · exact HYy.out.2.1 y q
              · exact HYy.out.2.2.1 y q
            have t13 := all_any hok ta _ HT.out va (Fb ++ xd) (hOa.bs hY12) (by simp; omega)
            rw [HE.out, HLb.out] at t13
            obtain ⟨a12, c12, rfl, _⟩ := OwnB.mine hOa
            obtain ⟨n12, Hn12⟩ : ∃ n, Hid ((Fb ++ xd).length = n) := ⟨_, ⟨rfl⟩⟩
            rw [Hn12.out] at t13 ⊢
            clear hOa hGa hVa hY12
            refine hK.out _ _ (HSS.out w11 Hw11.out) (fun hS => ?_)
            clear hK
            refine wpAnyH_ready (rs := [6]) (by kernel_rfl) (by simp) (AllReadyH.cons rfl (fun Kc hK => ?_) AllReadyH.nil)
            go_simp
            refine t13.mono ?_
            rintro e w12 ⟨ov, rfl, hO, hOB, hb⟩
            have Hw12 : Hid (Below D w3 w12) := ⟨Hw11.out.trans (hb.mono szw11)⟩
            have HGw12 : Hid (Below w11.heap.size w11 w12) := ⟨hb⟩
            have szw12 : D ≤ w12.heap.size := Nat.le_trans szw11 HGw12.out.size
            have HOw12 := Hid.mk hO
            have HOBw12 := Hid.mk hOB
            obtain ⟨om, com, rfl, hcom, _⟩ := hO.rows.shape
            clear hO hOB hb t13
            simp only [Hnm.out] at HOw12 HOBw12 hcom ⊢
            go_simp
            refine hK.out _ _ (HSS.out w12 Hw12.out) (fun hS => ?_)
            clear hK
            refine wpAnyH_take (i := 7) (v := .tuple #[.slice om nm com, .int .i64 0]) rfl (by kernel_rfl) (by kernel_rfl) (by kernel_rfl) (fun _ _ _ h => h) (Or.inl ⟨by kernel_rfl, fun _ _ => by kernel_rfl⟩) hS ?_
            refine wpAnyH_take (i := 8) (v := .slice om nm com) rfl (by kernel_rfl) (by kernel_rfl) (by kernel_rfl) (fun _ _ _ h => h) (Or.inl ⟨by kernel_rfl, fun _ _ => by kernel_rfl⟩) hS ?_
            refine wpAnyH_take (i := 9) (v := .int .i64 0) rfl (by kernel_rfl) (by kernel_rfl) (by kernel_rfl) (fun _ _ _ h => h) (Or.inl ⟨by kernel_rfl, fun _ _ => by kernel_rfl⟩) hS ?_
            refine wpAnyH_take (i := 10) (v := .slice om nm com) rfl (by kernel_rfl) (by kernel_rfl) (by kernel_rfl) (fun _ _ _ h => h) (Or.inl ⟨by kernel_rfl, fun _ _ => by kernel_rfl⟩) hS ?_
            refine wpAnyH_take (i := 11) (v := .int .i64 0) rfl (by kernel_rfl) (by kernel_rfl) (by kernel_rfl) (fun _ _ _ h => h) (Or.inl ⟨by kernel_rfl, fun _ _ => by kernel_rfl⟩) hS ?_
            refine wpAnyH_done (by kernel_rfl) ?_ _
            clear hS
            go_simp
            have HL12 : Hid (OwnR w12 (fun k => w9.heap.size ≤ k) 0 (.slice ol nl col) ((feed E [] xa).1 ++ allL E xd)) := ⟨by
              have q0 : ∀ g ∈ ob (.slice aq fb cq), g < w9.heap.size := fun g hg => (HOq9.out.lt g (mem_ob.1 hg)).2
              have q1 := HOw10.out.far HGw11.out (fun k _ hk hm => by have := q0 k hm; omega) (fun k _ hk hm => by have := q0 k hm; have := HOBw10.out k (mem_ob.2 hk); omega)
              exact q1.far (Chg.ofBelow (X := []) HGw12.out) (by simp) (by simp)⟩
            have hnl : nl = r1 + (allL E xd).length := by rw [← Hnl.out, List.length_append, Hrox.out]
            have hnm : nm = r2 + (allL E xd).length := by rw [← Hnm.out, List.length_append, Hroy.out]
            have hnt : (allL E xd).length ≤ 3001 := by have := allL_len E xd; omega
            have H1 : Hid (RowsB w12 (fun k => w9.heap.size ≤ k) (.slice (if col = r1 then ol else Option.map (fun x => x.add r1) ol) (nl - r1) (col - r1)) (allL E xd)) := ⟨by
              have := HL12.out.dropG (k := r1) (by omega)
              rwa [← Hrox.out, List.drop_left, Hrox.out] at this⟩
            have H2 : Hid (RowsB w12 (fun k => w11.heap.size ≤ k) (.slice (if com = r2 then om else Option.map (fun x => x.add r2) om) (nm - r2) (com - r2)) (allL E xd)) := ⟨by
              have := HOw12.out.dropG (k := r2) (by omega)
              rwa [← Hroy.out, List.drop_left, Hroy.out] at this⟩
            have g1 : ¬ (nl : Int) < (r1 : Int) := by omega
            have g2 : ¬ (nm : Int) < (r2 : Int) := by omega
            have g3 : (r1 : Int) ≤ (nl : Int) := by omega
            have g4 : (r2 : Int) ≤ (nm : Int) := by omega
            have g5 : ¬ nl < r1 := by omega
            have g6 : ¬ nm < r2 := by omega
            clear hnl hnm
            go_wp2_with fail
            refine wp_region_held_drew (S := fun _ => True) (by kernel_rfl) trivial (fun hS => ?_)
            refine wpAnyH_ready (rs := [0]) (by kernel_rfl) (by simp) (AllReadyH.cons rfl (fun Kc hK => ?_) AllReadyH.nil)
            go_simp
            refine (live_any _).mono ?_
            rintro e w13 ⟨rfl, hb13⟩
            go_simp
            refine hK.out _ _ trivial (fun hS => ?_)
            clear hK
            refine wpAnyH_take (i := 1) (v := .bool true) rfl (by kernel_rfl) (by kernel_rfl) (by kernel_rfl) (fun _ _ _ h => h) (Or.inl ⟨by kernel_rfl, fun _ _ => by kernel_rfl⟩) hS ?_
            refine wpAnyH_take (i := 2) (v := .slice ol nl col) rfl (by kernel_rfl) (by kernel_rfl) (by kernel_rfl) (fun _ _ _ h => h) (Or.inl ⟨by kernel_rfl, fun _ _ => by kernel_rfl⟩) hS ?_
            refine wpAnyH_take (i := 3) (v := .slice ox r1 cox) rfl (by kernel_rfl) (by kernel_rfl) (by kernel_rfl) (fun _ _ _ h => h) (Or.inl ⟨by kernel_rfl, fun _ _ => by kernel_rfl⟩) hS ?_
            refine wpAnyH_take (i := 4) (v := .int .i64 (r1 : Int)) rfl (by kernel_rfl) (by kernel_rfl) (by kernel_rfl) (fun _ _ _ h => h) (Or.inl ⟨by kernel_rfl, fun wx hx => by go_simp⟩) hS ?_
            refine wpAnyH_take (i := 5) (v := .slice (if col = r1 then ol else Option.map (fun x => x.add r1) ol) (nl - r1) (col - r1)) rfl (by kernel_rfl) (by kernel_rfl) (by kernel_rfl) (fun _ _ _ h => h) (Or.inl ⟨by kernel_rfl, fun wx hx => by go_simp⟩) hS ?_
            refine wpAnyH_take (i := 6) (v := .slice om nm com) rfl (by kernel_rfl) (by kernel_rfl) (by kernel_rfl) (fun _ _ _ h => h) (Or.inl ⟨by kernel_rfl, fun _ _ => by kernel_rfl⟩) hS ?_
            refine wpAnyH_take (i := 7) (v := .slice oy r2 coy) rfl (by kernel_rfl) (by kernel_rfl) (by kernel_rfl) (fun _ _ _ h => h) (Or.inl ⟨by kernel_rfl, fun _ _ => by kernel_rfl⟩) hS ?_
            refine wpAnyH_take (i := 8) (v := .int .i64 (r2 : Int)) rfl (by kernel_rfl) (by kernel_rfl) (by kernel_rfl) (fun _ _ _ h => h) (Or.inl ⟨by kernel_rfl, fun wx hx => by go_simp⟩) hS ?_
            refine wpAnyH_take (i := 9) (v := .slice (if com = r2 then om else Option.map (fun x => x.add r2) om) (nm - r2) (com - r2)) rfl (by kernel_rfl) (by kernel_rfl) (by kernel_rfl) (fun _ _ _ h => h) (Or.inl ⟨by kernel_rfl, fun wx hx => by go_simp⟩) hS ?_
            refine wpAnyH_ready (rs := [10]) (by kernel_rfl) (by simp) (AllReadyH.cons rfl (fun Kc hK => ?_) AllReadyH.nil)
            have hst : Chg [] w12 w13 := (Chg.refl [] w12).drew.trans (Chg.ofBelow hb13)
            have ts := same_yes (H1.out.still hst) (H2.out.still hst) (by omega)
            go_simp
            refine ts.mono ?_
            rintro e w14 ⟨rfl, hG14⟩
            go_simp
            refine hK.out _ _ trivial (fun hS => ?_)
            clear hK ts
            refine wpAnyH_take (i := 11) (v := .bool true) rfl (by kernel_rfl) (by kernel_rfl) (by kernel_rfl) (fun _ _ _ h => h) (Or.inl ⟨by kernel_rfl, fun _ _ => by kernel_rfl⟩) hS ?_
            refine wpAnyH_take (i := 12) (v := .bool true) rfl (by kernel_rfl) (by kernel_rfl) (by kernel_rfl) (fun _ _ _ h => h) (Or.inl ⟨by kernel_rfl, fun _ _ => by kernel_rfl⟩) hS ?_
            refine wpAnyH_done (by kernel_rfl) ?_ _
            clear hS
            go_simp
            go_wp2
            all_goals
              go_ret
              exact ⟨rfl, by rw [HBB.out]; exact HX3.out.2.2.2.2.trans (((Hw12.out.drew.mono (by have := HX3.out.2.2.1; omega)).trans (hb13.mono (by show B ≤ w12.heap.size; have := HX3.out.2.2.1; omega))).trans (hG14.below (by have : w12.heap.size ≤ w13.heap.size := hb13.size; have := HX3.out.2.2.1; omega) (by simp)))⟩
  · rw [chk_no hok] at t4
    go_upto_region 3 with (first | (refine wpList_load_row rfl 24 (.tmp 5) rfl B rfl 24 #[.int .i64 mn, .int .i64 av, .int .i64 mx] (0, 0) _ hx Try.underlying24 rfl info24 ?_) | (refine wpList_load_row rfl 27 (.tmp 11) rfl Tb rfl 27 ta (0, 0) _ hx1 Try.underlying27 rfl hpl ?_) | (go_at_call 13; refine t4.mono ?_; rintro e w4 ⟨rfl, hb4⟩))
    clear hx hx1 t4
    go_wp2_with (go_at_call 9; refine (live_any w4).mono ?_; rintro e w5 ⟨rfl, hb5⟩)
    go_ret
    exact ⟨rfl, by rw [HBB.out]; rw [HD.out] at hb4; exact HX3.out.2.2.2.2.trans ((hb4.mono (by have := HX3.out.2.2.1; omega)).trans (hb5.mono (by have := hb4.size; have := HD.out; have := HX3.out.2.2.1; omega)))⟩
end Go.Proofs.Ytngeefipeghjiaa
