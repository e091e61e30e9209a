/- The walk of GearPieces. -/
import Derived.Test.YtngeefipeghjiaaP3
import Derived.Test.YtngeefipeghjiaaL4
namespace Go.Proofs.Ytngeefipeghjiaa
open Go.RowKit

/-- Pieces of bytes that came in. -/
structure PcV (w : World) (v : Value) (L : List (List Int)) : Prop where
  shape : ∃ a cap, v = .slice a L.length cap ∧ L.length ≤ cap
  at' : ∀ i, i < L.length → ∃ b off cap x m q, v = .slice (some ⟨b, off, none⟩) L.length cap ∧ w.cell? ⟨b, off + i, none⟩ = some (.slice x m q) ∧ Bs w (.slice x m q) (L.getD i [])
  len : L.length ≤ 1048576
  flat : L.flatten.length ≤ 1048576
theorem PcV.below {w w' : World} {v : Value} {L : List (List Int)} (h : PcV w v L) (hb : Below w.heap.size w w') : PcV w' v L :=
  ⟨h.shape, fun i hi => by
    obtain ⟨b, off, cap, x, m, q, e, hc, hs⟩ := h.at' i hi
    exact ⟨b, off, cap, x, m, q, e, (hb.cell (World.block_lt_of_cell? _ _ hc)).trans hc, hs.below hb⟩, h.len, h.flat⟩
set_option maxHeartbeats 4000000 in
set_option maxRecDepth 100000 in
theorem walk_gearPieces (v : Value) (b : Int × Int × Int) (seed : Int) (lv : Value) (L : List (List Int)) (w : World) (hv : CutV v b) (hw : (Lit.int .u64 seed).wf = true) (hl : PcV w lv L) : Calls Try.prog 5 #[v, .int .u64 seed, lv] w fun e w' => e = .returned (.bool true) ∧ Below w.heap.size w w' := by
  obtain ⟨h0, h1⟩ := u64_rng hw
  clear hw
  obtain ⟨mn, av, mx⟩ := b
  unfold CutV at hv
  subst hv
  simp only
  obtain ⟨zs, Hzs⟩ : ∃ zs, Hid (zc27 = zs) := ⟨_, ⟨rfl⟩⟩
  have hzv := zv27
  have hzn := zc27_ne
  rw [Hzs.out] at hzn
  simp only [Hzs.out] at hzv
  have HZS : Hid (zs.size = 256) := ⟨by rw [← Hzs.out]; simp [zc27]⟩
  obtain ⟨w1, HW1⟩ : ∃ w1, Hid (w.alloc (.cells #[.int .i64 mn, .int .i64 av, .int .i64 mx] 24) = w1) := ⟨_, ⟨rfl⟩⟩
  have Hb : Hid (Below w.heap.size w w1) := ⟨by rw [← HW1.out]; exact (Below.refl _ w).alloc (Nat.le_refl _) _⟩
  have Hx : Hid (w1.heap[w.heap.size]? = some (.cells #[.int .i64 mn, .int .i64 av, .int .i64 mx] 24 (0, 0))) := ⟨by rw [← HW1.out]; exact heap_alloc_new w _⟩
  have Hsz : Hid (w1.heap.size = w.heap.size + 1) := ⟨by rw [← HW1.out]; simp⟩
  obtain ⟨B, HBB⟩ : ∃ B, Hid (w.heap.size = B) := ⟨_, ⟨rfl⟩⟩
  have t1 := rtable_any seed w1
  go_enter Try.func5, Try.ntmps5
  go_upto_region 1 with fail
  rw [HW1.out]
  rw [HBB.out] at Hx Hsz Hb ⊢
  go_upto_region 2 with (first | (go_at_call 11; refine t1.mono ?_; rintro e w2 ⟨ta, rfl, hT, hb2⟩; have HT := Hid.mk hT; have HB2 := Hid.mk hb2; have hone := tab_one hT; have hpl : (Try.prog.info? 27).map (·.size) = some ta.size := (by rw [hT.1]; exact info27); have hts : zs.size = ta.size := (by rw [hT.1]; exact HZS.out); clear hT hb2) | (refine wpList_store_row rfl 27 (.tmp 7) (.tmp 28) rfl w2.heap.size ta rfl rfl 27 zs (heap_alloc_new w2 _) hpl hts hone ?_))
  obtain ⟨w3, HW3⟩ : ∃ w3, Hid ((w2.alloc (.cells zs 27)).setRow w2.heap.size ta = w3) := ⟨_, ⟨rfl⟩⟩
  rw [HW3.out]
  obtain ⟨Tb, HTb⟩ : ∃ Tb, Hid (w2.heap.size = Tb) := ⟨_, ⟨rfl⟩⟩
  obtain ⟨D, HD⟩ : ∃ D, Hid (w3.heap.size = D) := ⟨_, ⟨rfl⟩⟩
  have HX3 : Hid (w3.heap[B]? = some (.cells #[.int .i64 mn, .int .i64 av, .int .i64 mx] 24 (0, 0)) ∧ w3.heap[Tb]? = some (.cells ta 27 (0, 0)) ∧ B < D ∧ Tb < D ∧ Below B w w3) := ⟨by
    have e1 : w2.heap[B]? = some (.cells #[.int .i64 mn, .int .i64 av, .int .i64 mx] 24 (0, 0)) := (HB2.out.block B (by rw [Hsz.out]; omega)).trans Hx.out
    have hB2 : B < w2.heap.size := (Array.getElem?_eq_some_iff.1 e1).1
    have hsz3 : w3.heap.size = w2.heap.size + 1 := by rw [← HW3.out]; simp
    refine ⟨?_, ?_, by rw [← HD.out, hsz3]; omega, by rw [← HD.out, ← HTb.out, hsz3]; omega, ?_⟩
    · rw [← HW3.out, setRow_other _ _ _ _ (by omega), Below.heap_alloc _ _ _ hB2]; exact e1
    · rw [← HW3.out, ← HTb.out]; exact setRow_heap _ _ _ ta 27 (0, 0) (heap_alloc_new w2 _)
    · rw [← HW3.out]; exact below_setRow' ((Hb.out.trans (HB2.out.mono (by rw [Hsz.out]; omega))).alloc (by omega) _) (by omega) _⟩
  rw [HTb.out]
  clear hzv hzn hone hts t1
  have HCells : Hid (∀ w', Below D w3 w' → w'.heap[B]? = some (.cells #[.int .i64 mn, .int .i64 av, .int .i64 mx] 24 (0, 0)) ∧ w'.heap[Tb]? = some (.cells ta 27 (0, 0))) := ⟨fun w' hb' => ⟨(hb'.block B HX3.out.2.2.1).trans HX3.out.1, (hb'.block Tb HX3.out.2.2.2.1).trans HX3.out.2.1⟩⟩
  have HL : Hid (PcV w3 lv L) := ⟨hl.below (by rw [HBB.out]; exact HX3.out.2.2.2.2)⟩
  obtain ⟨al, cl, rfl, hlc⟩ := hl.shape
  have hll := hl.len
  obtain ⟨n, Hn⟩ : ∃ n, Hid (L.length = n) := ⟨_, ⟨rfl⟩⟩
  rw [Hn.out] at hll hlc ⊢
  clear hl
  obtain ⟨hx, hx1⟩ := HCells.out w3 (Below.refl _ _)
  by_cases hok : okC mn av mx
  · have t4 := new_any hok ta _ HT.out w3
    go_upto_region 3 with (first | (refine wpList_load_row rfl 24 (.tmp 3) rfl B rfl 24 #[.int .i64 mn, .int .i64 av, .int .i64 mx] (0, 0) _ hx Try.underlying24 rfl info24 ?_) | (refine wpList_load_row rfl 27 (.tmp 7) rfl Tb rfl 27 ta (0, 0) _ hx1 Try.underlying27 rfl hpl ?_) | (go_at_call 18; refine t4.mono ?_; rintro e w4 ⟨p, cs4, rfl, hp4, hC4, hb4⟩; have HC4 := Hid.mk hC4; have HB4 := Hid.mk hb4; have HP4 := Hid.mk hp4; clear hC4 hb4 hp4))
    rw [HD.out] at HB4 HP4
    clear t4 hx hx1
    obtain ⟨hx, hx1⟩ := HCells.out w4 HB4.out
    have t5 := rcheck_any mn av mx w4
    rw [chk_ok hok] at t5
    go_upto_region 10 with (first | (refine wpList_load_row rfl 24 (.tmp 3) rfl B rfl 24 #[.int .i64 mn, .int .i64 av, .int .i64 mx] (0, 0) _ hx Try.underlying24 rfl info24 ?_) | (refine wpList_load_row rfl 27 (.tmp 7) rfl Tb rfl 27 ta (0, 0) _ hx1 Try.underlying27 rfl hpl ?_) | (go_at_call 13; refine t5.mono ?_; rintro e w5 ⟨rfl, hb5⟩))
    have HB5 : Hid (Below D w3 w5) := ⟨HB4.out.trans (hb5.mono (by rw [← HD.out]; exact HB4.out.size))⟩
    obtain ⟨E, HE⟩ : ∃ E, Hid (endB mn av mx (tabV seed) = E) := ⟨_, ⟨rfl⟩⟩
    have HEL : Hid (endL mn mx (4294967296 / av) (tabV seed) = E) := ⟨HE.out⟩
    have Hok : Hid (okC mn av mx) := ⟨hok⟩
    have HI0 : Hid (Pcs w3 w5 D p mn mx (4294967296 / av) (tabV seed) cs4 (.slice none 0 0) (.slice none 0 0) (.slice none 0 0) [] [] []) := ⟨⟨HC4.out.far (Chg.ofBelow (X := []) hb5) (by simp) (by simp), own_nilB _, OwnR.nil _ _ _, HB5.out, HP4.out, by simp [ob, Value.ownBlock], by simp [ob, Value.ownBlock], by simp [ob, Value.ownBlock]⟩⟩
    clear hx hx1 t5 hb5 hok
    go_loopg [10, 11, 12, 13, 14, 15, 16, 17, 18] n (fun gg s10 s11 s12 _ _ _ _ _ _ wr => ∃ kk : Nat, kk ≤ n ∧ n - kk ≤ gg ∧ s12 = .int .i64 (kk : Int) ∧ ∃ cs v, Hid (Pcs w3 wr D p mn mx (4294967296 / av) (tabV seed) cs v s10 s11 ((L.take kk).flatten) (feed E [] ((L.take kk).flatten)).2 (feed E [] ((L.take kk).flatten)).1) ∧ Hid (Byt ((L.take kk).flatten)))
    case atStart => exact ⟨0, Nat.zero_le _, by omega, rfl, cs4, .slice none 0 0, ⟨by rw [List.take_zero]; exact HI0.out⟩, ⟨fun y hy => by simp at hy⟩⟩
    case round =>
      obtain ⟨kk, hkk, hgg, rfl, cs, v, HI, HYa⟩ := hrel
      obtain ⟨W, e0⟩ : ∃ x, x = wr := ⟨_, rfl⟩
      subst e0
      obtain ⟨Al, HAl⟩ : ∃ A, Hid ((L.take kk).flatten = A) := ⟨_, ⟨rfl⟩⟩
      rw [HAl.out] at HI HYa
      obtain ⟨R, HR⟩ : ∃ R, Hid (feed E [] Al = R) := ⟨_, ⟨rfl⟩⟩
      rw [HR.out] at HI
      have hAl : Al.length ≤ 1048576 := by
        have h5 : ((L.take kk).flatten).length ≤ L.flatten.length := by
          conv => rhs; rw [← List.take_append_drop kk L, List.flatten_append, List.length_append]
          omega
        rw [HAl.out] at h5
        exact Nat.le_trans h5 HL.out.flat
      obtain ⟨aa, ca, rfl, hma⟩ := OwnB.mine HI.out.all
      obtain ⟨ag, cg, rfl, _⟩ := HI.out.got.rows.shape
      clear hma
      obtain ⟨na, Hna⟩ : ∃ n, Hid (Al.length = n) := ⟨_, ⟨rfl⟩⟩
      obtain ⟨ng, Hng⟩ : ∃ n, Hid (R.1.length = n) := ⟨_, ⟨rfl⟩⟩
      rw [Hna.out, Hng.out] at HI ⊢
      rw [Hna.out] at hAl
      by_cases hlt : kk < n
      · have hltz : (kk : Int) < (n : Int) := by omega
        have hlL : kk < L.length := by rw [Hn.out]; exact hlt
        obtain ⟨b1, o1, c1, x1, m1, z1, e1, d0, y0⟩ := HL.out.at' kk hlL
        have HD1 : Hid (∀ w', Below D w3 w' → w'.cell? ⟨b1, o1 + kk, none⟩ = some (.slice x1 m1 z1) ∧ Bs w' (.slice x1 m1 z1) (L.getD kk [])) := ⟨fun w' hb => by
          rw [← HD.out] at hb
          exact ⟨(hb.cell (World.block_lt_of_cell? _ _ d0)).trans d0, y0.below hb⟩⟩
        obtain ⟨d1, y1⟩ := HD1.out W HI.out.bel
        clear d0 y0
        rw [Hn.out] at e1
        simp at e1
        obtain ⟨rfl, rfl⟩ := e1
        obtain ⟨li, Hli⟩ : ∃ l, Hid (L.getD kk [] = l) := ⟨_, ⟨rfl⟩⟩
        rw [Hli.out] at y1 HD1
        have HY := Hid.mk y1
        obtain ⟨_, _, ez, hmz, hzm, _⟩ := y1
        simp at ez
        obtain ⟨rfl, rfl, rfl⟩ := ez
        obtain ⟨m1, Hm1⟩ : ∃ n, Hid (li.length = n) := ⟨_, ⟨rfl⟩⟩
        rw [Hm1.out] at HY d1 hmz HD1
        have ts := small_any x1 m1 z1 hmz W
        have HF : Hid ((L.take (kk + 1)).flatten = Al ++ li) := ⟨by rw [flat_take_snoc L hlL, HAl.out, Hli.out]⟩
        have hli : na + m1 ≤ 1048576 := by
          have h5 : ((L.take (kk + 1)).flatten).length ≤ L.flatten.length := by
            conv => rhs; rw [← List.take_append_drop (kk + 1) L, List.flatten_append, List.length_append]
            omega
          have h6 := HL.out.flat
          rw [HF.out, List.length_append, Hna.out, Hm1.out] at h5
          omega
        by_cases hfit : (na : Int) + ((min m1 3000 : Nat) : Int) ≤ 3000
        · generalize min m1 3000 = mm at ts hfit
          go_upto_region 12 with (go_at_call 14; refine ts.mono ?_; rintro e w' ⟨rfl, rfl⟩)
          have d2 : (W.alloc (.cells #[] 5)).cell? ⟨b1, o1 + kk, none⟩ = some (.slice x1 m1 z1) := (((Below.refl _ W).alloc (Nat.le_refl _) _).cell (World.block_lt_of_cell? _ _ d1)).trans d1
          have HN0 : Hid (OwnB (W.alloc (.cells #[] 5)) W.heap.size (.slice (some ⟨W.heap.size, 0, none⟩) 0 0) []) := ⟨ownb_none W⟩
          have HP0 : Hid (Bs (W.alloc (.cells #[] 5)) (.slice x1 m1 z1) li) := ⟨HY.out.below ((Below.refl _ W).alloc (Nat.le_refl _) _)⟩
          have hlen0 : ([] : List Int).length + li.length ≤ 140735488355328 := by have := Hm1.out; simp; omega
          clear ts
          go_upto_region 13 with (at_builtin; refine wp_appSat (base := W.heap.size) rfl (.tmp 67) (.tmp 71) rfl rfl HN0.out rfl HP0.out hlen0 (by simp) ?_; intro vo w1 hO1 hG1 hV1; replace hG1 : Chg (ob (.slice (some ⟨W.heap.size, 0, none⟩) 0 0)) (W.alloc (.cells #[] 5)) w1 := hG1)
          have HB1 : Hid (Below W.heap.size W w1) := ⟨((Below.refl _ W).alloc (Nat.le_refl _) _).trans (hG1.below (by simp) (fun x hx => by simp [ob, Value.ownBlock] at hx; omega))⟩
          have HO1 : Hid (OwnB w1 W.heap.size vo li) := ⟨by simpa using hO1⟩
          have HYl : Hid (Byt li) := ⟨by obtain ⟨_, _, _, _, _, _, _, hy⟩ := HY.out; exact hy⟩
          have HRb : Hid (Byt R.2 ∧ R.2.length ≤ 512) := ⟨by
            have q1 := byt_feed (E := E) Al (l := []) (fun y hy => by cases hy) HYa.out
            have q2 := (feed_max (mn := mn) (av := av) (mx := mx) (T := tabV seed) Al [] (by have := Hok.out.1; have := Hok.out.2.1; simp; omega)).2
            rw [HE.out, HR.out] at q2
            rw [HR.out] at q1
            exact ⟨q1, by have := Hok.out.2.2.1; omega⟩⟩
          obtain ⟨ao, co, rfl, hmo⟩ := OwnB.mine HO1.out
          have HMo := Hid.mk hmo
          have tw := write_any (HI.out.cut.far (Chg.ofBelow (X := []) HB1.out) (by simp) (by simp)) Hok.out.2.2.1 HRb.out.2 HRb.out.1 _ li (HO1.out.bs HYl.out) (fun hpos k hk hm => by
            have q1 := (HO1.out.lt k hk).1
            rcases List.mem_cons.1 hm with q | q
            · have := HI.out.cut.lt; omega
            · have := (HI.out.cut.own.lt k (mem_ob.1 q)).2; omega) (by have := Hm1.out; omega)
          rw [HEL.out] at tw
          obtain ⟨X, HX⟩ : ∃ X, Hid (feed E R.2 li = X) := ⟨_, ⟨rfl⟩⟩
          rw [HX.out] at tw
          have HFe : Hid (feed E [] (Al ++ li) = (R.1 ++ X.1, X.2)) := ⟨by rw [feed_append, HR.out, HX.out]⟩
          rw [Hm1.out] at HO1 HMo tw ⊢
          clear hO1 hG1 hV1 hmo d2 HN0 HP0
          go_upto_region 14 with (go_at_call 19; refine tw.mono ?_; rintro e w2 ⟨xv, cs2, v2, rfl, hO2, hOB2, hC2, hG2, hV2⟩; have HX2 := Hid.mk hO2; obtain ⟨ax, cx, rfl, _⟩ := hO2.rows.shape)
          have HC2 := Hid.mk hC2
          have HG2 := Hid.mk hG2
          have HV2 := Hid.mk hV2
          have hvb : ∀ k ∈ ob (.slice ao m1 co), k ∉ p :: ob v := fun k hk hm => by
            have q1 := (HO1.out.lt k (mem_ob.1 hk)).1
            rcases List.mem_cons.1 hm with q | q
            · have := HI.out.cut.lt; omega
            · have := (HI.out.cut.own.lt k (mem_ob.1 q)).2; omega
          have HO2o : Hid (OwnB w2 W.heap.size (.slice ao m1 co) li) := ⟨own_far HO1.out hG2 (fun k hk => hvb k (mem_ob.2 hk))⟩
          have HM2 : Hid (Mine w2 W.heap.size ao m1) := ⟨by
            obtain ⟨ao', co', e, hm⟩ := OwnB.mine HO2o.out
            simp at e
            obtain ⟨rfl, e2, _⟩ := e
            rw [Hm1.out] at hm
            exact hm⟩
          obtain ⟨nx, Hnx⟩ : ∃ n, Hid (X.1.length = n) := ⟨_, ⟨rfl⟩⟩
          rw [Hnx.out] at HX2 ⊢
          clear hO2 hOB2 hC2 hG2 hV2 tw hvb
          go_wp2_with fail
          go_loopg [16] m1 (fun gg s16 wq => ∃ jj : Nat, jj ≤ m1 ∧ m1 - jj ≤ gg ∧ s16 = .int .i64 (jj : Int) ∧ Hid (Mine wq W.heap.size ao m1) ∧ Hid (Chg (ob (.slice ao m1 co)) w2 wq))
          case atStart => exact ⟨0, Nat.zero_le _, by omega, rfl, HM2, ⟨Chg.refl _ _⟩⟩
          case round =>
            obtain ⟨jj, hjj, hjg, rfl, HMj, HGj⟩ := hrel
            by_cases hjl : jj < m1
            · have hjz : (jj : Int) < (m1 : Int) := by omega
              obtain ⟨kb, cur, z, rfl, hkb, hh, hcz⟩ := HMj.out jj hjl
              have c1 : wr.cell? ⟨kb, jj, none⟩ = some (.int .u8 z) := (cell_of_row _ _ _ _ _ _ hh).trans hcz
              have f1 : wr.frozen? ⟨kb, jj, none⟩ = false := frozen_of_row _ _ _ _ 5 hh
              clear hh hcz
              go_wp2
              go_roundg (m1 - (jj + 1))
              case measure => omega
              case rel => exact ⟨jj + 1, by omega, by omega, by go_num, ⟨HMj.out.put _⟩, ⟨HGj.out.setCell (.inl (by simp [ob, Value.ownBlock])) _⟩⟩
            · obtain rfl : m1 = jj := by omega
              obtain ⟨w4, e0⟩ : ∃ x, x = wr := ⟨_, rfl⟩
              subst e0
              obtain ⟨hP4, hX4⟩ := HI.out.write HB1.out HG2.out HC2.out HV2.out HX2.out (vo := .slice ao m1 co) (fun k hk => HO1.out.lt k (mem_ob.1 hk)) HGj.out (fun k hk => own_ty HO2o.out (mem_ob.1 hk))
              have HP4 := Hid.mk hP4
              have HX4 := Hid.mk hX4
              obtain ⟨d4, y4⟩ := HD1.out w4 hP4.bel
              have HY4 := Hid.mk y4
              clear hP4 hX4 y4 HMj HGj HM2 HO2o HX2 HC2 HG2 HV2 HB1 HO1 HMo d1
              have hlen4 : Al.length + li.length ≤ 140735488355328 := by have := Hm1.out; have := Hna.out; omega
              go_upto_region 19 with (at_builtin; refine wp_appSat (base := 0) rfl (.tmp 91) (.tmp 95) rfl rfl HP4.out.all rfl HY4.out hlen4 (Nat.zero_le _) ?_; intro a5 w5' hO5 hG5 hV5; replace hG5 : Chg (ob (.slice aa na ca)) w4 w5' := hG5; replace hV5 : a5.ownBlock = Value.ownBlock (.slice aa na ca) ∨ a5.ownBlock = some w4.heap.size := hV5)
              obtain ⟨hP5, hX5⟩ := HP4.out.more HX4.out hO5 hG5 hV5
              have HP5 := Hid.mk hP5
              have HX5 := Hid.mk hX5
              have HYn : Hid (Byt (Al ++ li)) := ⟨fun y hy => by
                rcases List.mem_append.1 hy with q | q
                · exact HYa.out y q
                · obtain ⟨_, _, _, _, _, _, _, hy⟩ := HY4.out; exact hy y q⟩
              obtain ⟨a5a, c5a, rfl, _⟩ := OwnB.mine hO5
              obtain ⟨n5, Hn5⟩ : ∃ n, Hid ((Al ++ li).length = n) := ⟨_, ⟨rfl⟩⟩
              rw [Hn5.out] at HP5 HX5 ⊢
              clear hP5 hX5 hO5 hG5 hV5 HP4 HX4 d4 HY4
              have hR5 : R.1.length + X.1.length ≤ 1000000000000 := by
                have q := feed_len E (Al ++ li) []
                rw [HFe.out] at q
                simp at q
                have := Hm1.out
                have := Hna.out
                omega
              go_upto_region 20 with (at_builtin; refine wp_appR rfl (.tmp 97) (.tmp 98) rfl rfl HP5.out.got rfl HX5.out.rows hR5 (Nat.zero_le _) ?_; intro g6 w6 hO6 hG6 hV6; replace hG6 : Chg (ob (.slice ag ng cg)) w5' w6 := hG6; replace hV6 : g6.ownBlock = Value.ownBlock (.slice ag ng cg) ∨ g6.ownBlock = some w5'.heap.size := hV6)
              have HP6 : Hid (Pcs w3 w6 D p mn mx (4294967296 / av) (tabV seed) cs2 v2 (.slice a5a n5 c5a) g6 (Al ++ li) X.2 (R.1 ++ X.1)) := ⟨HP5.out.grow hO6 hG6 hV6⟩
              obtain ⟨a6, c6, rfl, _⟩ := HP6.out.got.rows.shape
              obtain ⟨n6, Hn6⟩ : ∃ n, Hid ((R.1 ++ X.1).length = n) := ⟨_, ⟨rfl⟩⟩
              rw [Hn6.out] at HP6 ⊢
              clear hO6 hG6 hV6 HP5 HX5
              obtain ⟨hx, hx1⟩ := HCells.out w6 HP6.out.bel
              have t7 := split_any Hok.out ta _ HT.out (.slice a5a n5 c5a) (Al ++ li) (HP6.out.all.bs HYn.out) (by have := Hm1.out; have := Hna.out; simp; omega)
              rw [HE.out, HFe.out] at t7
              go_upto_region 21 with (first | (refine wpList_load_row rfl 24 (.tmp 3) rfl B rfl 24 #[.int .i64 mn, .int .i64 av, .int .i64 mx] (0, 0) _ hx Try.underlying24 rfl info24 ?_) | (refine wpList_load_row rfl 27 (.tmp 7) rfl Tb rfl 27 ta (0, 0) _ hx1 Try.underlying27 rfl hpl ?_) | (go_at_call 20; refine t7.mono ?_; rintro e w7 ⟨ov7, rv7, rfl, hO7, hOB7, hR7, hb7⟩; have HO7 := Hid.mk hO7; have HR7 := Hid.mk hR7; obtain ⟨a7, c7, rfl, _⟩ := hO7.rows.shape; obtain ⟨ar7, cr7, rfl, _⟩ := hR7.bs; rw [Hn6.out] at HO7 ⊢))
              have HP7 := Hid.mk (HP6.out.below hb7)
              obtain ⟨av7, cv7, rfl, _⟩ := OwnB.mine HP6.out.cut.own
              have tsm := same_yes HP7.out.got.rows HO7.out.rows (by simp; omega)
              clear hO7 hOB7 hR7 hb7 t7 hx hx1
              obtain ⟨nr, Hnr⟩ : ∃ n, Hid (X.2.length = n) := ⟨_, ⟨rfl⟩⟩
              rw [Hnr.out] at HP7 ⊢
              go_wp2_with (first | (go_at_call 17; refine tsm.mono ?_; rintro e w8 ⟨rfl, hG8⟩; have HP8 := Hid.mk (HP7.out.still hG8); have th := held_any ((HP8.out.cut.cell 259).trans HP8.out.cut.c4)) | (go_at_call 21; refine th.mono ?_; rintro e w9 ⟨rfl, rfl⟩))
              go_roundg (n - (kk + 1))
              case measure => omega
              case rel => exact ⟨kk + 1, by omega, by omega, by go_num, cs2, _, ⟨by rw [HF.out, HFe.out]; exact HP8.out⟩, ⟨by rw [HF.out]; exact HYn.out⟩⟩
        · have hm3 : min m1 3000 ≤ 3000 := Nat.min_le_right _ _
          generalize min m1 3000 = mm at ts hfit hm3
          obtain ⟨hx, hx1⟩ := HCells.out W HI.out.bel
          have t7 := split_any Hok.out ta _ HT.out (.slice aa na ca) Al (HI.out.all.bs HYa.out) (by have := Hna.out; omega)
          rw [HE.out, HR.out] at t7
          go_upto_region 23 with (go_at_call 14; refine ts.mono ?_; rintro e w' ⟨rfl, rfl⟩)
          go_upto_region 24 with (first | (refine wpList_load_row rfl 24 (.tmp 3) rfl B rfl 24 #[.int .i64 mn, .int .i64 av, .int .i64 mx] (0, 0) _ hx Try.underlying24 rfl info24 ?_) | (refine wpList_load_row rfl 27 (.tmp 7) rfl Tb rfl 27 ta (0, 0) _ hx1 Try.underlying27 rfl hpl ?_) | (go_at_call 20; refine t7.mono ?_; rintro e w7 ⟨ov7, rv7, rfl, hO7, hOB7, hR7, hb7⟩; have HR7 := Hid.mk hR7; obtain ⟨a7, c7, rfl, _⟩ := hO7.rows.shape; obtain ⟨ar7, cr7, rfl, _⟩ := hR7.bs))
          have HI7 := Hid.mk (HI.out.below hb7)
          obtain ⟨av7, cv7, rfl, _⟩ := OwnB.mine HI.out.cut.own
          have te := end_any HI7.out.cut
          clear hO7 hOB7 hR7 hb7 t7 hx hx1
          have HYr : Hid (Byt R.2) := ⟨by
            have q1 := byt_feed (E := E) Al (l := []) (fun y hy => by cases hy) HYa.out
            rw [HR.out] at q1
            exact q1⟩
          obtain ⟨nr, Hnr⟩ : ∃ n, Hid (R.2.length = n) := ⟨_, ⟨rfl⟩⟩
          obtain ⟨st, Hst⟩ : ∃ st, Hid (strOfNums R.2 = st) := ⟨_, ⟨rfl⟩⟩
          rw [Hnr.out] at te HR7 HI7 ⊢
          go_upto_region 25 with (go_at_call 22; refine te.mono ?_; rintro e w8 ⟨cs8, rfl, hC8, hB8, hG8⟩)
          have HC8 := Hid.mk hC8
          have HB8 := Hid.mk hB8
          have HG8 := Hid.mk hG8
          have te2 := end_over hC8
          have tw2 := write_over hC8 (.slice aa na ca)
          have hc8 : w8.cell? ⟨p, 259, none⟩ = some (.slice none 0 0) := (hC8.cell 259).trans hC8.c4
          clear hC8 hB8 hG8 te
          go_wp2_with (first | (go_at_call 22; refine te2.mono ?_; rintro e w' ⟨rfl, rfl⟩) | (go_at_call 19; refine tw2.mono ?_; rintro e w' ⟨rfl, rfl⟩) | (go_at_call 9; refine (live_any _).mono ?_; rintro e w9 ⟨rfl, hb9⟩; have r1 := run_str ((HB8.out.bs HYr.out).below hb9); have r2 := run_str ((HR7.out.bs.far HG8.out (fun hpos k hk hm => (fun q => (Ty.ne (HR7.out.ty hpos k hk).1 HI7.out.cut.ty (by decide)) q) (by simpa using hm))).below hb9); rw [Hst.out] at r1 r2; have th := held_any ((hb9.cell (p := ⟨p, 259, none⟩) HC8.out.lt).trans hc8); clear hc8) | (go_at_call 21; refine th.mono ?_; rintro e w10 ⟨rfl, rfl⟩))
          go_ret
          exact ⟨rfl, by rw [HBB.out]; exact HX3.out.2.2.2.2.trans (((HI7.out.bel.trans (HG8.out.below HI7.out.sz (fun x hx => by simp at hx; rw [hx]; exact HI7.out.pD))).mono (by have := HX3.out.2.2.1; omega)).trans (hb9.mono (by have := HG8.out.size; have := HI7.out.sz; have := HX3.out.2.2.1; omega)))⟩
      · obtain rfl : n = kk := by omega
        obtain ⟨hx, hx1⟩ := HCells.out W HI.out.bel
        have t7 := split_any Hok.out ta _ HT.out (.slice aa na ca) Al (HI.out.all.bs HYa.out) (by have := Hna.out; omega)
        rw [HE.out, HR.out] at t7
        go_upto_region 23 with fail
        go_upto_region 24 with (first | (refine wpList_load_row rfl 24 (.tmp 3) rfl B rfl 24 #[.int .i64 mn, .int .i64 av, .int .i64 mx] (0, 0) _ hx Try.underlying24 rfl info24 ?_) | (refine wpList_load_row rfl 27 (.tmp 7) rfl Tb rfl 27 ta (0, 0) _ hx1 Try.underlying27 rfl hpl ?_) | (go_at_call 20; refine t7.mono ?_; rintro e w7 ⟨ov7, rv7, rfl, hO7, hOB7, hR7, hb7⟩; have HR7 := Hid.mk hR7; obtain ⟨a7, c7, rfl, _⟩ := hO7.rows.shape; obtain ⟨ar7, cr7, rfl, _⟩ := hR7.bs))
        have HI7 := Hid.mk (HI.out.below hb7)
        obtain ⟨av7, cv7, rfl, _⟩ := OwnB.mine HI.out.cut.own
        have te := end_any HI7.out.cut
        clear hO7 hOB7 hR7 hb7 t7 hx hx1
        have HYr : Hid (Byt R.2) := ⟨by
          have q1 := byt_feed (E := E) Al (l := []) (fun y hy => by cases hy) HYa.out
          rw [HR.out] at q1
          exact q1⟩
        obtain ⟨nr, Hnr⟩ : ∃ n, Hid (R.2.length = n) := ⟨_, ⟨rfl⟩⟩
        obtain ⟨st, Hst⟩ : ∃ st, Hid (strOfNums R.2 = st) := ⟨_, ⟨rfl⟩⟩
        rw [Hnr.out] at te HR7 HI7 ⊢
        go_upto_region 25 with (go_at_call 22; refine te.mono ?_; rintro e w8 ⟨cs8, rfl, hC8, hB8, hG8⟩)
        have HC8 := Hid.mk hC8
        have HB8 := Hid.mk hB8
        have HG8 := Hid.mk hG8
        have te2 := end_over hC8
        have tw2 := write_over hC8 (.slice aa na ca)
        have hc8 : w8.cell? ⟨p, 259, none⟩ = some (.slice none 0 0) := (hC8.cell 259).trans hC8.c4
        clear hC8 hB8 hG8 te
        go_wp2_with (first | (go_at_call 22; refine te2.mono ?_; rintro e w' ⟨rfl, rfl⟩) | (go_at_call 19; refine tw2.mono ?_; rintro e w' ⟨rfl, rfl⟩) | (go_at_call 9; refine (live_any _).mono ?_; rintro e w9 ⟨rfl, hb9⟩; have r1 := run_str ((HB8.out.bs HYr.out).below hb9); have r2 := run_str ((HR7.out.bs.far HG8.out (fun hpos k hk hm => (fun q => (Ty.ne (HR7.out.ty hpos k hk).1 HI7.out.cut.ty (by decide)) q) (by simpa using hm))).below hb9); rw [Hst.out] at r1 r2; have th := held_any ((hb9.cell (p := ⟨p, 259, none⟩) HC8.out.lt).trans hc8); clear hc8) | (go_at_call 21; refine th.mono ?_; rintro e w10 ⟨rfl, rfl⟩))
        go_ret
        exact ⟨rfl, by rw [HBB.out]; exact HX3.out.2.2.2.2.trans (((HI7.out.bel.trans (HG8.out.below HI7.out.sz (fun x hx => by simp at hx; rw [hx]; exact HI7.out.pD))).mono (by have := HX3.out.2.2.1; omega)).trans (hb9.mono (by have := HG8.out.size; have := HI7.out.sz; have := HX3.out.2.2.1; omega)))⟩
  · have t4 := new_bad hok ta w3
    go_upto_region 3 with (first | (refine wpList_load_row rfl 24 (.tmp 3) rfl B rfl 24 #[.int .i64 mn, .int .i64 av, .int .i64 mx] (0, 0) _ hx Try.underlying24 rfl info24 ?_) | (refine wpList_load_row rfl 27 (.tmp 7) rfl Tb rfl 27 ta (0, 0) _ hx1 Try.underlying27 rfl hpl ?_) | (go_at_call 18; refine t4.mono ?_; rintro e w4 ⟨rfl, hb4⟩))
    rw [HD.out] at hb4
    clear t4 hx hx1
    obtain ⟨hx, hx1⟩ := HCells.out w4 hb4
    have t5 := rcheck_any mn av mx w4
    rw [chk_no hok] at t5
    go_wp2_with (first | (refine wpList_load_row rfl 24 (.tmp 3) rfl B rfl 24 #[.int .i64 mn, .int .i64 av, .int .i64 mx] (0, 0) _ hx Try.underlying24 rfl info24 ?_) | (refine wpList_load_row rfl 27 (.tmp 7) rfl Tb rfl 27 ta (0, 0) _ hx1 Try.underlying27 rfl hpl ?_) | (go_at_call 13; refine t5.mono ?_; rintro e w5 ⟨rfl, hb5⟩) | (go_at_call 9; refine (live_any w5).mono ?_; rintro e w6 ⟨rfl, hb6⟩))
    go_ret
    exact ⟨rfl, by rw [HBB.out]; exact HX3.out.2.2.2.2.trans (((hb4.mono (by have := HX3.out.2.2.1; omega)).trans (hb5.mono (by have := hb4.size; have := HD.out; have := HX3.out.2.2.1; omega))).trans (hb6.mono (by have := hb4.size; have := hb5.size; have := HD.out; have := HX3.out.2.2.1; omega)))⟩
end Go.Proofs.Ytngeefipeghjiaa
