/- The law CleanAll. -/
import Derived.Test.YtjcojpddjhjhbaaE1
namespace Go.Proofs.Ytjcojpddjhjhbaa
open Go.RowKit Go.Lib

theorem count_snoc' {M : List Int} {y : Int} {j : Nat} (h : j < M.length) : (M.take (j + 1)).count y = (M.take j).count y + (if M.getD j 0 = y then 1 else 0) := by
  rw [List.take_add_one, List.getElem?_eq_getElem h, List.count_append]
  simp only [Option.toList_some, List.getD, List.getElem?_eq_getElem h, Option.getD_some]
  by_cases e : M[j] = y <;> simp [e]
section
variable {w : World}
set_option maxHeartbeats 16000000 in
set_option maxRecDepth 100000 in
theorem cleanAll_any (v u : Value) (F : List Fl) (L : List Sp) (h : RdF w v F) (hF : F.length ≤ 5000000000000) (hu : RdE sp2 2 q0 w u L) (hL : L.length ≤ 9000000000000) :
    Calls Try.prog 5 #[v, u] w fun e w' => e = .returned (.bool true) ∧ Below w.heap.size w w' := by
  have H := Hid.mk h
  have HU := Hid.mk hu
  obtain ⟨a, c, rfl, hlc, hcm, _⟩ := h.shape
  obtain ⟨au, cu, rfl, _⟩ := hu.shape
  obtain ⟨n, Hn⟩ : ∃ n, Hid (F.length = n) := ⟨_, ⟨rfl⟩⟩
  obtain ⟨k, Hk⟩ : ∃ n, Hid (L.length = n) := ⟨_, ⟨rfl⟩⟩
  rw [Hn.out] at H hF hlc ⊢
  rw [Hk.out] at HU hL ⊢
  have HLk : Hid (k ≤ 9000000000000) := ⟨hL⟩
  have hcx : c ≤ 9223372036854775807 := hcm
  clear h hu hL
  go_enter Try.func5, Try.ntmps5
  go_upto_region 3 with fail
  go_loopg [5, 6, 7, 8] n (fun gg s5 s6 _ _ wr => ∃ i : Nat, ∃ G : List Fx, ∃ m : Nat, ∃ a5 c5, i ≤ n ∧ i ≤ 60 ∧ m ≤ i ∧ n - i ≤ gg ∧ s6 = .int .i64 (i : Int) ∧ s5 = .slice a5 m c5 ∧ Hid (G.length = m) ∧ Hid (OwnE fx2 2 39 wr w.heap.size (.slice a5 m c5) G) ∧ Hid (∀ x ∈ G, RdI w x.2 x.1.2) ∧ Hid ((G.map (·.1.1)).Nodup) ∧ Hid (Below w.heap.size w wr))
  case atStart => exact ⟨0, [], 0, none, 0, Nat.zero_le _, by omega, Nat.le_refl _, by omega, rfl, rfl, ⟨rfl⟩, ⟨OwnE.nil _ _ _ _ _⟩, ⟨by simp⟩, ⟨by simp⟩, ⟨Below.refl _ _⟩⟩
  case round =>
    obtain ⟨i, G, m, a5, c5, hi, hi60, hmi, hgg, rfl, rfl, HGl, HO, HGr, HGn, HB⟩ := hrel
    rename World => wo
    by_cases hlt : i < n ∧ i < 60
    · obtain ⟨hlt, hlt6⟩ := hlt
      have hltz : (i : Int) < (n : Int) := by omega
      have hlt6z : (i : Int) < 60 := by omega
      have hiF : i < F.length := by rw [Hn.out]; exact hlt
      obtain ⟨b, off, cap, sl, e, h1, h2, h3⟩ := H.out.at' i hiF
      rw [Hn.out] at e
      simp at e
      obtain ⟨rfl, rfl⟩ := e
      obtain ⟨y, Hy⟩ : ∃ y, Hid (F.getD i f0 = y) := ⟨_, ⟨rfl⟩⟩
      rw [Hy.out] at h1 h3
      obtain ⟨y1, yl⟩ := y
      simp only at h1 h3
      have HR := Hid.mk h3
      obtain ⟨sa, sc, rfl, _⟩ := h3.shape
      obtain ⟨ln, Hln⟩ : ∃ y, Hid (yl.length = y) := ⟨_, ⟨rfl⟩⟩
      rw [Hln.out] at h2 HR
      have HC0 : Hid (wo.cell? ⟨b, off + i * 2, none⟩ = some (.int .i64 y1)) := ⟨(HB.out.cell (p := ⟨b, off + i * 2, none⟩) (World.block_lt_of_cell? _ _ h1)).trans h1⟩
      have HC1 : Hid (wo.cell? ⟨b, off + i * 2 + 1, none⟩ = some (.slice sa ln sc)) := ⟨(HB.out.cell (p := ⟨b, off + i * 2 + 1, none⟩) (World.block_lt_of_cell? _ _ h2)).trans h2⟩
      obtain ⟨_, _, e5, hm5, hc5, _⟩ := (HO.out.rd x0).shape
      rw [HGl.out] at e5 hm5
      simp at e5
      obtain ⟨rfl, rfl⟩ := e5
      have hc5x : c5 ≤ 9223372036854775807 := hc5
      clear h1 h2 h3
      go_wp2_with fail
      go_loopg [7, 8] m (fun gg2 s7 s8 wr => ∃ j : Nat, j ≤ m ∧ m - j ≤ gg2 ∧ s8 = .int .i64 (j : Int) ∧ s7 = .bool (kn G y1 j) ∧ Hid (Below wo.heap.size wo wr))
      case atStart => exact ⟨0, Nat.zero_le _, by omega, rfl, rfl, ⟨Below.refl _ _⟩⟩
      case round =>
        obtain ⟨j, hj, hgg2, rfl, rfl, HBr⟩ := hrel
        rename World => wk
        by_cases hjm : j < m
        · have hjmz : (j : Int) < (m : Int) := by omega
          have hjG : j < G.length := by rw [HGl.out]; exact hjm
          obtain ⟨g, off5, cap5, e, hcc⟩ := ((HO.out.far (Chg.ofBelow (X := []) HBr.out) (by simp)).rd x0).at' j hjG
          rw [HGl.out] at e
          simp at e
          obtain ⟨rfl, rfl⟩ := e
          have d00 := hcc 0 (by decide)
          have HKn := Hid.mk (kn_snoc (y := y1) hjG)
          generalize G.getD j x0 = z at d00 HKn
          obtain ⟨⟨z1, zl⟩, zs⟩ := z
          have d0 : wk.cell? ⟨g, off5 + j * 2, none⟩ = some (.int .i64 z1) := d00
          simp only at HKn
          have d1 : wk.cell? ⟨b, off + i * 2, none⟩ = some (.int .i64 y1) := (HBr.out.cell (p := ⟨b, off + i * 2, none⟩) (World.block_lt_of_cell? _ _ HC0.out)).trans HC0.out
          clear hcc d00
          obtain ⟨t, Ht⟩ : ∃ x, Hid (kn G y1 j = x) := ⟨_, ⟨rfl⟩⟩
          rw [Ht.out] at HKn ⊢
          cases t
          · have HKx : Hid (kn G y1 (j + 1) = (z1 == y1)) := ⟨by rw [HKn.out, Bool.false_or]⟩
            go_upto_region 9 with fail
            go_quiet (fail)
            go_wp2_with fail
            go_roundg (m - (j + 1))
            case measure => omega
            case rel => exact ⟨j + 1, by omega, by omega, by go_num, by rw [HKx.out], ⟨below_drewN HBr.out nq⟩⟩
          · have HKx : Hid (kn G y1 (j + 1) = true) := ⟨by rw [HKn.out, Bool.true_or]⟩
            go_upto_region 9 with fail
            go_quiet (fail)
            go_wp2_with fail
            go_roundg (m - (j + 1))
            case measure => omega
            case rel => exact ⟨j + 1, by omega, by omega, by go_num, by rw [HKx.out], ⟨below_drewN HBr.out nq⟩⟩
        · obtain rfl : m = j := by omega
          have HBk : Hid (Below w.heap.size w wk) := ⟨HB.out.trans (HBr.out.mono HB.out.size)⟩
          have HOk : Hid (OwnE fx2 2 39 wk w.heap.size (.slice a5 m c5) G) := ⟨HO.out.far (Chg.ofBelow (X := []) HBr.out) (by simp)⟩
          obtain ⟨t, Ht⟩ : ∃ x, Hid (kn G y1 m = x) := ⟨_, ⟨rfl⟩⟩
          rw [Ht.out]
          cases t
          · have d0 : wk.cell? ⟨b, off + i * 2, none⟩ = some (.int .i64 y1) := (HBr.out.cell (p := ⟨b, off + i * 2, none⟩) (World.block_lt_of_cell? _ _ HC0.out)).trans HC0.out
            have d1 : wk.cell? ⟨b, off + i * 2 + 1, none⟩ = some (.slice sa ln sc) := (HBr.out.cell (p := ⟨b, off + i * 2 + 1, none⟩) (World.block_lt_of_cell? _ _ HC1.out)).trans HC1.out
            obtain ⟨x, Hx⟩ : ∃ x : Fx, Hid (x = ((y1, yl), .slice sa ln sc)) := ⟨_, ⟨rfl⟩⟩
            obtain ⟨V, HV⟩ : ∃ x, Hid (wk.alloc (.cells #[.int .i64 y1, .slice sa ln sc] 39) = x) := ⟨_, ⟨rfl⟩⟩
            have HBV : Hid (Below wk.heap.size wk V) := ⟨by rw [← HV.out]; exact (Below.refl _ wk).alloc (Nat.le_refl _) _⟩
            have HRV : Hid (RdE fx2 2 x0 V (.slice (some ⟨wk.heap.size, 0, none⟩) 1 1) [x]) := ⟨by
              rw [← HV.out, Hx.out]
              exact rde_one wk (((y1, yl), .slice sa ln sc) : Fx) rfl (by intro u hu; simp [fx2] at hu; rcases hu with rfl | rfl <;> rfl) 39⟩
            have HOV : Hid (OwnE fx2 2 39 V w.heap.size (.slice a5 m c5) G) := ⟨HOk.out.far (Chg.ofBelow (X := []) HBV.out) (by simp)⟩
            have HB0V : Hid (Below w.heap.size w V) := ⟨HBk.out.trans (HBV.out.mono HBk.out.size)⟩
            have hl1 : (G.length + [x].length) * 32 ≤ 140737488355328 := by rw [HGl.out]; simp; omega
            have hl2 : G.length + [x].length ≤ maxLen := by rw [HGl.out]; unfold maxLen; simp; omega
            have hl3 : w.heap.size ≤ V.heap.size := HB0V.out.size
            go_wp2_with (first
              | (refine wp_sliceE eltF rfl (.tmp 51) rfl #[.int .i64 y1, .slice sa ln sc] rfl rfl (by decide) ?_; rw [HV.out])
              | (refine wp_appE (f := fx2) (d := x0) eltF rfl (.tmp 47) (.tmp 52) rfl rfl HOV.out rfl HRV.out hl1 hl2 hl3 ?_; intro v7 w7 hO7 hG7 hV7))
            have HG7 : Hid (Chg (ob (.slice a5 m c5)) V w7) := ⟨hG7⟩
            have HB7 : Hid (Below w.heap.size w w7) := ⟨HB0V.out.trans (HG7.out.below HB0V.out.size (fun x hx => (HOV.out.lt x hx).1))⟩
            have HO7 : Hid (OwnE fx2 2 39 w7 w.heap.size v7 (G ++ [x])) := ⟨hO7⟩
            have HGl7 : Hid ((G ++ [x]).length = m + 1) := ⟨by rw [List.length_append, HGl.out]; rfl⟩
            have HGr7 : Hid (∀ z ∈ G ++ [x], RdI w z.2 z.1.2) := ⟨fun z hz => by
              rcases List.mem_append.1 hz with hz | hz
              · exact HGr.out z hz
              · simp at hz; rw [hz, Hx.out]; exact HR.out⟩
            have HGn7 : Hid (((G ++ [x]).map (·.1.1)).Nodup) := ⟨kn_end (y := y1) (by rw [HGl.out]; exact Ht.out) HGn.out x (by rw [Hx.out])⟩
            obtain ⟨a7, c7, e7, _⟩ := (hO7.rd x0).shape
            rw [HGl7.out] at e7
            subst e7
            clear hO7 hG7 hV7
            go_roundg (n - (i + 1))
            case measure => omega
            case rel => exact ⟨i + 1, G ++ [x], m + 1, a7, c7, by omega, by omega, by omega, by omega, by go_num, rfl, HGl7, HO7, HGr7, HGn7, HB7⟩
          · go_wp2_with fail
            go_roundg (n - (i + 1))
            case measure => omega
            case rel => exact ⟨i + 1, G, m, a5, c5, by omega, by omega, by omega, by omega, by go_num, rfl, HGl, HOk, HGr, HGn, HBk⟩
    · have hm60 : m ≤ 60 := by omega
      have hx : (i < n ∧ ¬ i < 60) ∨ ¬ i < n := by omega
      clear hlt
      rcases hx with ⟨q1, q2⟩ | q1
      · have q1z : (i : Int) < (n : Int) := by omega
        have q2z : ¬ (i : Int) < 60 := by omega
        have HRf : Hid (RdF wo (.slice a5 m c5) (G.map (·.1))) := ⟨rdf_of (HO.out.rd x0) (fun x hx => (HGr.out x hx).far (Chg.ofBelow (X := []) HB.out) (by simp))⟩
        have t1 := shares8 (w := wo) (.slice a5 m c5) (.slice au k cu) (G.map (·.1)) L HRf.out (by rw [List.length_map, HGl.out]; omega) (HU.out.far (Chg.ofBelow (X := []) HB.out) (by simp)) (by rw [Hk.out]; exact HLk.out)
        obtain ⟨R, HR⟩ : ∃ R, Hid ((G.map (·.1)).map (shr L) = R) := ⟨_, ⟨rfl⟩⟩
        have HRr : Hid (AllRt R) := ⟨fun s hs => by rw [← HR.out] at hs; obtain ⟨f, _, rfl⟩ := List.mem_map.1 hs; exact shr_rt L f⟩
        have HRl : Hid (R.length = m) := ⟨by rw [← HR.out, List.length_map, List.length_map, HGl.out]⟩
        have HRn : Hid ((R.map (·.1)).Nodup) := ⟨by
          have e : R.map (·.1) = G.map (·.1.1) := by rw [← HR.out, List.map_map, List.map_map]; rfl
          rw [e]; exact HGn.out⟩
        rw [HR.out] at t1
        clear HRf HR HO HGr HGn
        go_wp2_with fail
        refine t1.mono ?_
        rintro e w1 ⟨x1, rfl, hO1, hB1⟩
        have HR1 : Hid (RdE sh3 3 s0 w1 x1 R) := ⟨hO1.rd s0⟩
        have HB1 : Hid (Below w.heap.size w w1) := ⟨HB.out.trans (hB1.mono HB.out.size)⟩
        obtain ⟨a1, c1, e1, hc1, hc1m, _⟩ := (hO1.rd s0).shape
        rw [HRl.out] at e1 hc1
        subst e1
        have hc1x : c1 ≤ 9223372036854775807 := hc1m
        have t2 := choose_yes (w := w1) _ R HR1.out (by rw [HRl.out]; omega) 100 (m : Int) ⟨by decide, by decide⟩ (by omega) HRr.out
        clear t1 hO1 hB1
        go_wp2_with fail
        refine t2.mono ?_
        rintro e w2 ⟨x2, rfl, S, hP, hOd, hR2, hB2⟩
        have HB2 : Hid (Below w.heap.size w w2) := ⟨HB1.out.trans (hB2.mono HB1.out.size)⟩
        have HR12 : Hid (RdE sh3 3 s0 w2 (.slice a1 m c1) R) := ⟨HR1.out.far (Chg.ofBelow (X := []) hB2) (by simp)⟩
        have hSm : S.length ≤ m := by
          rw [hP.length_eq]
          have := List.length_filter_le (low 100) R
          have := HRl.out
          omega
        have e3 : (S.map (·.1)).take (m : Int).toNat = S.map (·.1) := List.take_of_length_le (by rw [List.length_map, Int.toNat_natCast]; exact hSm)
        rw [e3] at hR2
        have HSl : Hid ((S.map (·.1)).length ≤ m) := ⟨by rw [List.length_map]; exact hSm⟩
        have HCh0 := Hid.mk (fun (s : Sh) (hs : s ∈ R) => chosen HRn.out hP hs)
        obtain ⟨T, HT⟩ : ∃ T, Hid (S.map (·.1) = T) := ⟨_, ⟨rfl⟩⟩
        rw [HT.out] at hR2 HSl HCh0
        have HRT := Hid.mk hR2
        obtain ⟨a2, c2, e2, hc2, hc2m, _⟩ := hR2.shape
        subst e2
        obtain ⟨tl, Htl⟩ : ∃ x, Hid (T.length = x) := ⟨_, ⟨rfl⟩⟩
        rw [Htl.out] at HRT hc2 HSl ⊢
        have htl : tl ≤ m := HSl.out
        have hc2x : c2 ≤ 9223372036854775807 := hc2m
        have HTe : Hid (T.take tl = T) := ⟨List.take_of_length_le (by rw [Htl.out]; exact Nat.le_refl _)⟩
        clear t2 hP hOd hR2 hB2 hSm e3 HR1 HB1
        go_wp2_with fail
        go_loopg [12, 13, 14] m (fun gg3 s12 _ _ wr => ∃ i2 : Nat, i2 ≤ m ∧ m - i2 ≤ gg3 ∧ s12 = .int .i64 (i2 : Int) ∧ Hid (Below w2.heap.size w2 wr))
        case atStart => exact ⟨0, Nat.zero_le _, by omega, rfl, ⟨Below.refl _ _⟩⟩
        case round =>
          obtain ⟨i2, hi2, hgg3, rfl, HB3⟩ := hrel
          rename World => wp
          by_cases hl2 : i2 < m
          · have hl2z : (i2 : Int) < (m : Int) := by omega
            have hiR : i2 < R.length := by rw [HRl.out]; exact hl2
            obtain ⟨g1, off1, cap1, e, hc⟩ := (HR12.out.far (Chg.ofBelow (X := []) HB3.out) (by simp)).at' i2 hiR
            rw [HRl.out] at e
            simp at e
            obtain ⟨rfl, rfl⟩ := e
            have hrt := HRr.out _ (getD_mem' (d := s0) hiR)
            have hcount := HCh0.out _ (getD_mem' (d := s0) hiR)
            rw [low_all hrt] at hcount
            generalize R.getD i2 s0 = x at hc hrt hcount
            obtain ⟨y1, y2, y3⟩ := x
            obtain ⟨r1, r2, r3⟩ := hrt
            simp only at r1 r2 r3 hcount
            have Hcount := Hid.mk hcount
            have k0 : wp.cell? ⟨g1, off1 + i2 * 3, none⟩ = some (.int .i64 y1) := hc 0 (by decide)
            have k1 : wp.cell? ⟨g1, off1 + i2 * 3 + 1, none⟩ = some (.int .i64 y2) := hc 1 (by decide)
            have k2 : wp.cell? ⟨g1, off1 + i2 * 3 + 2, none⟩ = some (.int .i64 y3) := hc 2 (by decide)
            have K0 := Hid.mk k0
            have K1 := Hid.mk k1
            have K2 := Hid.mk k2
            clear hc hcount k0 k1 k2
            go_wp2_with fail
            go_loopg [13, 14] tl (fun gg4 s13 s14 wr => ∃ j : Nat, j ≤ tl ∧ tl - j ≤ gg4 ∧ s14 = .int .i64 (j : Int) ∧ s13 = .int .i64 (((T.take j).count y1 : Nat) : Int) ∧ Hid (Below wp.heap.size wp wr))
            case atStart => exact ⟨0, Nat.zero_le _, by omega, rfl, rfl, ⟨Below.refl _ _⟩⟩
            case round =>
              obtain ⟨j, hj, hgg4, rfl, rfl, HBr⟩ := hrel
              rename World => wk
              have hcl : (T.take j).count y1 ≤ j := by
                have := List.count_le_length (a := y1) (l := T.take j)
                rw [List.length_take] at this
                omega
              by_cases hjn : j < tl
              · have hjnz : (j : Int) < (tl : Int) := by omega
                have hjM : j < T.length := by rw [Htl.out]; exact hjn
                have HRTp : RdI wp (.slice a2 tl c2) T := HRT.out.far (Chg.ofBelow (X := []) HB3.out) (by simp)
                obtain ⟨g5, off5, cap5, e, _, hcc⟩ := HRTp.at hjM
                rw [Htl.out] at e
                simp at e
                obtain ⟨rfl, rfl⟩ := e
                have e0 := hcc j hjM
                have HCn := Hid.mk (count_snoc' (y := y1) hjM)
                generalize T.getD j 0 = z at e0 HCn
                have d0 : wk.cell? ⟨g5, off5 + j, none⟩ = some (.int .i64 z) := (HBr.out.cell (p := ⟨g5, off5 + j, none⟩) (World.block_lt_of_cell? _ _ e0)).trans e0
                have d1 : wk.cell? ⟨g1, off1 + i2 * 3, none⟩ = some (.int .i64 y1) := (HBr.out.cell (p := ⟨g1, off1 + i2 * 3, none⟩) (World.block_lt_of_cell? _ _ K0.out)).trans K0.out
                clear hcc e0 HRTp
                obtain ⟨ct, Hct⟩ : ∃ x, Hid ((T.take j).count y1 = x) := ⟨_, ⟨rfl⟩⟩
                rw [Hct.out] at hcl HCn ⊢
                by_cases hz : z = y1
                · have HCx : Hid ((T.take (j + 1)).count y1 = ct + 1) := ⟨by rw [HCn.out, if_pos hz]⟩
                  have hzb : (z == y1) = true := by simp [hz]
                  clear hz
                  go_upto_region 23 with fail
                  go_quiet (fail)
                  go_wp2_with fail
                  go_roundg (tl - (j + 1))
                  case measure => omega
                  case rel => exact ⟨j + 1, by omega, by omega, by go_num, by rw [HCx.out]; go_num, ⟨below_drewN HBr.out nq⟩⟩
                · have HCx : Hid ((T.take (j + 1)).count y1 = ct) := ⟨by rw [HCn.out, if_neg hz]; rfl⟩
                  have hzb : (z == y1) = false := by simp [hz]
                  clear hz
                  go_upto_region 23 with fail
                  go_quiet (fail)
                  go_wp2_with fail
                  go_roundg (tl - (j + 1))
                  case measure => omega
                  case rel => exact ⟨j + 1, by omega, by omega, by go_num, by rw [HCx.out], ⟨below_drewN HBr.out nq⟩⟩
              · obtain rfl : tl = j := by omega
                rw [HTe.out]
                have d1 : wk.cell? ⟨g1, off1 + i2 * 3 + 1, none⟩ = some (.int .i64 y2) := (HBr.out.cell (p := ⟨g1, off1 + i2 * 3 + 1, none⟩) (World.block_lt_of_cell? _ _ K1.out)).trans K1.out
                have d2 : wk.cell? ⟨g1, off1 + i2 * 3 + 2, none⟩ = some (.int .i64 y3) := (HBr.out.cell (p := ⟨g1, off1 + i2 * 3 + 2, none⟩) (World.block_lt_of_cell? _ _ K2.out)).trans K2.out
                have HBz : Hid (Below w2.heap.size w2 wk) := ⟨HB3.out.trans (HBr.out.mono HB3.out.size)⟩
                clear hcl
                by_cases hA : 0 < y2
                · by_cases hE : y3 = y2
                  · have hEb : (y3 == y2) = true := by simp [hE]
                    have Hc1 : Hid (T.count y1 = 0) := ⟨by rw [Hcount.out]; simp [hA, hE]⟩
                    rw [Hc1.out]
                    clear hE
                    go_upto_region 25 with fail
                    go_quiet (fail)
                    go_wp2_with fail
                    go_roundg (m - (i2 + 1))
                    case measure => omega
                    case rel => exact ⟨i2 + 1, by omega, by omega, by go_num, ⟨below_drewN HBz.out nq⟩⟩
                  · have hEb : (y3 == y2) = false := by simp [hE]
                    have Hc1 : Hid (T.count y1 = 1) := ⟨by rw [Hcount.out]; simp [hE]⟩
                    rw [Hc1.out]
                    clear hE
                    go_upto_region 25 with fail
                    go_quiet (fail)
                    go_wp2_with fail
                    go_roundg (m - (i2 + 1))
                    case measure => omega
                    case rel => exact ⟨i2 + 1, by omega, by omega, by go_num, ⟨below_drewN HBz.out nq⟩⟩
                · have Hc1 : Hid (T.count y1 = 1) := ⟨by rw [Hcount.out]; simp [hA]⟩
                  rw [Hc1.out]
                  go_upto_region 25 with fail
                  go_quiet (fail)
                  go_wp2_with fail
                  go_roundg (m - (i2 + 1))
                  case measure => omega
                  case rel => exact ⟨i2 + 1, by omega, by omega, by go_num, ⟨below_drewN HBz.out nq⟩⟩
          · obtain rfl : m = i2 := by omega
            have HBp : Hid (Below w.heap.size w wp) := ⟨HB2.out.trans (HB3.out.mono HB2.out.size)⟩
            go_wp2_with fail
            refine (live_any (w := wp)).mono ?_
            rintro e w9 ⟨rfl, hB9⟩
            have HB9 : Hid (Below w.heap.size w w9) := ⟨HBp.out.trans (hB9.mono HBp.out.size)⟩
            clear hB9
            go_wp2_with fail
            go_ret
            exact ⟨rfl, HB9.out⟩
      · have q1z : ¬ (i : Int) < (n : Int) := by omega
        have HRf : Hid (RdF wo (.slice a5 m c5) (G.map (·.1))) := ⟨rdf_of (HO.out.rd x0) (fun x hx => (HGr.out x hx).far (Chg.ofBelow (X := []) HB.out) (by simp))⟩
        have t1 := shares8 (w := wo) (.slice a5 m c5) (.slice au k cu) (G.map (·.1)) L HRf.out (by rw [List.length_map, HGl.out]; omega) (HU.out.far (Chg.ofBelow (X := []) HB.out) (by simp)) (by rw [Hk.out]; exact HLk.out)
        obtain ⟨R, HR⟩ : ∃ R, Hid ((G.map (·.1)).map (shr L) = R) := ⟨_, ⟨rfl⟩⟩
        have HRr : Hid (AllRt R) := ⟨fun s hs => by rw [← HR.out] at hs; obtain ⟨f, _, rfl⟩ := List.mem_map.1 hs; exact shr_rt L f⟩
        have HRl : Hid (R.length = m) := ⟨by rw [← HR.out, List.length_map, List.length_map, HGl.out]⟩
        have HRn : Hid ((R.map (·.1)).Nodup) := ⟨by
          have e : R.map (·.1) = G.map (·.1.1) := by rw [← HR.out, List.map_map, List.map_map]; rfl
          rw [e]; exact HGn.out⟩
        rw [HR.out] at t1
        clear HRf HR HO HGr HGn
        go_wp2_with fail
        refine t1.mono ?_
        rintro e w1 ⟨x1, rfl, hO1, hB1⟩
        have HR1 : Hid (RdE sh3 3 s0 w1 x1 R) := ⟨hO1.rd s0⟩
        have HB1 : Hid (Below w.heap.size w w1) := ⟨HB.out.trans (hB1.mono HB.out.size)⟩
        obtain ⟨a1, c1, e1, hc1, hc1m, _⟩ := (hO1.rd s0).shape
        rw [HRl.out] at e1 hc1
        subst e1
        have hc1x : c1 ≤ 9223372036854775807 := hc1m
        have t2 := choose_yes (w := w1) _ R HR1.out (by rw [HRl.out]; omega) 100 (m : Int) ⟨by decide, by decide⟩ (by omega) HRr.out
        clear t1 hO1 hB1
        go_wp2_with fail
        refine t2.mono ?_
        rintro e w2 ⟨x2, rfl, S, hP, hOd, hR2, hB2⟩
        have HB2 : Hid (Below w.heap.size w w2) := ⟨HB1.out.trans (hB2.mono HB1.out.size)⟩
        have HR12 : Hid (RdE sh3 3 s0 w2 (.slice a1 m c1) R) := ⟨HR1.out.far (Chg.ofBelow (X := []) hB2) (by simp)⟩
        have hSm : S.length ≤ m := by
          rw [hP.length_eq]
          have := List.length_filter_le (low 100) R
          have := HRl.out
          omega
        have e3 : (S.map (·.1)).take (m : Int).toNat = S.map (·.1) := List.take_of_length_le (by rw [List.length_map, Int.toNat_natCast]; exact hSm)
        rw [e3] at hR2
        have HSl : Hid ((S.map (·.1)).length ≤ m) := ⟨by rw [List.length_map]; exact hSm⟩
        have HCh0 := Hid.mk (fun (s : Sh) (hs : s ∈ R) => chosen HRn.out hP hs)
        obtain ⟨T, HT⟩ : ∃ T, Hid (S.map (·.1) = T) := ⟨_, ⟨rfl⟩⟩
        rw [HT.out] at hR2 HSl HCh0
        have HRT := Hid.mk hR2
        obtain ⟨a2, c2, e2, hc2, hc2m, _⟩ := hR2.shape
        subst e2
        obtain ⟨tl, Htl⟩ : ∃ x, Hid (T.length = x) := ⟨_, ⟨rfl⟩⟩
        rw [Htl.out] at HRT hc2 HSl ⊢
        have htl : tl ≤ m := HSl.out
        have hc2x : c2 ≤ 9223372036854775807 := hc2m
        have HTe : Hid (T.take tl = T) := ⟨List.take_of_length_le (by rw [Htl.out]; exact Nat.le_refl _)⟩
        clear t2 hP hOd hR2 hB2 hSm e3 HR1 HB1
        go_wp2_with fail
        go_loopg [12, 13, 14] m (fun gg3 s12 _ _ wr => ∃ i2 : Nat, i2 ≤ m ∧ m - i2 ≤ gg3 ∧ s12 = .int .i64 (i2 : Int) ∧ Hid (Below w2.heap.size w2 wr))
        case atStart => exact ⟨0, Nat.zero_le _, by omega, rfl, ⟨Below.refl _ _⟩⟩
        case round =>
          obtain ⟨i2, hi2, hgg3, rfl, HB3⟩ := hrel
          rename World => wp
          by_cases hl2 : i2 < m
          · have hl2z : (i2 : Int) < (m : Int) := by omega
            have hiR : i2 < R.length := by rw [HRl.out]; exact hl2
            obtain ⟨g1, off1, cap1, e, hc⟩ := (HR12.out.far (Chg.ofBelow (X := []) HB3.out) (by simp)).at' i2 hiR
            rw [HRl.out] at e
            simp at e
            obtain ⟨rfl, rfl⟩ := e
            have hrt := HRr.out _ (getD_mem' (d := s0) hiR)
            have hcount := HCh0.out _ (getD_mem' (d := s0) hiR)
            rw [low_all hrt] at hcount
            generalize R.getD i2 s0 = x at hc hrt hcount
            obtain ⟨y1, y2, y3⟩ := x
            obtain ⟨r1, r2, r3⟩ := hrt
            simp only at r1 r2 r3 hcount
            have Hcount := Hid.mk hcount
            have k0 : wp.cell? ⟨g1, off1 + i2 * 3, none⟩ = some (.int .i64 y1) := hc 0 (by decide)
            have k1 : wp.cell? ⟨g1, off1 + i2 * 3 + 1, none⟩ = some (.int .i64 y2) := hc 1 (by decide)
            have k2 : wp.cell? ⟨g1, off1 + i2 * 3 + 2, none⟩ = some (.int .i64 y3) := hc 2 (by decide)
            have K0 := Hid.mk k0
            have K1 := Hid.mk k1
            have K2 := Hid.mk k2
            clear hc hcount k0 k1 k2
            go_wp2_with fail
            go_loopg [13, 14] tl (fun gg4 s13 s14 wr => ∃ j : Nat, j ≤ tl ∧ tl - j ≤ gg4 ∧ s14 = .int .i64 (j : Int) ∧ s13 = .int .i64 (((T.take j).count y1 : Nat) : Int) ∧ Hid (Below wp.heap.size wp wr))
            case atStart => exact ⟨0, Nat.zero_le _, by omega, rfl, rfl, ⟨Below.refl _ _⟩⟩
            case round =>
              obtain ⟨j, hj, hgg4, rfl, rfl, HBr⟩ := hrel
              rename World => wk
              have hcl : (T.take j).count y1 ≤ j := by
                have := List.count_le_length (a := y1) (l := T.take j)
                rw [List.length_take] at this
                omega
              by_cases hjn : j < tl
              · have hjnz : (j : Int) < (tl : Int) := by omega
                have hjM : j < T.length := by rw [Htl.out]; exact hjn
                have HRTp : RdI wp (.slice a2 tl c2) T := HRT.out.far (Chg.ofBelow (X := []) HB3.out) (by simp)
                obtain ⟨g5, off5, cap5, e, _, hcc⟩ := HRTp.at hjM
                rw [Htl.out] at e
                simp at e
                obtain ⟨rfl, rfl⟩ := e
                have e0 := hcc j hjM
                have HCn := Hid.mk (count_snoc' (y := y1) hjM)
                generalize T.getD j 0 = z at e0 HCn
                have d0 : wk.cell? ⟨g5, off5 + j, none⟩ = some (.int .i64 z) := (HBr.out.cell (p := ⟨g5, off5 + j, none⟩) (World.block_lt_of_cell? _ _ e0)).trans e0
                have d1 : wk.cell? ⟨g1, off1 + i2 * 3, none⟩ = some (.int .i64 y1) := (HBr.out.cell (p := ⟨g1, off1 + i2 * 3, none⟩) (World.block_lt_of_cell? _ _ K0.out)).trans K0.out
                clear hcc e0 HRTp
                obtain ⟨ct, Hct⟩ : ∃ x, Hid ((T.take j).count y1 = x) := ⟨_, ⟨rfl⟩⟩
                rw [Hct.out] at hcl HCn ⊢
                by_cases hz : z = y1
                · have HCx : Hid ((T.take (j + 1)).count y1 = ct + 1) := ⟨by rw [HCn.out, if_pos hz]⟩
                  have hzb : (z == y1) = true := by simp [hz]
                  clear hz
                  go_upto_region 23 with fail
                  go_quiet (fail)
                  go_wp2_with fail
                  go_roundg (tl - (j + 1))
                  case measure => omega
                  case rel => exact ⟨j + 1, by omega, by omega, by go_num, by rw [HCx.out]; go_num, ⟨below_drewN HBr.out nq⟩⟩
                · have HCx : Hid ((T.take (j + 1)).count y1 = ct) := ⟨by rw [HCn.out, if_neg hz]; rfl⟩
                  have hzb : (z == y1) = false := by simp [hz]
                  clear hz
                  go_upto_region 23 with fail
                  go_quiet (fail)
                  go_wp2_with fail
                  go_roundg (tl - (j + 1))
                  case measure => omega
                  case rel => exact ⟨j + 1, by omega, by omega, by go_num, by rw [HCx.out], ⟨below_drewN HBr.out nq⟩⟩
              · obtain rfl : tl = j := by omega
                rw [HTe.out]
                have d1 : wk.cell? ⟨g1, off1 + i2 * 3 + 1, none⟩ = some (.int .i64 y2) := (HBr.out.cell (p := ⟨g1, off1 + i2 * 3 + 1, none⟩) (World.block_lt_of_cell? _ _ K1.out)).trans K1.out
                have d2 : wk.cell? ⟨g1, off1 + i2 * 3 + 2, none⟩ = some (.int .i64 y3) := (HBr.out.cell (p := ⟨g1, off1 + i2 * 3 + 2, none⟩) (World.block_lt_of_cell? _ _ K2.out)).trans K2.out
                have HBz : Hid (Below w2.heap.size w2 wk) := ⟨HB3.out.trans (HBr.out.mono HB3.out.size)⟩
                clear hcl
                by_cases hA : 0 < y2
                · by_cases hE : y3 = y2
                  · have hEb : (y3 == y2) = true := by simp [hE]
                    have Hc1 : Hid (T.count y1 = 0) := ⟨by rw [Hcount.out]; simp [hA, hE]⟩
                    rw [Hc1.out]
                    clear hE
                    go_upto_region 25 with fail
                    go_quiet (fail)
                    go_wp2_with fail
                    go_roundg (m - (i2 + 1))
                    case measure => omega
                    case rel => exact ⟨i2 + 1, by omega, by omega, by go_num, ⟨below_drewN HBz.out nq⟩⟩
                  · have hEb : (y3 == y2) = false := by simp [hE]
                    have Hc1 : Hid (T.count y1 = 1) := ⟨by rw [Hcount.out]; simp [hE]⟩
                    rw [Hc1.out]
                    clear hE
                    go_upto_region 25 with fail
                    go_quiet (fail)
                    go_wp2_with fail
                    go_roundg (m - (i2 + 1))
                    case measure => omega
                    case rel => exact ⟨i2 + 1, by omega, by omega, by go_num, ⟨below_drewN HBz.out nq⟩⟩
                · have Hc1 : Hid (T.count y1 = 1) := ⟨by rw [Hcount.out]; simp [hA]⟩
                  rw [Hc1.out]
                  go_upto_region 25 with fail
                  go_quiet (fail)
                  go_wp2_with fail
                  go_roundg (m - (i2 + 1))
                  case measure => omega
                  case rel => exact ⟨i2 + 1, by omega, by omega, by go_num, ⟨below_drewN HBz.out nq⟩⟩
          · obtain rfl : m = i2 := by omega
            have HBp : Hid (Below w.heap.size w wp) := ⟨HB2.out.trans (HB3.out.mono HB2.out.size)⟩
            go_wp2_with fail
            refine (live_any (w := wp)).mono ?_
            rintro e w9 ⟨rfl, hB9⟩
            have HB9 : Hid (Below w.heap.size w w9) := ⟨HBp.out.trans (hB9.mono HBp.out.size)⟩
            clear hB9
            go_wp2_with fail
            go_ret
            exact ⟨rfl, HB9.out⟩
end
end Go.Proofs.Ytjcojpddjhjhbaa
