/- The document's less. -/
import Derived.Test.YtjcojpddjhjhbaaD2
namespace Go.Proofs.Ytjcojpddjhjhbaa
open Go.RowKit Go.Lib

section
variable {w : World}
theorem rt_parts {x : Sh} (h : Rt x) : (0 ≤ x.2.2 ∧ x.2.2 ≤ 32768) ∧ (1 ≤ max x.2.1 1 ∧ max x.2.1 1 ≤ 32768) := by obtain ⟨h1, h2, h3⟩ := h; omega
set_option maxHeartbeats 8000000 in
set_option maxRecDepth 100000 in
theorem rless26 (x y : Sh) (hx : Rt x) (hy : Rt y) : Calls Try.prog 26 #[.agg (sh3 x).toArray, .agg (sh3 y).toArray] w fun e w' => e = .returned (.bool (shl x y)) ∧ Below w.heap.size w w' := by
  have fx := rt_parts hx
  have fy := rt_parts hy
  have hsl := shc_lt x y
  obtain ⟨x1, x2, x3⟩ := x
  obtain ⟨y1, y2, y3⟩ := y
  simp only at fx fy hsl
  obtain ⟨p, Hp⟩ : ∃ z, Hid (max x2 1 = z) := ⟨_, ⟨rfl⟩⟩
  obtain ⟨q, Hq⟩ : ∃ z, Hid (max y2 1 = z) := ⟨_, ⟨rfl⟩⟩
  rw [Hp.out] at fx hsl
  rw [Hq.out] at fy hsl
  obtain ⟨z, Hz⟩ : ∃ z, Hid (shl (x1, x2, x3) (y1, y2, y3) = z) := ⟨_, ⟨rfl⟩⟩
  rw [Hz.out] at hsl ⊢
  have Hsl := Hid.mk hsl
  have Hlt := Hid.mk (fun (j : Nat) (h : ∀ i, i < j → dd x3 p i = dd y3 q i) => part_lt fx.1.1 fy.1.1 (show 0 < p by omega) (show 0 < q by omega) (j := j) h)
  have Hgt := Hid.mk (fun (j : Nat) (h : ∀ i, i < j → dd y3 q i = dd x3 p i) => part_lt fy.1.1 fx.1.1 (show 0 < q by omega) (show 0 < p by omega) (j := j) h)
  have Hall := Hid.mk (all_same fx.1.1 fy.1.1 (show 0 < p by omega) (show 0 < q by omega) (by omega) (by omega))
  have HX0 : Hid ((x2 = 0 → p = 1) ∧ (¬ x2 = 0 → p = x2)) := ⟨by have := Hp.out; obtain ⟨a, b, c⟩ := hx; simp only at a b c; omega⟩
  have HY0 : Hid ((y2 = 0 → q = 1) ∧ (¬ y2 = 0 → q = y2)) := ⟨by have := Hq.out; obtain ⟨a, b, c⟩ := hy; simp only at a b c; omega⟩
  clear hsl hx hy
  simp only [sh3, List.toArray]
  obtain ⟨W, HW⟩ : ∃ u, Hid ((w.alloc (.cells #[.int .i64 x1, .int .i64 x2, .int .i64 x3] 27)).alloc (.cells #[.int .i64 y1, .int .i64 y2, .int .i64 y3] 27) = u) := ⟨_, ⟨rfl⟩⟩
  have HB : Hid (Below w.heap.size w W) := ⟨by rw [← HW.out]; exact ((Below.refl _ w).alloc (Nat.le_refl _) _).alloc (by simp) _⟩
  have HP : Hid (W.heap[w.heap.size]? = some (.cells #[.int .i64 x1, .int .i64 x2, .int .i64 x3] 27 (0, 0))) := ⟨by rw [← HW.out]; exact (((Below.refl _ (w.alloc (.cells #[.int .i64 x1, .int .i64 x2, .int .i64 x3] 27))).alloc (Nat.le_refl _) (.cells #[.int .i64 y1, .int .i64 y2, .int .i64 y3] 27)).block w.heap.size (by simp)).trans (heap_alloc_new w _)⟩
  have HQ : Hid (W.heap[w.heap.size + 1]? = some (.cells #[.int .i64 y1, .int .i64 y2, .int .i64 y3] 27 (0, 0))) := ⟨by rw [← HW.out]; have := heap_alloc_new (w.alloc (.cells #[.int .i64 x1, .int .i64 x2, .int .i64 x3] 27)) (.cells #[.int .i64 y1, .int .i64 y2, .int .i64 y3] 27); simpa using this⟩
  obtain ⟨bx, Hbx⟩ : ∃ u, Hid (w.heap.size = u) := ⟨_, ⟨rfl⟩⟩
  obtain ⟨bY, HbY⟩ : ∃ u, Hid (w.heap.size + 1 = u) := ⟨_, ⟨rfl⟩⟩
  rw [Hbx.out] at HP
  rw [HbY.out] at HQ
  have HK : Hid (∀ w', Below W.heap.size W w' → (w'.cell? ⟨bx, 0, none⟩ = some (.int .i64 x1) ∧ w'.cell? ⟨bx, 1, none⟩ = some (.int .i64 x2) ∧ w'.cell? ⟨bx, 2, none⟩ = some (.int .i64 x3)) ∧ w'.cell? ⟨bY, 0, none⟩ = some (.int .i64 y1) ∧ w'.cell? ⟨bY, 1, none⟩ = some (.int .i64 y2) ∧ w'.cell? ⟨bY, 2, none⟩ = some (.int .i64 y3)) := ⟨fun w' h => by
    have h1 := (h.block bx (Array.getElem?_eq_some_iff.1 HP.out).1).trans HP.out
    have h2 := (h.block bY (Array.getElem?_eq_some_iff.1 HQ.out).1).trans HQ.out
    refine ⟨⟨?_, ?_, ?_⟩, ?_, ?_, ?_⟩
    · rw [cell_of_row _ _ _ _ _ _ h1]; rfl
    · rw [cell_of_row _ _ _ _ _ _ h1]; rfl
    · rw [cell_of_row _ _ _ _ _ _ h1]; rfl
    · rw [cell_of_row _ _ _ _ _ _ h2]; rfl
    · rw [cell_of_row _ _ _ _ _ _ h2]; rfl
    · rw [cell_of_row _ _ _ _ _ _ h2]; rfl⟩
  have t1 := frac32 (w := W) x3 p fx.1 fx.2
  have T2 := Hid.mk (fun W' : World => frac32 (w := W') y3 q fy.1 fy.2)
  have kk := HK.out W (Below.refl _ _)
  obtain ⟨⟨k0, k1, k2⟩, l0, l1, l2⟩ := kk
  by_cases h1 : x2 = 0
  · obtain rfl : p = 1 := HX0.out.1 h1
    have h1b : (x2 == 0) = true := by simp [h1]
    by_cases h2 : y2 = 0
    · obtain rfl : q = 1 := HY0.out.1 h2
      have h2b : (y2 == 0) = true := by simp [h2]
      clear h1 h2
      go_enter Try.func26, Try.ntmps26
      go_upto_region 1 with fail
      rw [HW.out, HbY.out, Hbx.out]
      go_wp2_with fail
      refine t1.mono ?_
      rintro e w1 ⟨v1, rfl, hO1, hB1⟩
      have HO1 := Hid.mk hO1
      have HB1 := Hid.mk hB1
      obtain ⟨a1, c1, e1, _⟩ := hO1.shape
      rw [digs_len] at e1
      subst e1
      have kk1 := HK.out w1 hB1
      obtain ⟨_, _, _, l2'⟩ := kk1
      have t2 := T2.out w1
      clear t1 hO1 hB1 k0 k1 k2 l0 l1 l2
      go_wp2_with fail
      refine t2.mono ?_
      rintro e w2 ⟨v2, rfl, hO2, hB2⟩
      have HO2 := Hid.mk hO2
      have HR1 : Hid (RdI w2 (.slice a1 121 c1) (digs x3 1 120)) := ⟨HO1.out.rd.far (Chg.ofBelow (X := []) hB2) (by simp)⟩
      have HR2 : Hid (RdI w2 v2 (digs y3 1 120)) := ⟨hO2.rd⟩
      have HB2 : Hid (Below W.heap.size W w2) := ⟨HB1.out.trans (hB2.mono HB1.out.size)⟩
      obtain ⟨a2, c2, e2, _⟩ := hO2.shape
      rw [digs_len] at e2
      subst e2
      clear t2 hO2 hB2 l2' HO1 HB1 T2
      go_wp2_with fail
      go_loopg [9] 121 (fun gg s9 wr => ∃ i : Nat, i ≤ 121 ∧ 121 - i ≤ gg ∧ s9 = .int .i64 (i : Int) ∧ Hid (∀ j, j < i → dd x3 1 j = dd y3 1 j) ∧ Hid (Below w2.heap.size w2 wr))
      case atStart => exact ⟨0, Nat.zero_le _, by omega, rfl, ⟨fun j hj => by omega⟩, ⟨Below.refl _ _⟩⟩
      case round =>
        obtain ⟨i, hi, hgg, rfl, HS, HBr⟩ := hrel
        rename World => wo
        have HBo : Hid (Below w.heap.size w wo) := ⟨HB.out.trans ((HB2.out.trans (HBr.out.mono HB2.out.size)).mono HB.out.size)⟩
        by_cases hlt : i < 121
        · have hltz : (i : Int) < 121 := by omega
          obtain ⟨g1, o1, cp1, e, _, hc1⟩ := HR1.out.at (i := i) (by rw [digs_len]; omega)
          rw [digs_len] at e
          simp at e
          obtain ⟨rfl, rfl⟩ := e
          obtain ⟨g2, o2, cp2, e, _, hc2⟩ := HR2.out.at (i := i) (by rw [digs_len]; omega)
          rw [digs_len] at e
          simp at e
          obtain ⟨rfl, rfl⟩ := e
          have h1 := hc1 i (by rw [digs_len]; omega)
          have h2 := hc2 i (by rw [digs_len]; omega)
          rw [digs_at _ _ (by omega)] at h1 h2
          have HL := Hid.mk (Hlt.out i HS.out)
          have HGt := Hid.mk (Hgt.out i (fun j hj => (HS.out j hj).symm))
          have HSn : Hid (dd x3 1 i = dd y3 1 i → ∀ j, j < i + 1 → dd x3 1 j = dd y3 1 j) := ⟨fun he j hj => by
            rcases Nat.lt_or_ge j i with h | h
            · exact HS.out j h
            · obtain rfl : j = i := by omega
              exact he⟩
          generalize dd x3 1 i = u1 at h1 HL HGt HSn
          generalize dd y3 1 i = u2 at h2 HL HGt HSn
          have d1 : wo.cell? ⟨g1, o1 + i, none⟩ = some (.int .i64 u1) := (HBr.out.cell (p := ⟨g1, o1 + i, none⟩) (World.block_lt_of_cell? _ _ h1)).trans h1
          have d2 : wo.cell? ⟨g2, o2 + i, none⟩ = some (.int .i64 u2) := (HBr.out.cell (p := ⟨g2, o2 + i, none⟩) (World.block_lt_of_cell? _ _ h2)).trans h2
          clear hc1 hc2 h1 h2
          by_cases hu : u1 = u2
          · have Hn := Hid.mk (HSn.out hu)
            have hub : (u1 != u2) = false := by simp [hu]
            clear hu
            go_upto_region 12 with fail
            go_quiet (fail)
            go_wp2_with fail
            go_roundg (121 - (i + 1))
            case measure => omega
            case rel => exact ⟨i + 1, by omega, by omega, by go_num, Hn, ⟨below_drewN HBr.out nq⟩⟩
          · have Hzz : Hid (decide (u1 < u2) = z) := ⟨by
              by_cases h3 : u1 < u2
              · have h4 := HL.out h3
                have h5 := Hsl.out.2 (.inl h4)
                rw [h5]; simp [h3]
              · have h4 := HGt.out (by omega)
                have h5 : ¬ z = true := fun hz => by have := Hsl.out.1 hz; omega
                have h6 : z = false := by simpa using h5
                rw [h6]; simp [h3]⟩
            have hub : (u1 != u2) = true := by simp [hu]
            clear hu
            go_upto_region 12 with fail
            go_quiet (fail)
            obtain ⟨wq, Hwq⟩ : ∃ x, Hid (wo.drewN nq = x) := ⟨_, ⟨rfl⟩⟩
            have d1' : wq.cell? ⟨g1, o1 + i, none⟩ = some (.int .i64 u1) := by rw [← Hwq.out]; exact d1
            have d2' : wq.cell? ⟨g2, o2 + i, none⟩ = some (.int .i64 u2) := by rw [← Hwq.out]; exact d2
            have HBq : Hid (Below w.heap.size w wq) := ⟨by rw [← Hwq.out]; exact below_drewN HBo.out nq⟩
            rw [Hwq.out]
            clear Hwq d1 d2
            go_upto_region 13 with fail
            go_quiet (fail)
            go_wp2_with fail
            go_ret
            exact ⟨by rw [← Hzz.out]; rfl, below_drewN HBq.out nq⟩
        · obtain rfl : i = 121 := by omega
          have he := Hall.out HS.out
          have Hzz : Hid (decide (x1 < y1) = z) := ⟨by
            by_cases h3 : x1 < y1
            · have h5 := Hsl.out.2 (.inr ⟨by omega, h3⟩)
              rw [h5]; simp [h3]
            · have h5 : ¬ z = true := fun hz => by have := Hsl.out.1 hz; omega
              have h6 : z = false := by simpa using h5
              rw [h6]; simp [h3]⟩
          clear he
          have kk2 := HK.out wo (HB2.out.trans (HBr.out.mono HB2.out.size))
          obtain ⟨⟨m0, _⟩, n0, _⟩ := kk2
          go_wp2_with fail
          go_ret
          exact ⟨by rw [← Hzz.out]; rfl, HBo.out⟩
    · obtain rfl : y2 = q := (HY0.out.2 h2).symm
      have h2b : (y2 == 0) = false := by simp [h2]
      clear h1 h2
      go_enter Try.func26, Try.ntmps26
      go_upto_region 1 with fail
      rw [HW.out, HbY.out, Hbx.out]
      go_wp2_with fail
      refine t1.mono ?_
      rintro e w1 ⟨v1, rfl, hO1, hB1⟩
      have HO1 := Hid.mk hO1
      have HB1 := Hid.mk hB1
      obtain ⟨a1, c1, e1, _⟩ := hO1.shape
      rw [digs_len] at e1
      subst e1
      have kk1 := HK.out w1 hB1
      obtain ⟨_, _, _, l2'⟩ := kk1
      have t2 := T2.out w1
      clear t1 hO1 hB1 k0 k1 k2 l0 l1 l2
      go_wp2_with fail
      refine t2.mono ?_
      rintro e w2 ⟨v2, rfl, hO2, hB2⟩
      have HO2 := Hid.mk hO2
      have HR1 : Hid (RdI w2 (.slice a1 121 c1) (digs x3 1 120)) := ⟨HO1.out.rd.far (Chg.ofBelow (X := []) hB2) (by simp)⟩
      have HR2 : Hid (RdI w2 v2 (digs y3 y2 120)) := ⟨hO2.rd⟩
      have HB2 : Hid (Below W.heap.size W w2) := ⟨HB1.out.trans (hB2.mono HB1.out.size)⟩
      obtain ⟨a2, c2, e2, _⟩ := hO2.shape
      rw [digs_len] at e2
      subst e2
      clear t2 hO2 hB2 l2' HO1 HB1 T2
      go_wp2_with fail
      go_loopg [9] 121 (fun gg s9 wr => ∃ i : Nat, i ≤ 121 ∧ 121 - i ≤ gg ∧ s9 = .int .i64 (i : Int) ∧ Hid (∀ j, j < i → dd x3 1 j = dd y3 y2 j) ∧ Hid (Below w2.heap.size w2 wr))
      case atStart => exact ⟨0, Nat.zero_le _, by omega, rfl, ⟨fun j hj => by omega⟩, ⟨Below.refl _ _⟩⟩
      case round =>
        obtain ⟨i, hi, hgg, rfl, HS, HBr⟩ := hrel
        rename World => wo
        have HBo : Hid (Below w.heap.size w wo) := ⟨HB.out.trans ((HB2.out.trans (HBr.out.mono HB2.out.size)).mono HB.out.size)⟩
        by_cases hlt : i < 121
        · have hltz : (i : Int) < 121 := by omega
          obtain ⟨g1, o1, cp1, e, _, hc1⟩ := HR1.out.at (i := i) (by rw [digs_len]; omega)
          rw [digs_len] at e
          simp at e
          obtain ⟨rfl, rfl⟩ := e
          obtain ⟨g2, o2, cp2, e, _, hc2⟩ := HR2.out.at (i := i) (by rw [digs_len]; omega)
          rw [digs_len] at e
          simp at e
          obtain ⟨rfl, rfl⟩ := e
          have h1 := hc1 i (by rw [digs_len]; omega)
          have h2 := hc2 i (by rw [digs_len]; omega)
          rw [digs_at _ _ (by omega)] at h1 h2
          have HL := Hid.mk (Hlt.out i HS.out)
          have HGt := Hid.mk (Hgt.out i (fun j hj => (HS.out j hj).symm))
          have HSn : Hid (dd x3 1 i = dd y3 y2 i → ∀ j, j < i + 1 → dd x3 1 j = dd y3 y2 j) := ⟨fun he j hj => by
            rcases Nat.lt_or_ge j i with h | h
            · exact HS.out j h
            · obtain rfl : j = i := by omega
              exact he⟩
          generalize dd x3 1 i = u1 at h1 HL HGt HSn
          generalize dd y3 y2 i = u2 at h2 HL HGt HSn
          have d1 : wo.cell? ⟨g1, o1 + i, none⟩ = some (.int .i64 u1) := (HBr.out.cell (p := ⟨g1, o1 + i, none⟩) (World.block_lt_of_cell? _ _ h1)).trans h1
          have d2 : wo.cell? ⟨g2, o2 + i, none⟩ = some (.int .i64 u2) := (HBr.out.cell (p := ⟨g2, o2 + i, none⟩) (World.block_lt_of_cell? _ _ h2)).trans h2
          clear hc1 hc2 h1 h2
          by_cases hu : u1 = u2
          · have Hn := Hid.mk (HSn.out hu)
            have hub : (u1 != u2) = false := by simp [hu]
            clear hu
            go_upto_region 12 with fail
            go_quiet (fail)
            go_wp2_with fail
            go_roundg (121 - (i + 1))
            case measure => omega
            case rel => exact ⟨i + 1, by omega, by omega, by go_num, Hn, ⟨below_drewN HBr.out nq⟩⟩
          · have Hzz : Hid (decide (u1 < u2) = z) := ⟨by
              by_cases h3 : u1 < u2
              · have h4 := HL.out h3
                have h5 := Hsl.out.2 (.inl h4)
                rw [h5]; simp [h3]
              · have h4 := HGt.out (by omega)
                have h5 : ¬ z = true := fun hz => by have := Hsl.out.1 hz; omega
                have h6 : z = false := by simpa using h5
                rw [h6]; simp [h3]⟩
            have hub : (u1 != u2) = true := by simp [hu]
            clear hu
            go_upto_region 12 with fail
            go_quiet (fail)
            obtain ⟨wq, Hwq⟩ : ∃ x, Hid (wo.drewN nq = x) := ⟨_, ⟨rfl⟩⟩
            have d1' : wq.cell? ⟨g1, o1 + i, none⟩ = some (.int .i64 u1) := by rw [← Hwq.out]; exact d1
            have d2' : wq.cell? ⟨g2, o2 + i, none⟩ = some (.int .i64 u2) := by rw [← Hwq.out]; exact d2
            have HBq : Hid (Below w.heap.size w wq) := ⟨by rw [← Hwq.out]; exact below_drewN HBo.out nq⟩
            rw [Hwq.out]
            clear Hwq d1 d2
            go_upto_region 13 with fail
            go_quiet (fail)
            go_wp2_with fail
            go_ret
            exact ⟨by rw [← Hzz.out]; rfl, below_drewN HBq.out nq⟩
        · obtain rfl : i = 121 := by omega
          have he := Hall.out HS.out
          have Hzz : Hid (decide (x1 < y1) = z) := ⟨by
            by_cases h3 : x1 < y1
            · have h5 := Hsl.out.2 (.inr ⟨by omega, h3⟩)
              rw [h5]; simp [h3]
            · have h5 : ¬ z = true := fun hz => by have := Hsl.out.1 hz; omega
              have h6 : z = false := by simpa using h5
              rw [h6]; simp [h3]⟩
          clear he
          have kk2 := HK.out wo (HB2.out.trans (HBr.out.mono HB2.out.size))
          obtain ⟨⟨m0, _⟩, n0, _⟩ := kk2
          go_wp2_with fail
          go_ret
          exact ⟨by rw [← Hzz.out]; rfl, HBo.out⟩
  · obtain rfl : x2 = p := (HX0.out.2 h1).symm
    have h1b : (x2 == 0) = false := by simp [h1]
    by_cases h2 : y2 = 0
    · obtain rfl : q = 1 := HY0.out.1 h2
      have h2b : (y2 == 0) = true := by simp [h2]
      clear h1 h2
      go_enter Try.func26, Try.ntmps26
      go_upto_region 1 with fail
      rw [HW.out, HbY.out, Hbx.out]
      go_wp2_with fail
      refine t1.mono ?_
      rintro e w1 ⟨v1, rfl, hO1, hB1⟩
      have HO1 := Hid.mk hO1
      have HB1 := Hid.mk hB1
      obtain ⟨a1, c1, e1, _⟩ := hO1.shape
      rw [digs_len] at e1
      subst e1
      have kk1 := HK.out w1 hB1
      obtain ⟨_, _, _, l2'⟩ := kk1
      have t2 := T2.out w1
      clear t1 hO1 hB1 k0 k1 k2 l0 l1 l2
      go_wp2_with fail
      refine t2.mono ?_
      rintro e w2 ⟨v2, rfl, hO2, hB2⟩
      have HO2 := Hid.mk hO2
      have HR1 : Hid (RdI w2 (.slice a1 121 c1) (digs x3 x2 120)) := ⟨HO1.out.rd.far (Chg.ofBelow (X := []) hB2) (by simp)⟩
      have HR2 : Hid (RdI w2 v2 (digs y3 1 120)) := ⟨hO2.rd⟩
      have HB2 : Hid (Below W.heap.size W w2) := ⟨HB1.out.trans (hB2.mono HB1.out.size)⟩
      obtain ⟨a2, c2, e2, _⟩ := hO2.shape
      rw [digs_len] at e2
      subst e2
      clear t2 hO2 hB2 l2' HO1 HB1 T2
      go_wp2_with fail
      go_loopg [9] 121 (fun gg s9 wr => ∃ i : Nat, i ≤ 121 ∧ 121 - i ≤ gg ∧ s9 = .int .i64 (i : Int) ∧ Hid (∀ j, j < i → dd x3 x2 j = dd y3 1 j) ∧ Hid (Below w2.heap.size w2 wr))
      case atStart => exact ⟨0, Nat.zero_le _, by omega, rfl, ⟨fun j hj => by omega⟩, ⟨Below.refl _ _⟩⟩
      case round =>
        obtain ⟨i, hi, hgg, rfl, HS, HBr⟩ := hrel
        rename World => wo
        have HBo : Hid (Below w.heap.size w wo) := ⟨HB.out.trans ((HB2.out.trans (HBr.out.mono HB2.out.size)).mono HB.out.size)⟩
        by_cases hlt : i < 121
        · have hltz : (i : Int) < 121 := by omega
          obtain ⟨g1, o1, cp1, e, _, hc1⟩ := HR1.out.at (i := i) (by rw [digs_len]; omega)
          rw [digs_len] at e
          simp at e
          obtain ⟨rfl, rfl⟩ := e
          obtain ⟨g2, o2, cp2, e, _, hc2⟩ := HR2.out.at (i := i) (by rw [digs_len]; omega)
          rw [digs_len] at e
          simp at e
          obtain ⟨rfl, rfl⟩ := e
          have h1 := hc1 i (by rw [digs_len]; omega)
          have h2 := hc2 i (by rw [digs_len]; omega)
          rw [digs_at _ _ (by omega)] at h1 h2
          have HL := Hid.mk (Hlt.out i HS.out)
          have HGt := Hid.mk (Hgt.out i (fun j hj => (HS.out j hj).symm))
          have HSn : Hid (dd x3 x2 i = dd y3 1 i → ∀ j, j < i + 1 → dd x3 x2 j = dd y3 1 j) := ⟨fun he j hj => by
            rcases Nat.lt_or_ge j i with h | h
            · exact HS.out j h
            · obtain rfl : j = i := by omega
              exact he⟩
          generalize dd x3 x2 i = u1 at h1 HL HGt HSn
          generalize dd y3 1 i = u2 at h2 HL HGt HSn
          have d1 : wo.cell? ⟨g1, o1 + i, none⟩ = some (.int .i64 u1) := (HBr.out.cell (p := ⟨g1, o1 + i, none⟩) (World.block_lt_of_cell? _ _ h1)).trans h1
          have d2 : wo.cell? ⟨g2, o2 + i, none⟩ = some (.int .i64 u2) := (HBr.out.cell (p := ⟨g2, o2 + i, none⟩) (World.block_lt_of_cell? _ _ h2)).trans h2
          clear hc1 hc2 h1 h2
          by_cases hu : u1 = u2
          · have Hn := Hid.mk (HSn.out hu)
            have hub : (u1 != u2) = false := by simp [hu]
            clear hu
            go_upto_region 12 with fail
            go_quiet (fail)
            go_wp2_with fail
            go_roundg (121 - (i + 1))
            case measure => omega
            case rel => exact ⟨i + 1, by omega, by omega, by go_num, Hn, ⟨below_drewN HBr.out nq⟩⟩
          · have Hzz : Hid (decide (u1 < u2) = z) := ⟨by
              by_cases h3 : u1 < u2
              · have h4 := HL.out h3
                have h5 := Hsl.out.2 (.inl h4)
                rw [h5]; simp [h3]
              · have h4 := HGt.out (by omega)
                have h5 : ¬ z = true := fun hz => by have := Hsl.out.1 hz; omega
                have h6 : z = false := by simpa using h5
                rw [h6]; simp [h3]⟩
            have hub : (u1 != u2) = true := by simp [hu]
            clear hu
            go_upto_region 12 with fail
            go_quiet (fail)
            obtain ⟨wq, Hwq⟩ : ∃ x, Hid (wo.drewN nq = x) := ⟨_, ⟨rfl⟩⟩
            have d1' : wq.cell? ⟨g1, o1 + i, none⟩ = some (.int .i64 u1) := by rw [← Hwq.out]; exact d1
            have d2' : wq.cell? ⟨g2, o2 + i, none⟩ = some (.int .i64 u2) := by rw [← Hwq.out]; exact d2
            have HBq : Hid (Below w.heap.size w wq) := ⟨by rw [← Hwq.out]; exact below_drewN HBo.out nq⟩
            rw [Hwq.out]
            clear Hwq d1 d2
            go_upto_region 13 with fail
            go_quiet (fail)
            go_wp2_with fail
            go_ret
            exact ⟨by rw [← Hzz.out]; rfl, below_drewN HBq.out nq⟩
        · obtain rfl : i = 121 := by omega
          have he := Hall.out HS.out
          have Hzz : Hid (decide (x1 < y1) = z) := ⟨by
            by_cases h3 : x1 < y1
            · have h5 := Hsl.out.2 (.inr ⟨by omega, h3⟩)
              rw [h5]; simp [h3]
            · have h5 : ¬ z = true := fun hz => by have := Hsl.out.1 hz; omega
              have h6 : z = false := by simpa using h5
              rw [h6]; simp [h3]⟩
          clear he
          have kk2 := HK.out wo (HB2.out.trans (HBr.out.mono HB2.out.size))
          obtain ⟨⟨m0, _⟩, n0, _⟩ := kk2
          go_wp2_with fail
          go_ret
          exact ⟨by rw [← Hzz.out]; rfl, HBo.out⟩
    · obtain rfl : y2 = q := (HY0.out.2 h2).symm
      have h2b : (y2 == 0) = false := by simp [h2]
      clear h1 h2
      go_enter Try.func26, Try.ntmps26
      go_upto_region 1 with fail
      rw [HW.out, HbY.out, Hbx.out]
      go_wp2_with fail
      refine t1.mono ?_
      rintro e w1 ⟨v1, rfl, hO1, hB1⟩
      have HO1 := Hid.mk hO1
      have HB1 := Hid.mk hB1
      obtain ⟨a1, c1, e1, _⟩ := hO1.shape
      rw [digs_len] at e1
      subst e1
      have kk1 := HK.out w1 hB1
      obtain ⟨_, _, _, l2'⟩ := kk1
      have t2 := T2.out w1
      clear t1 hO1 hB1 k0 k1 k2 l0 l1 l2
      go_wp2_with fail
      refine t2.mono ?_
      rintro e w2 ⟨v2, rfl, hO2, hB2⟩
      have HO2 := Hid.mk hO2
      have HR1 : Hid (RdI w2 (.slice a1 121 c1) (digs x3 x2 120)) := ⟨HO1.out.rd.far (Chg.ofBelow (X := []) hB2) (by simp)⟩
      have HR2 : Hid (RdI w2 v2 (digs y3 y2 120)) := ⟨hO2.rd⟩
      have HB2 : Hid (Below W.heap.size W w2) := ⟨HB1.out.trans (hB2.mono HB1.out.size)⟩
      obtain ⟨a2, c2, e2, _⟩ := hO2.shape
      rw [digs_len] at e2
      subst e2
      clear t2 hO2 hB2 l2' HO1 HB1 T2
      go_wp2_with fail
      go_loopg [9] 121 (fun gg s9 wr => ∃ i : Nat, i ≤ 121 ∧ 121 - i ≤ gg ∧ s9 = .int .i64 (i : Int) ∧ Hid (∀ j, j < i → dd x3 x2 j = dd y3 y2 j) ∧ Hid (Below w2.heap.size w2 wr))
      case atStart => exact ⟨0, Nat.zero_le _, by omega, rfl, ⟨fun j hj => by omega⟩, ⟨Below.refl _ _⟩⟩
      case round =>
        obtain ⟨i, hi, hgg, rfl, HS, HBr⟩ := hrel
        rename World => wo
        have HBo : Hid (Below w.heap.size w wo) := ⟨HB.out.trans ((HB2.out.trans (HBr.out.mono HB2.out.size)).mono HB.out.size)⟩
        by_cases hlt : i < 121
        · have hltz : (i : Int) < 121 := by omega
          obtain ⟨g1, o1, cp1, e, _, hc1⟩ := HR1.out.at (i := i) (by rw [digs_len]; omega)
          rw [digs_len] at e
          simp at e
          obtain ⟨rfl, rfl⟩ := e
          obtain ⟨g2, o2, cp2, e, _, hc2⟩ := HR2.out.at (i := i) (by rw [digs_len]; omega)
          rw [digs_len] at e
          simp at e
          obtain ⟨rfl, rfl⟩ := e
          have h1 := hc1 i (by rw [digs_len]; omega)
          have h2 := hc2 i (by rw [digs_len]; omega)
          rw [digs_at _ _ (by omega)] at h1 h2
          have HL := Hid.mk (Hlt.out i HS.out)
          have HGt := Hid.mk (Hgt.out i (fun j hj => (HS.out j hj).symm))
          have HSn : Hid (dd x3 x2 i = dd y3 y2 i → ∀ j, j < i + 1 → dd x3 x2 j = dd y3 y2 j) := ⟨fun he j hj => by
            rcases Nat.lt_or_ge j i with h | h
            · exact HS.out j h
            · obtain rfl : j = i := by omega
              exact he⟩
          generalize dd x3 x2 i = u1 at h1 HL HGt HSn
          generalize dd y3 y2 i = u2 at h2 HL HGt HSn
          have d1 : wo.cell? ⟨g1, o1 + i, none⟩ = some (.int .i64 u1) := (HBr.out.cell (p := ⟨g1, o1 + i, none⟩) (World.block_lt_of_cell? _ _ h1)).trans h1
          have d2 : wo.cell? ⟨g2, o2 + i, none⟩ = some (.int .i64 u2) := (HBr.out.cell (p := ⟨g2, o2 + i, none⟩) (World.block_lt_of_cell? _ _ h2)).trans h2
          clear hc1 hc2 h1 h2
          by_cases hu : u1 = u2
          · have Hn := Hid.mk (HSn.out hu)
            have hub : (u1 != u2) = false := by simp [hu]
            clear hu
            go_upto_region 12 with fail
            go_quiet (fail)
            go_wp2_with fail
            go_roundg (121 - (i + 1))
            case measure => omega
            case rel => exact ⟨i + 1, by omega, by omega, by go_num, Hn, ⟨below_drewN HBr.out nq⟩⟩
          · have Hzz : Hid (decide (u1 < u2) = z) := ⟨by
              by_cases h3 : u1 < u2
              · have h4 := HL.out h3
                have h5 := Hsl.out.2 (.inl h4)
                rw [h5]; simp [h3]
              · have h4 := HGt.out (by omega)
                have h5 : ¬ z = true := fun hz => by have := Hsl.out.1 hz; omega
                have h6 : z = false := by simpa using h5
                rw [h6]; simp [h3]⟩
            have hub : (u1 != u2) = true := by simp [hu]
            clear hu
            go_upto_region 12 with fail
            go_quiet (fail)
            obtain ⟨wq, Hwq⟩ : ∃ x, Hid (wo.drewN nq = x) := ⟨_, ⟨rfl⟩⟩
            have d1' : wq.cell? ⟨g1, o1 + i, none⟩ = some (.int .i64 u1) := by rw [← Hwq.out]; exact d1
            have d2' : wq.cell? ⟨g2, o2 + i, none⟩ = some (.int .i64 u2) := by rw [← Hwq.out]; exact d2
            have HBq : Hid (Below w.heap.size w wq) := ⟨by rw [← Hwq.out]; exact below_drewN HBo.out nq⟩
            rw [Hwq.out]
            clear Hwq d1 d2
            go_upto_region 13 with fail
            go_quiet (fail)
            go_wp2_with fail
            go_ret
            exact ⟨by rw [← Hzz.out]; rfl, below_drewN HBq.out nq⟩
        · obtain rfl : i = 121 := by omega
          have he := Hall.out HS.out
          have Hzz : Hid (decide (x1 < y1) = z) := ⟨by
            by_cases h3 : x1 < y1
            · have h5 := Hsl.out.2 (.inr ⟨by omega, h3⟩)
              rw [h5]; simp [h3]
            · have h5 : ¬ z = true := fun hz => by have := Hsl.out.1 hz; omega
              have h6 : z = false := by simpa using h5
              rw [h6]; simp [h3]⟩
          clear he
          have kk2 := HK.out wo (HB2.out.trans (HBr.out.mono HB2.out.size))
          obtain ⟨⟨m0, _⟩, n0, _⟩ := kk2
          go_wp2_with fail
          go_ret
          exact ⟨by rw [← Hzz.out]; rfl, HBo.out⟩
end
end Go.Proofs.Ytjcojpddjhjhbaa
