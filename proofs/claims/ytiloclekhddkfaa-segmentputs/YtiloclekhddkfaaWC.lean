/- The walk of SegmentChampions. -/
import Derived.Test.YtiloclekhddkfaaP1
import Derived.Deep.QuietTactic
namespace Go.Proofs.Ytiloclekhddkfaa
open Go.RowKit Go.Lib

theorem Chg.drewN {X : List Nat} {w w' : World} (h : Chg X w w') (n : Nat) : Chg X w (w'.drewN n) := ⟨h.os, h.tape, h.output, h.size, h.block⟩
section
variable {w : World}
set_option maxHeartbeats 8000000 in
set_option maxRecDepth 100000 in
theorem walk_segmentChampions (v : Value) (M : List (List Int)) (most : Int) (h : ArgL w v M) (hwf : ∀ i, i < M.length → ∀ x ∈ M.getD i [], -9223372036854775808 ≤ x ∧ x ≤ 9223372036854775807) : Calls Try.prog 6 #[v, .int .i64 most] w fun e w' => e = .returned (.bool true) ∧ Below w.heap.size w w' := by
  have t1 := few_any v M h
  have HsF := Hid.mk (fewL_small hwf)
  have HlF := Hid.mk (fewL_len M)
  generalize fewL M = F at t1 HsF HlF
  obtain ⟨av, cv, rfl, _⟩ := h.shape
  obtain ⟨nM, HnM⟩ : ∃ n, Hid (M.length = n) := ⟨_, ⟨rfl⟩⟩
  rw [HnM.out] at t1 ⊢
  clear h hwf
  go_enter Try.func6, Try.ntmps6
  go_upto_region 2 with (go_at_call 19; refine t1.mono ?_; rintro e w1 ⟨v1, rfl, hO1, hb1⟩)
  have HO1 := Hid.mk hO1
  have HB1 := Hid.mk hb1
  obtain ⟨aF, cF, eF, _⟩ := hO1.rows.shape
  subst eF
  obtain ⟨nF, HnF⟩ : ∃ n, Hid (F.length = n) := ⟨_, ⟨rfl⟩⟩
  have t2 := champs_any _ F most hO1.arg HsF.out
  rw [HnF.out] at t2 HO1 HlF ⊢
  clear hO1 hb1 t1
  go_upto_region 3 with (go_at_call 20; refine t2.mono ?_; rintro e w2 ⟨v2, rfl, N, C, hN, hC, hO2, hb2⟩)
  have HB2 := Hid.mk hb2
  have HO2 := Hid.mk hO2
  have HR2 := Hid.mk (champ_rchamp hC hN)
  have HJ2 : Hid (RowsJ w2 (fun k => k < w2.heap.size) (.slice aF nF cF) F) := ⟨by
    obtain ⟨vs, q1, q2⟩ := HO1.out.far (Chg.ofBelow (X := []) hb2) (by simp) (by simp)
    exact ⟨vs, own_rd q1, q2.mono (fun k _ hk => by replace hk : k < w.heap.size := hk; have := HB1.out.size; have := hb2.size; show k < w2.heap.size; omega)⟩⟩
  have t3 := rchampsj_any _ F most HJ2.out HsF.out
  obtain ⟨aC, cC, eC, _⟩ := hO2.shape
  subst eC
  clear hO2 hb2 hC hN t2
  go_upto_region 4 with (go_at_call 21; refine t3.mono ?_; rintro e w3 ⟨v3, rfl, D, hD, hO3, hb3⟩)
  have HE : Hid (D = C) := ⟨(rchamp_one HR2.out hD).symm⟩
  have e := HE.out
  subst e
  clear HE hD t3
  have HFr := Hid.mk (rchamp_fresh HR2.out)
  have HCl : Hid (D.length ≤ 8) := ⟨rchamp_len8 HR2.out⟩
  obtain ⟨aD, cD, eD, _⟩ := hO3.shape
  subst eD
  have HRC : Hid (RdI w3 (.slice aC D.length cC) D) := ⟨(HO2.out.rd).far (Chg.ofBelow (X := []) hb3) (by simp)⟩
  have HRD : Hid (RdI w3 (.slice aD D.length cD) D) := ⟨hO3.rd⟩
  have HAF : Hid (ArgL w3 (.slice aF nF cF) F) := ⟨(HJ2.out.arg).below hb3⟩
  have HBw : Hid (Below w.heap.size w w3) := ⟨(HB1.out.trans (HB2.out.mono HB1.out.size)).trans (hb3.mono (Nat.le_trans HB1.out.size HB2.out.size))⟩
  obtain ⟨C, HC⟩ : ∃ C, Hid (D = C) := ⟨_, ⟨rfl⟩⟩
  rw [HC.out] at HFr HRC HRD HCl ⊢
  obtain ⟨nC, HnC⟩ : ∃ n, Hid (C.length = n) := ⟨_, ⟨rfl⟩⟩
  rw [HnC.out] at HRC HRD HCl ⊢
  obtain ⟨W, eW⟩ : ∃ x, x = w3 := ⟨_, rfl⟩
  subst eW
  have hn8 := HCl.out
  have hn12 := HlF.out
  clear hb3 hO3 HO2 HJ2 HO1 HB2
  have tl := fun (wx : World) => live_any (w := wx)
  go_wp2_with fail
  go_loopg [8, 9, 10, 11, 12, 13, 14] nC (fun gg s8 _ _ _ _ _ _ wq => ∃ ii : Nat, ii ≤ nC ∧ nC - ii ≤ gg ∧ s8 = .int .i64 (ii : Int) ∧ Hid (Chg [] W wq))
  case atStart => exact ⟨0, Nat.zero_le _, by omega, rfl, ⟨Chg.refl _ _⟩⟩
  case round =>
    obtain ⟨ii, hii, hg1, rfl, HG1⟩ := hrel
    rename World => wq
    by_cases hil : ii < nC
    · have hiz : (ii : Int) < (nC : Int) := by omega
      have hiC : ii < C.length := by rw [HnC.out]; exact hil
      obtain ⟨bc, oc, cc, ec, _, hcC⟩ := HRC.out.at hiC
      obtain ⟨bd, od, cd, ed, _, hcD⟩ := HRD.out.at hiC
      rw [HnC.out] at ec ed
      simp at ec ed
      obtain ⟨rfl, rfl⟩ := ec
      obtain ⟨rfl, rfl⟩ := ed
      have HcC := Hid.mk hcC
      have cx0 := hcC ii hiC
      have cy0 := hcD ii hiC
      have cx : wq.cell? ⟨bc, oc + ii, none⟩ = some (.int .i64 (C.getD ii 0)) := (HG1.out.cell (a := ⟨bc, oc + ii, none⟩) (World.block_lt_of_cell? _ _ cx0) (by simp)).trans cx0
      have cy : wq.cell? ⟨bd, od + ii, none⟩ = some (.int .i64 (C.getD ii 0)) := (HG1.out.cell (a := ⟨bd, od + ii, none⟩) (World.block_lt_of_cell? _ _ cy0) (by simp)).trans cy0
      have Hfr := Hid.mk (HFr.out ii hiC)
      have Hfd : Hid (∀ l, fr C ii l = (decide (C.getD ii 0 ∈ l) && !((C.take ii).any fun x => decide (x ∈ l)))) := ⟨fun _ => rfl⟩
      have Hcx := Hid.mk cx0
      clear cy0 hcC hcD cx0
      generalize C.getD ii 0 = x at cx cy Hcx Hfd
      go_wp2_with fail
      go_quiet (fail)
      go_wp2_with fail
      go_loopg [9, 10, 11, 12, 13, 14] nF (fun gg s9 s10 _ _ _ _ wq => ∃ kk : Nat, kk ≤ nF ∧ nF - kk ≤ gg ∧ s10 = .int .i64 (kk : Int) ∧ s9 = .bool ((F.take kk).any (fr C ii)) ∧ Hid (Chg [] W wq))
      case atStart => exact ⟨0, Nat.zero_le _, by omega, rfl, by simp, ⟨HG1.out.drewN _⟩⟩
      case round =>
        clear cx cy HG1
        obtain ⟨kk, hkk, hg2, rfl, rfl, HG2⟩ := hrel
        rename World => wq
        by_cases hkl : kk < nF
        · have hkz : (kk : Int) < (nF : Int) := by omega
          have hkF : kk < F.length := by rw [HnF.out]; exact hkl
          obtain ⟨b1, o1, c1, x1, m1, z1, e1, d1, y1⟩ := HAF.out.at' kk hkF
          rw [HnF.out] at e1
          simp at e1
          obtain ⟨rfl, rfl⟩ := e1
          have HFs := Hid.mk (any_snoc (fr C ii) F kk [] hkF)
          have hll := HsF.out.each kk hkF
          rw [Hfd.out] at HFs
          generalize F.getD kk [] = li at y1 HFs hll
          have hm1 : li.length = m1 := by obtain ⟨_, _, e, _⟩ := y1.shape; simp at e; exact e.2.1.symm
          have Hm1 := Hid.mk hm1
          have Hy := Hid.mk y1
          have Hd1 := Hid.mk d1
          rw [hm1] at hll
          clear y1 hm1 d1
          go_wp2_with fail
          go_loopg [11, 12, 13, 14] m1 (fun gg s11 s12 s13 _ wq => ∃ j : Nat, j ≤ m1 ∧ m1 - j ≤ gg ∧ s13 = .int .i64 (j : Int) ∧ s11 = .bool (decide (x ∈ li.take j)) ∧ s12 = .bool ((C.take ii).any fun u => decide (u ∈ li.take j)) ∧ Hid (Chg [] W wq))
          case atStart => exact ⟨0, Nat.zero_le _, by omega, rfl, by simp, by simp, HG2⟩
          case round =>
            clear HG2
            obtain ⟨j, hj, hg3, rfl, rfl, rfl, HG3⟩ := hrel
            rename World => wq
            have cRw : wq.cell? ⟨b1, o1 + kk, none⟩ = some (.slice x1 m1 z1) := (HG3.out.cell (a := ⟨b1, o1 + kk, none⟩) (World.block_lt_of_cell? _ _ Hd1.out) (by simp)).trans Hd1.out
            obtain ⟨T0, HT0⟩ : ∃ T, Hid (((C.take ii).any fun u => decide (u ∈ li.take j)) = T) := ⟨_, ⟨rfl⟩⟩
            obtain ⟨Mi, HMi⟩ : ∃ T, Hid (decide (x ∈ li.take j) = T) := ⟨_, ⟨rfl⟩⟩
            rw [HT0.out, HMi.out]
            by_cases hjl : j < m1
            · have hjz : (j : Int) < (m1 : Int) := by omega
              have hjL : j < li.length := by rw [Hm1.out]; exact hjl
              obtain ⟨b2, o2, c2, e2, _, hcell⟩ := Hy.out.at hjL
              rw [Hm1.out] at e2
              simp at e2
              obtain ⟨rfl, rfl⟩ := e2
              have HMn := Hid.mk (mem_snoc x li j hjL)
              have HTh := Hid.mk (theirs_snoc (C.take ii) li j hjL)
              have Hdy := Hid.mk (hcell j hjL)
              clear hcell
              generalize li.getD j 0 = y at HMn HTh Hdy
              have cYw : wq.cell? ⟨b2, o2 + j, none⟩ = some (.int .i64 y) := (HG3.out.cell (a := ⟨b2, o2 + j, none⟩) (World.block_lt_of_cell? _ _ Hdy.out) (by simp)).trans Hdy.out
              have cXw : wq.cell? ⟨bc, oc + ii, none⟩ = some (.int .i64 x) := (HG3.out.cell (a := ⟨bc, oc + ii, none⟩) (World.block_lt_of_cell? _ _ Hcx.out) (by simp)).trans Hcx.out
              cases Mi with
              | true =>
                go_wp2_with fail
                go_quiet (fail)
                clear cRw cYw cXw
                go_wp2_with fail
                go_loopg [12, 14] ii (fun gg s12 s14 wq => ∃ hh : Nat, hh ≤ ii ∧ ii - hh ≤ gg ∧ s14 = .int .i64 (hh : Int) ∧ s12 = .bool (T0 || (C.take hh).any fun x => y == x) ∧ Hid (Chg [] W wq))
                case atStart => exact ⟨0, Nat.zero_le _, by omega, rfl, by simp, ⟨HG3.out.drewN _⟩⟩
                case round =>
                  obtain ⟨hh, hhi, hg4, rfl, rfl, HG4⟩ := hrel
                  rename World => wq
                  by_cases hhl : hh < ii
                  · have hhz : (hh : Int) < (ii : Int) := by omega
                    have hhC : hh < C.length := by rw [HnC.out]; omega
                    have HTn := Hid.mk (any_snoc (fun x => y == x) C hh 0 hhC)
                    have cR : wq.cell? ⟨b1, o1 + kk, none⟩ = some (.slice (some ⟨b2, o2, none⟩) m1 z1) := (HG4.out.cell (a := ⟨b1, o1 + kk, none⟩) (World.block_lt_of_cell? _ _ Hd1.out) (by simp)).trans Hd1.out
                    have cY : wq.cell? ⟨b2, o2 + j, none⟩ = some (.int .i64 y) := (HG4.out.cell (a := ⟨b2, o2 + j, none⟩) (World.block_lt_of_cell? _ _ Hdy.out) (by simp)).trans Hdy.out
                    have cH0 := HcC.out hh hhC
                    have cH : wq.cell? ⟨bc, oc + hh, none⟩ = some (.int .i64 (C.getD hh 0)) := (HG4.out.cell (a := ⟨bc, oc + hh, none⟩) (World.block_lt_of_cell? _ _ cH0) (by simp)).trans cH0
                    have hhn : hh < nC := by omega
                    have hhnz : (hh : Int) < (nC : Int) := by omega
                    clear cH0
                    generalize C.getD hh 0 = z at cH HTn
                    obtain ⟨Tc, HTc⟩ : ∃ T, Hid ((T0 || (C.take hh).any fun x => y == x) = T) := ⟨_, ⟨rfl⟩⟩
                    rw [HTc.out]
                    cases Tc with
                    | true =>
                      go_wp2_with fail
                      go_quiet (fail)
                      go_wp2_with fail
                      go_roundg (ii - (hh + 1))
                      case measure => omega
                      case rel => exact ⟨hh + 1, by omega, by omega, by go_num, by rw [HTn.out, ← Bool.or_assoc, HTc.out]; rfl, ⟨HG4.out.drewN _⟩⟩
                    | false =>
                      by_cases hyz : y = z
                      · subst hyz
                        go_wp2_with fail
                        go_quiet (fail)
                        go_wp2_with fail
                        go_roundg (ii - (hh + 1))
                        case measure => omega
                        case rel => exact ⟨hh + 1, by omega, by omega, by go_num, by rw [HTn.out, ← Bool.or_assoc, HTc.out]; simp, ⟨HG4.out.drewN _⟩⟩
                      · go_wp2_with fail
                        go_quiet (fail)
                        go_wp2_with fail
                        go_roundg (ii - (hh + 1))
                        case measure => omega
                        case rel => exact ⟨hh + 1, by omega, by omega, by go_num, by rw [HTn.out, ← Bool.or_assoc, HTc.out]; simp, ⟨HG4.out.drewN _⟩⟩
                  · obtain rfl : hh = ii := by omega
                    go_wp2_with fail
                    go_roundg (m1 - (j + 1))
                    case measure => omega
                    case rel => exact ⟨j + 1, by omega, by omega, by go_num, by rw [HMn.out, HMi.out]; rfl, by rw [HTh.out, HT0.out], HG4⟩
              | false =>
                by_cases hyx : y = x
                · subst hyx
                  go_wp2_with fail
                  go_quiet (fail)
                  clear cRw cYw cXw
                  go_wp2_with fail
                  go_loopg [12, 14] ii (fun gg s12 s14 wq => ∃ hh : Nat, hh ≤ ii ∧ ii - hh ≤ gg ∧ s14 = .int .i64 (hh : Int) ∧ s12 = .bool (T0 || (C.take hh).any fun x => y == x) ∧ Hid (Chg [] W wq))
                  case atStart => exact ⟨0, Nat.zero_le _, by omega, rfl, by simp, ⟨HG3.out.drewN _⟩⟩
                  case round =>
                    obtain ⟨hh, hhi, hg4, rfl, rfl, HG4⟩ := hrel
                    rename World => wq
                    by_cases hhl : hh < ii
                    · have hhz : (hh : Int) < (ii : Int) := by omega
                      have hhC : hh < C.length := by rw [HnC.out]; omega
                      have HTn := Hid.mk (any_snoc (fun x => y == x) C hh 0 hhC)
                      have cR : wq.cell? ⟨b1, o1 + kk, none⟩ = some (.slice (some ⟨b2, o2, none⟩) m1 z1) := (HG4.out.cell (a := ⟨b1, o1 + kk, none⟩) (World.block_lt_of_cell? _ _ Hd1.out) (by simp)).trans Hd1.out
                      have cY : wq.cell? ⟨b2, o2 + j, none⟩ = some (.int .i64 y) := (HG4.out.cell (a := ⟨b2, o2 + j, none⟩) (World.block_lt_of_cell? _ _ Hdy.out) (by simp)).trans Hdy.out
                      have cH0 := HcC.out hh hhC
                      have cH : wq.cell? ⟨bc, oc + hh, none⟩ = some (.int .i64 (C.getD hh 0)) := (HG4.out.cell (a := ⟨bc, oc + hh, none⟩) (World.block_lt_of_cell? _ _ cH0) (by simp)).trans cH0
                      have hhn : hh < nC := by omega
                      have hhnz : (hh : Int) < (nC : Int) := by omega
                      clear cH0
                      generalize C.getD hh 0 = z at cH HTn
                      obtain ⟨Tc, HTc⟩ : ∃ T, Hid ((T0 || (C.take hh).any fun x => y == x) = T) := ⟨_, ⟨rfl⟩⟩
                      rw [HTc.out]
                      cases Tc with
                      | true =>
                        go_wp2_with fail
                        go_quiet (fail)
                        go_wp2_with fail
                        go_roundg (ii - (hh + 1))
                        case measure => omega
                        case rel => exact ⟨hh + 1, by omega, by omega, by go_num, by rw [HTn.out, ← Bool.or_assoc, HTc.out]; rfl, ⟨HG4.out.drewN _⟩⟩
                      | false =>
                        by_cases hyz : y = z
                        · subst hyz
                          go_wp2_with fail
                          go_quiet (fail)
                          go_wp2_with fail
                          go_roundg (ii - (hh + 1))
                          case measure => omega
                          case rel => exact ⟨hh + 1, by omega, by omega, by go_num, by rw [HTn.out, ← Bool.or_assoc, HTc.out]; simp, ⟨HG4.out.drewN _⟩⟩
                        · go_wp2_with fail
                          go_quiet (fail)
                          go_wp2_with fail
                          go_roundg (ii - (hh + 1))
                          case measure => omega
                          case rel => exact ⟨hh + 1, by omega, by omega, by go_num, by rw [HTn.out, ← Bool.or_assoc, HTc.out]; simp, ⟨HG4.out.drewN _⟩⟩
                    · obtain rfl : hh = ii := by omega
                      go_wp2_with fail
                      go_roundg (m1 - (j + 1))
                      case measure => omega
                      case rel => exact ⟨j + 1, by omega, by omega, by go_num, by rw [HMn.out, HMi.out]; simp, by rw [HTh.out, HT0.out], HG4⟩
                · go_wp2_with fail
                  go_quiet (fail)
                  clear cRw cYw cXw
                  go_wp2_with fail
                  go_loopg [12, 14] ii (fun gg s12 s14 wq => ∃ hh : Nat, hh ≤ ii ∧ ii - hh ≤ gg ∧ s14 = .int .i64 (hh : Int) ∧ s12 = .bool (T0 || (C.take hh).any fun x => y == x) ∧ Hid (Chg [] W wq))
                  case atStart => exact ⟨0, Nat.zero_le _, by omega, rfl, by simp, ⟨HG3.out.drewN _⟩⟩
                  case round =>
                    obtain ⟨hh, hhi, hg4, rfl, rfl, HG4⟩ := hrel
                    rename World => wq
                    by_cases hhl : hh < ii
                    · have hhz : (hh : Int) < (ii : Int) := by omega
                      have hhC : hh < C.length := by rw [HnC.out]; omega
                      have HTn := Hid.mk (any_snoc (fun x => y == x) C hh 0 hhC)
                      have cR : wq.cell? ⟨b1, o1 + kk, none⟩ = some (.slice (some ⟨b2, o2, none⟩) m1 z1) := (HG4.out.cell (a := ⟨b1, o1 + kk, none⟩) (World.block_lt_of_cell? _ _ Hd1.out) (by simp)).trans Hd1.out
                      have cY : wq.cell? ⟨b2, o2 + j, none⟩ = some (.int .i64 y) := (HG4.out.cell (a := ⟨b2, o2 + j, none⟩) (World.block_lt_of_cell? _ _ Hdy.out) (by simp)).trans Hdy.out
                      have cH0 := HcC.out hh hhC
                      have cH : wq.cell? ⟨bc, oc + hh, none⟩ = some (.int .i64 (C.getD hh 0)) := (HG4.out.cell (a := ⟨bc, oc + hh, none⟩) (World.block_lt_of_cell? _ _ cH0) (by simp)).trans cH0
                      have hhn : hh < nC := by omega
                      have hhnz : (hh : Int) < (nC : Int) := by omega
                      clear cH0
                      generalize C.getD hh 0 = z at cH HTn
                      obtain ⟨Tc, HTc⟩ : ∃ T, Hid ((T0 || (C.take hh).any fun x => y == x) = T) := ⟨_, ⟨rfl⟩⟩
                      rw [HTc.out]
                      cases Tc with
                      | true =>
                        go_wp2_with fail
                        go_quiet (fail)
                        go_wp2_with fail
                        go_roundg (ii - (hh + 1))
                        case measure => omega
                        case rel => exact ⟨hh + 1, by omega, by omega, by go_num, by rw [HTn.out, ← Bool.or_assoc, HTc.out]; rfl, ⟨HG4.out.drewN _⟩⟩
                      | false =>
                        by_cases hyz : y = z
                        · subst hyz
                          go_wp2_with fail
                          go_quiet (fail)
                          go_wp2_with fail
                          go_roundg (ii - (hh + 1))
                          case measure => omega
                          case rel => exact ⟨hh + 1, by omega, by omega, by go_num, by rw [HTn.out, ← Bool.or_assoc, HTc.out]; simp, ⟨HG4.out.drewN _⟩⟩
                        · go_wp2_with fail
                          go_quiet (fail)
                          go_wp2_with fail
                          go_roundg (ii - (hh + 1))
                          case measure => omega
                          case rel => exact ⟨hh + 1, by omega, by omega, by go_num, by rw [HTn.out, ← Bool.or_assoc, HTc.out]; simp, ⟨HG4.out.drewN _⟩⟩
                    · obtain rfl : hh = ii := by omega
                      go_wp2_with fail
                      go_roundg (m1 - (j + 1))
                      case measure => omega
                      case rel => exact ⟨j + 1, by omega, by omega, by go_num, by rw [HMn.out, HMi.out]; simp, by rw [HTh.out, HT0.out], HG4⟩
            · obtain rfl : j = m1 := by omega
              have HTt : Hid (li.take j = li) := ⟨List.take_of_length_le (by rw [Hm1.out]; exact Nat.le_refl _)⟩
              rw [HTt.out] at HT0 HMi
              rw [HT0.out, HMi.out] at HFs
              obtain ⟨Fb, HFb⟩ : ∃ T, Hid ((F.take kk).any (fr C ii) = T) := ⟨_, ⟨rfl⟩⟩
              rw [HFb.out] at HFs ⊢
              cases Fb with
              | true =>
                go_wp2_with fail
                go_roundg (nF - (kk + 1))
                case measure => omega
                case rel => exact ⟨kk + 1, by omega, by omega, by go_num, by rw [HFs.out]; rfl, HG3⟩
              | false =>
                cases Mi with
                | false =>
                  go_wp2_with fail
                  go_roundg (nF - (kk + 1))
                  case measure => omega
                  case rel => exact ⟨kk + 1, by omega, by omega, by go_num, by rw [HFs.out]; rfl, HG3⟩
                | true =>
                  cases T0 with
                  | false =>
                    go_wp2_with fail
                    go_roundg (nF - (kk + 1))
                    case measure => omega
                    case rel => exact ⟨kk + 1, by omega, by omega, by go_num, by rw [HFs.out]; rfl, HG3⟩
                  | true =>
                    go_wp2_with fail
                    go_roundg (nF - (kk + 1))
                    case measure => omega
                    case rel => exact ⟨kk + 1, by omega, by omega, by go_num, by rw [HFs.out]; rfl, HG3⟩
        · obtain rfl : kk = nF := by omega
          have HTt : Hid (F.take kk = F) := ⟨List.take_of_length_le (by rw [HnF.out]; exact Nat.le_refl _)⟩
          rw [HTt.out, Hfr.out]
          go_wp2_with fail
          go_roundg (nC - (ii + 1))
          case measure => omega
          case rel => exact ⟨ii + 1, by omega, by omega, by go_num, HG2⟩
    · obtain rfl : ii = nC := by omega
      go_wp2_with fail
      refine (tl wq).mono ?_
      rintro e w9 ⟨rfl, hb9⟩
      go_wp2_with fail
      go_ret
      exact ⟨rfl, HBw.out.trans ((HG1.out.below (Nat.le_refl _) (by simp)).mono HBw.out.size |>.trans (hb9.mono (Nat.le_trans HBw.out.size HG1.out.size)))⟩
end
end Go.Proofs.Ytiloclekhddkfaa
