/- The document's Move. -/
import Derived.Test.YtkkcdmdkjedkjaaM4
namespace Go.Proofs.Ytkkcdmdkjedkjaa
open Go.RowKit Go.Lib

theorem fnd2_take {ms : List (Sp × Sp)} {k : Nat} {key : Sp} (hk : k < ms.length) (h : fnd2 (ms.take k) key = none) : fnd2 (ms.take (k + 1)) key = if (ms.getD k m0).1 = key then some (ms.getD k m0).2 else none := by
  rw [List.take_add_one, List.getElem?_eq_getElem hk, fnd2_app, h]
  simp only [Option.toList_some, fnd2_cons, fnd2_nil, List.getD, List.getElem?_eq_getElem hk, Option.getD_some]
theorem fnd2_pre {ms : List (Sp × Sp)} {k : Nat} {key v : Sp} (h : fnd2 (ms.take k) key = some v) : fnd2 ms key = some v := by
  rw [← List.take_append_drop k ms, fnd2_app, h]
theorem map_snoc (f : Rf → Rf) (L : List Rf) {i : Nat} (h : i < L.length) : (L.take (i + 1)).map f = (L.take i).map f ++ [f (L.getD i r0)] := by
  rw [List.take_add_one, List.getElem?_eq_getElem h, List.map_append]
  simp [List.getD, List.getElem?_eq_getElem h]
theorem RefAt.moved {w : World} {q : Nat} {r : Rf} (h : RefAt w q r) (x y : Int) : RefAt ((w.setCell ⟨q, 33, none⟩ (.int .i64 x)).setCell ⟨q, 34, none⟩ (.int .i64 y)) q { r with b := x, o := y } := by
  have h1 := heap_setCell_same w q 33 _ 56 (.int .i64 x) h.row
  have h2 := heap_setCell_same _ q 34 _ 56 (.int .i64 y) h1
  have e := rc_moved r h.sm x y
  refine ⟨?_, h.sm⟩
  rw [h2, e]
  simp
section
variable {w : World}
set_option maxHeartbeats 8000000 in
set_option maxRecDepth 100000 in
theorem rmove_any (v u : Value) (L : List Rf) (ms : List (Sp × Sp)) (h : RdR w v L) (hL : L.length ≤ 2513169434843) (hu : RdE mc 4 m0 w u ms) (hl : ms.length ≤ 1000000) :
    Calls Try.prog 25 #[v, u] w fun e w' => ∃ x, e = .returned (.tuple #[x, .int .i64 ((cnt ms L : Nat) : Int)]) ∧ OwnE rc 35 56 w' w.heap.size x (L.map (mv ms)) ∧ Below w.heap.size w w' := by
  have H := Hid.mk h
  have HU := Hid.mk hu
  have HSms := Hid.mk h.sums
  obtain ⟨av, cv, rfl, hcv, hcm, _⟩ := h.shape
  obtain ⟨au, cu, rfl, hcu, _⟩ := hu.shape
  obtain ⟨n, Hn⟩ : ∃ n, Hid (L.length = n) := ⟨_, ⟨rfl⟩⟩
  obtain ⟨m, Hm⟩ : ∃ n, Hid (ms.length = n) := ⟨_, ⟨rfl⟩⟩
  rw [Hn.out] at H hcv hL ⊢
  rw [Hm.out] at HU hcu hl ⊢
  have HTe : Hid (L.take n = L) := ⟨List.take_of_length_le (by rw [Hn.out]; exact Nat.le_refl _)⟩
  have HTm : Hid (ms.take m = ms) := ⟨List.take_of_length_le (by rw [Hm.out]; exact Nat.le_refl _)⟩
  have HO0 : Hid (OwnE rc 35 56 (w.alloc (.cells #[] 56)) w.heap.size (.slice (some ⟨w.heap.size, 0, none⟩) 0 0) []) := ⟨OwnE.none rc 35 56 w⟩
  clear h hu
  go_enter Try.func25, Try.ntmps25
  go_wp2_with fail
  go_loopg [6, 7, 8, 9, 10] n (fun gg s6 s7 s8 _ _ wr => ∃ i : Nat, i ≤ n ∧ n - i ≤ gg ∧ s8 = .int .i64 (i : Int) ∧ s7 = .int .i64 ((cnt ms (L.take i) : Nat) : Int) ∧ Hid (OwnE rc 35 56 wr w.heap.size s6 ((L.take i).map (mv ms))) ∧ Hid (Below w.heap.size w wr))
  case atStart => exact ⟨0, Nat.zero_le _, by omega, rfl, rfl, ⟨by simpa using HO0.out⟩, ⟨(Below.refl _ w).alloc (Nat.le_refl _) _⟩⟩
  case round =>
    clear HO0
    obtain ⟨i, hi, hgg, rfl, rfl, HO, HB⟩ := hrel
    rename World => wo
    obtain ⟨a6, c6, e6, _⟩ := (HO.out.rd r0).shape
    subst e6
    obtain ⟨n6, Hn6⟩ : ∃ x, Hid (((L.take i).map (mv ms)).length = x) := ⟨_, ⟨rfl⟩⟩
    have Hn6i : Hid (n6 = i) := ⟨by rw [← Hn6.out]; simp; rw [Hn.out]; omega⟩
    have hcle := cnt_le ms (L.take i)
    rw [List.length_take] at hcle
    rw [Hn6.out] at HO ⊢
    by_cases hlt : i < n
    · have hltz : (i : Int) < (n : Int) := by omega
      have hiL : i < L.length := by rw [Hn.out]; exact hlt
      have hRd : RdR wo (.slice av n cv) L := H.out.below HB.out
      obtain ⟨b, off, cap, e, hc⟩ := hRd.ref hiL
      have hsm := hRd.sum hiL
      rw [Hn.out] at e
      simp at e
      obtain ⟨rfl, rfl⟩ := e
      have HLs := Hid.mk (map_snoc (mv ms) L hiL)
      have HCn := Hid.mk (cnt_snoc ms L hiL)
      have Hmv : Hid (mv ms (L.getD i r0) = match fnd2 ms (spo (L.getD i r0)) with | some t => { L.getD i r0 with b := t.1, o := t.2 } | none => L.getD i r0) := ⟨rfl⟩
      generalize L.getD i r0 = r at hc hsm HLs HCn Hmv
      obtain ⟨PR, HPR⟩ : ∃ PR, Hid ((L.take i).map (mv ms) = PR) := ⟨_, ⟨rfl⟩⟩
      rw [HPR.out] at HO HLs Hn6
      obtain ⟨C, HC⟩ : ∃ C, Hid (cnt ms (L.take i) = C) := ⟨_, ⟨rfl⟩⟩
      rw [HC.out] at HCn hcle ⊢
      have Hc := Hid.mk hc
      have Hi : Hid ((Try.prog.info? 56).map (·.size) = some (rc r).length) := ⟨by rw [rc_len r hsm]; exact info28⟩
      have Hsm := Hid.mk hsm
      clear hc hsm hRd
      go_upto_region 7 with (first
        | (refine wp_loadA rfl 56 (.tmp 20) rfl b (off + i * 35) rfl (rc r) _ Hc.out Try.underlying56 rfl Hi.out ?_)
        | (refine wp_storeR rfl (.tmp 9) (.tmp 21) rfl wo.heap.size r Hsm.out rfl rfl _ (heap_alloc_new wo _) rfl ?_; intro w3 hA3 hG3; have HA3 := Hid.mk hA3; have HB3 : Hid (Below wo.heap.size wo w3) := ⟨((Chg.ofBelow (X := []) ((Below.refl _ wo).alloc (Nat.le_refl _) _)).thenNew hG3 (by simp)).below (Nat.le_refl _) (by simp)⟩; clear hA3 hG3))
      obtain ⟨q, Hq⟩ : ∃ q, Hid (wo.heap.size = q) := ⟨_, ⟨rfl⟩⟩
      have HO3 : Hid (OwnE rc 35 56 w3 w.heap.size (.slice a6 n6 c6) PR) := ⟨HO.out.far (Chg.ofBelow (X := []) HB3.out) (by simp)⟩
      have HqO : Hid (q ∉ ob (.slice a6 n6 c6)) := ⟨fun hm => by have := (HO.out.lt q hm).2; have := Hq.out; omega⟩
      have HB30 : Hid (Below w.heap.size w w3) := ⟨HB.out.trans (HB3.out.mono HB.out.size)⟩
      have Hqw : Hid (w.heap.size ≤ q) := ⟨by rw [← Hq.out]; exact HB.out.size⟩
      rw [Hq.out] at HA3 ⊢
      clear Hc HO HB HB3
      go_wp2_with fail
      go_loopg [7, 10] m (fun gg2 s7 s10 wr => ∃ k : Nat, k ≤ m ∧ m - k ≤ gg2 ∧ s7 = .int .i64 (C : Int) ∧ s10 = .int .i64 (k : Int) ∧ Hid (fnd2 (ms.take k) (spo r) = none) ∧ Hid (RefAt wr q r) ∧ Hid (OwnE rc 35 56 wr w.heap.size (.slice a6 n6 c6) PR) ∧ Hid (Below w.heap.size w wr))
      case atStart => exact ⟨0, Nat.zero_le _, by omega, rfl, rfl, ⟨rfl⟩, HA3, HO3, HB30⟩
      case round =>
        clear HA3 HO3 HB30
        obtain ⟨k, hk, hgg2, rfl, rfl, HF, HR, HOr, HBr⟩ := hrel
        by_cases hkm : k < m
        · have hkmz : (k : Int) < (m : Int) := by omega
          have hkL : k < ms.length := by rw [Hm.out]; exact hkm
          obtain ⟨g, og, cg, eg, hcg⟩ := (HU.out.far (Chg.ofBelow (X := []) HBr.out) (by simp)).at' k hkL
          rw [Hm.out] at eg
          simp at eg
          obtain ⟨rfl, rfl⟩ := eg
          have HFn := Hid.mk (fnd2_take hkL HF.out)
          generalize ms.getD k m0 = mm at hcg HFn
          obtain ⟨⟨fb, fs⟩, ⟨tb, ts⟩⟩ := mm
          have c0 := hcg 0 (by decide)
          have c1 := hcg 1 (by decide)
          have c2 := hcg 2 (by decide)
          have c3 := hcg 3 (by decide)
          simp [mc] at c0 c1 c2 c3
          have hn3 := rc_num r Hsm.out
          have d33 := (HR.out.cell 33).trans hn3.2.1
          have d34 := (HR.out.cell 34).trans hn3.2.2
          have Hsp : Hid (spo r = (r.b, r.o)) := ⟨rfl⟩
          clear hcg hn3
          by_cases hyes : fb = r.b ∧ fs = r.o
          · have Hfm : Hid (fnd2 ms (spo r) = some (tb, ts)) := ⟨fnd2_pre (k := k + 1) (by rw [HFn.out, if_pos (by rw [Hsp.out, hyes.1, hyes.2])])⟩
            have f33 : wr.frozen? ⟨q, 33, none⟩ = false := frozen_of_row wr q _ _ 56 HR.out.row
            have f34 : wr.frozen? ⟨q, 34, none⟩ = false := frozen_of_row wr q _ _ 56 HR.out.row
            have HCh : Hid (Chg [q] wr ((wr.setCell ⟨q, 33, none⟩ (.int .i64 tb)).setCell ⟨q, 34, none⟩ (.int .i64 ts))) := ⟨((Chg.refl [q] wr).setCell (.inl (by simp)) _).setCell (.inl (by simp)) _⟩
            have Hgq : Hid (g ≠ q) := ⟨fun e => by
              have h1 : g < w.heap.size := by
                have := (HU.out).at' k hkL
                obtain ⟨gg', oo, cc, ee, hh⟩ := this
                rw [Hm.out] at ee
                simp at ee
                have h5 := hh 0 (by decide)
                rw [List.getElem?_eq_getElem (by simp [mc])] at h5
                rw [ee.1.1]
                exact World.block_lt_of_cell? _ _ h5
              have := Hqw.out
              omega⟩
            obtain ⟨rfl, rfl⟩ := hyes
            go_upto_region 10 with fail
            go_quiet (fail)
            have c2' : (wr.drewN nq).cell? ⟨g, og + k * 4 + 2, none⟩ = some (.int .i64 tb) := c2
            have c3' : (wr.drewN nq).cell? ⟨g, og + k * 4 + 3, none⟩ = some (.int .i64 ts) := c3
            go_upto_region 12 with fail
            have HRq : Hid (RefAt (wr.drewN nq) q r) := ⟨HR.out.far (Chg.ofBelow (X := []) (below_drewN (Below.refl _ wr) nq)) (by simp)⟩
            obtain ⟨W1, HW1⟩ : ∃ V, Hid ((wr.drewN nq).setCell ⟨q, 33, none⟩ (.int .i64 tb) = V) := ⟨_, ⟨rfl⟩⟩
            have HCq : Hid (Chg [q] wr (wr.drewN nq)) := ⟨(Chg.ofBelow (below_drewN (Below.refl _ wr) nq))⟩
            have HC1 : Hid (Chg [q] (wr.drewN nq) W1) := ⟨by rw [← HW1.out]; exact (Chg.refl [q] _).setCell (.inl (by simp)) _⟩
            have hgl : g < (wr.drewN nq).heap.size := World.block_lt_of_cell? _ _ c3'
            have e3 : W1.cell? ⟨g, og + k * 4 + 3, none⟩ = some (.int .i64 ts) := (HC1.out.cell (a := ⟨g, og + k * 4 + 3, none⟩) hgl (by simpa using Hgq.out)).trans c3'
            have HRow1 : Hid (W1.heap[q]? = some (.cells ((rc r).toArray.setIfInBounds 33 (.int .i64 tb)) 56 (0, 0))) := ⟨by rw [← HW1.out]; exact heap_setCell_same _ q 33 _ 56 (.int .i64 tb) HRq.out.row⟩
            have e34 : W1.cell? ⟨q, 34, none⟩ = some (.int .i64 r.o) := by
              rw [cell_of_row _ _ _ _ _ _ HRow1.out]
              have := (rc_num r Hsm.out).2.2
              simpa [Array.getElem?_setIfInBounds] using this
            have g34 : W1.frozen? ⟨q, 34, none⟩ = false := frozen_of_row W1 q _ _ 56 HRow1.out
            rw [HW1.out]
            clear c0 c1 c2 c3 c2' c3' d33 d34 f33 f34 HCh
            go_upto_region 13 with fail
            obtain ⟨wz, Hwz⟩ : ∃ V, Hid (W1.setCell ⟨q, 34, none⟩ (.int .i64 ts) = V) := ⟨_, ⟨rfl⟩⟩
            have HC2 : Hid (Chg [q] wr wz) := ⟨by rw [← Hwz.out]; exact (HCq.out.trans HC1.out).setCell (.inl (by simp)) _⟩
            have HRz : Hid (RefAt wz q { r with b := tb, o := ts }) := ⟨by rw [← Hwz.out, ← HW1.out]; exact HRq.out.moved tb ts⟩
            have HOz : Hid (OwnE rc 35 56 wz w.heap.size (.slice a6 n6 c6) PR) := ⟨HOr.out.far HC2.out (fun x hx hm => by simp at hm; subst hm; exact HqO.out hx)⟩
            have HBz : Hid (Below w.heap.size w wz) := ⟨HBr.out.trans (HC2.out.below HBr.out.size (by have := Hqw.out; simpa using this))⟩
            rw [Hfm.out] at HCn Hmv
            simp only [Option.isSome_some, if_true] at HCn
            simp only at Hmv
            rw [Hmv.out] at HLs
            rw [Hwz.out]
            clear HRow1 e34 g34 e3 HR HOr HBr
            have HcR : Hid (∀ j v, (rc { r with b := tb, o := ts })[j]? = some v → wz.cell? ⟨q, 0 + j, none⟩ = some v) := ⟨fun j v hv => by rw [Nat.zero_add, HRz.out.cell j]; exact hv⟩
            have Hiz : Hid ((Try.prog.info? 56).map (·.size) = some (rc { r with b := tb, o := ts }).length) := ⟨by rw [rc_len _ HRz.out.sm]; exact info28⟩
            have Hszz : Hid ((rc { r with b := tb, o := ts }).toArray.size = 35) := ⟨by rw [List.size_toArray]; exact rc_len _ HRz.out.sm⟩
            obtain ⟨V, HV⟩ : ∃ V, Hid (wz.alloc (.cells (rc { r with b := tb, o := ts }).toArray 56) = V) := ⟨_, ⟨rfl⟩⟩
            have HBV : Hid (Below wz.heap.size wz V) := ⟨by rw [← HV.out]; exact (Below.refl _ wz).alloc (Nat.le_refl _) _⟩
            have HRV : Hid (RdE rc 35 r0 V (.slice (some ⟨wz.heap.size, 0, none⟩) 1 1) [{ r with b := tb, o := ts }]) := ⟨by rw [← HV.out]; exact rde_one wz ({ r with b := tb, o := ts } : Rf) (rc_len _ HRz.out.sm) (rc_one' _) 56⟩
            have HOV : Hid (OwnE rc 35 56 V w.heap.size (.slice a6 n6 c6) PR) := ⟨HOz.out.far (Chg.ofBelow (X := []) HBV.out) (by simp)⟩
            have HB5 : Hid (Below w.heap.size w V) := ⟨HBz.out.trans (HBV.out.mono HBz.out.size)⟩
            have hl1 : (PR.length + [{ r with b := tb, o := ts }].length) * 56 ≤ 140737488355328 := by rw [Hn6.out, Hn6i.out]; simp; omega
            have hl2 : PR.length + [{ r with b := tb, o := ts }].length ≤ maxLen := by rw [Hn6.out, Hn6i.out]; unfold maxLen; simp; omega
            have hl3 : w.heap.size ≤ V.heap.size := HB5.out.size
            go_wp2_with (first
              | (refine wp_loadA rfl 56 (.tmp 9) rfl q 0 rfl (rc { r with b := tb, o := ts }) _ HcR.out Try.underlying56 rfl Hiz.out ?_)
              | (refine wp_sliceE eltR rfl (.tmp 65) rfl (rc { r with b := tb, o := ts }).toArray rfl Hszz.out (by decide) ?_; rw [HV.out])
              | (refine wp_appE (f := rc) (d := r0) eltR rfl (.tmp 64) (.tmp 66) rfl rfl HOV.out rfl HRV.out hl1 hl2 hl3 ?_; intro v7 w7 hO7 hG7 hV7))
            have HG7 : Hid (Chg (ob (.slice a6 n6 c6)) V w7) := ⟨hG7⟩
            have HB7 : Hid (Below w.heap.size w w7) := ⟨HB5.out.trans (HG7.out.below HB5.out.size (fun x hx => (HOV.out.lt x hx).1))⟩
            go_roundg (n - (i + 1))
            case measure => omega
            case rel => exact ⟨i + 1, by omega, by omega, by go_num, by rw [HCn.out]; go_num, ⟨by rw [HLs.out]; exact hO7⟩, HB7⟩
          · have HFz : Hid (fnd2 (ms.take (k + 1)) (spo r) = none) := ⟨by rw [HFn.out, if_neg (by rw [Hsp.out]; intro e; cases e; exact hyes ⟨rfl, rfl⟩)]⟩
            by_cases hb : fb = r.b
            · have hs : ¬ fs = r.o := fun e => hyes ⟨hb, e⟩
              subst hb
              have hs' : ¬ r.o = fs := fun e => hs e.symm
              go_upto_region 10 with fail
              go_quiet (fail)
              go_wp2_with fail
              go_roundg (m - (k + 1))
              case measure => omega
              case rel => exact ⟨k + 1, by omega, by omega, rfl, by go_num, HFz, ⟨HR.out.far (Chg.ofBelow (X := []) (below_drewN (Below.refl _ wr) nq)) (by simp)⟩, ⟨HOr.out.far (Chg.ofBelow (X := []) (below_drewN (Below.refl _ wr) nq)) (by simp)⟩, ⟨below_drewN HBr.out nq⟩⟩
            · have hb' : ¬ r.b = fb := fun e => hb e.symm
              go_upto_region 10 with fail
              go_quiet (fail)
              go_wp2_with fail
              go_roundg (m - (k + 1))
              case measure => omega
              case rel => exact ⟨k + 1, by omega, by omega, rfl, by go_num, HFz, ⟨HR.out.far (Chg.ofBelow (X := []) (below_drewN (Below.refl _ wr) nq)) (by simp)⟩, ⟨HOr.out.far (Chg.ofBelow (X := []) (below_drewN (Below.refl _ wr) nq)) (by simp)⟩, ⟨below_drewN HBr.out nq⟩⟩
        · obtain rfl : m = k := by omega
          rw [HTm.out] at HF
          rw [HF.out] at HCn Hmv
          simp only [Option.isSome_none, Bool.false_eq_true, if_false, Nat.add_zero] at HCn
          simp only at Hmv
          obtain ⟨wz, Hwz⟩ : ∃ wz, Hid (wr = wz) := ⟨_, ⟨rfl⟩⟩
          rw [Hwz.out] at HR HOr HBr ⊢
          have HRz := HR
          have HOz := HOr
          have HBz := HBr
          clear HR HOr HBr
          rw [Hmv.out] at HLs
          have HcR : Hid (∀ j v, (rc r)[j]? = some v → wz.cell? ⟨q, 0 + j, none⟩ = some v) := ⟨fun j v hv => by rw [Nat.zero_add, HRz.out.cell j]; exact hv⟩
          have Hiz : Hid ((Try.prog.info? 56).map (·.size) = some (rc r).length) := ⟨by rw [rc_len _ HRz.out.sm]; exact info28⟩
          have Hszz : Hid ((rc r).toArray.size = 35) := ⟨by rw [List.size_toArray]; exact rc_len _ HRz.out.sm⟩
          obtain ⟨V, HV⟩ : ∃ V, Hid (wz.alloc (.cells (rc r).toArray 56) = V) := ⟨_, ⟨rfl⟩⟩
          have HBV : Hid (Below wz.heap.size wz V) := ⟨by rw [← HV.out]; exact (Below.refl _ wz).alloc (Nat.le_refl _) _⟩
          have HRV : Hid (RdE rc 35 r0 V (.slice (some ⟨wz.heap.size, 0, none⟩) 1 1) [r]) := ⟨by rw [← HV.out]; exact rde_one wz (r : Rf) (rc_len _ HRz.out.sm) (rc_one' _) 56⟩
          have HOV : Hid (OwnE rc 35 56 V w.heap.size (.slice a6 n6 c6) PR) := ⟨HOz.out.far (Chg.ofBelow (X := []) HBV.out) (by simp)⟩
          have HB5 : Hid (Below w.heap.size w V) := ⟨HBz.out.trans (HBV.out.mono HBz.out.size)⟩
          have hl1 : (PR.length + [r].length) * 56 ≤ 140737488355328 := by rw [Hn6.out, Hn6i.out]; simp; omega
          have hl2 : PR.length + [r].length ≤ maxLen := by rw [Hn6.out, Hn6i.out]; unfold maxLen; simp; omega
          have hl3 : w.heap.size ≤ V.heap.size := HB5.out.size
          go_wp2_with (first
            | (refine wp_loadA rfl 56 (.tmp 9) rfl q 0 rfl (rc r) _ HcR.out Try.underlying56 rfl Hiz.out ?_)
            | (refine wp_sliceE eltR rfl (.tmp 65) rfl (rc r).toArray rfl Hszz.out (by decide) ?_; rw [HV.out])
            | (refine wp_appE (f := rc) (d := r0) eltR rfl (.tmp 64) (.tmp 66) rfl rfl HOV.out rfl HRV.out hl1 hl2 hl3 ?_; intro v7 w7 hO7 hG7 hV7))
          have HG7 : Hid (Chg (ob (.slice a6 n6 c6)) V w7) := ⟨hG7⟩
          have HB7 : Hid (Below w.heap.size w w7) := ⟨HB5.out.trans (HG7.out.below HB5.out.size (fun x hx => (HOV.out.lt x hx).1))⟩
          go_roundg (n - (i + 1))
          case measure => omega
          case rel => exact ⟨i + 1, by omega, by omega, by go_num, by rw [HCn.out], ⟨by rw [HLs.out]; exact hO7⟩, HB7⟩
    · obtain rfl : n = i := by omega
      rw [HTe.out] at HO ⊢
      go_wp2_with fail
      go_ret2
      exact ⟨_, rfl, HO.out, HB.out⟩
end
end Go.Proofs.Ytkkcdmdkjedkjaa
