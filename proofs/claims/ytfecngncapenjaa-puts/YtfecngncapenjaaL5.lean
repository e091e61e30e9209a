/- The document's Lengths. -/
import Derived.Test.YtfecngncapenjaaL4
namespace Go.Proofs.Ytfecngncapenjaa
open Go.RowKit Oct

section
variable {w : World}
set_option maxHeartbeats 16000000 in
set_option maxRecDepth 100000 in
theorem lengths10 (f : List Int) (hf : f.length = 256) : Calls Try.prog 10 #[.agg (ia f)] w fun e w' => ∃ g, ∃ z : Int, e = .returned (.tuple #[.agg (ia g), .int .i64 z]) ∧ (f.any bad = true → g = z0 ∧ z = 2) ∧ (f.any bad = false → z = 0 ∧ LenS f g) ∧ Below w.heap.size w w' := by
  have HF := Hid.mk hf
  obtain ⟨bb, Hbb⟩ : ∃ b, Hid (f.any bad = b) := ⟨_, ⟨rfl⟩⟩
  rw [Hbb.out]
  obtain ⟨q, Hq⟩ : ∃ q, Hid (w.heap.size = q) := ⟨_, ⟨rfl⟩⟩
  obtain ⟨w1, Hw1, HX1, HB1, HS1⟩ := bx22 w f
  rw [Hq.out] at HX1 HS1 HB1
  obtain ⟨w2, Hw2⟩ : ∃ x, Hid (w1.alloc (.cells (ia z0) 22) = x) := ⟨_, ⟨rfl⟩⟩
  have HB2 : Hid (Below q w w2) := ⟨by rw [← Hw2.out]; exact HB1.out.alloc (by rw [HS1.out]; omega) _⟩
  have HX2 : Hid (w2.heap[q]? = some (.cells (ia f) 22 (0, 0))) := ⟨by rw [← Hw2.out]; rw [heap_alloc_old (h := by rw [HS1.out]; omega)]; exact HX1.out⟩
  have HY2 : Hid (w2.heap[q + 1]? = some (.cells (ia z0) 22 (0, 0))) := ⟨by rw [← Hw2.out, ← HS1.out]; exact heap_alloc_new w1 _⟩
  have HS2 : Hid (w2.heap.size = q + 2) := ⟨by rw [← Hw2.out]; have : (w1.alloc (.cells (ia z0) 22)).heap.size = w1.heap.size + 1 := Array.size_push _; rw [this, HS1.out]⟩
  obtain ⟨w3, Hw3, HZ3, HB3⟩ := al22 w2 z0
  have HS3 : Hid (w3.heap.size = q + 3) := ⟨by rw [← Hw3.out, setRow_size]; have : (w2.alloc (.cells (ia z0) 22)).heap.size = w2.heap.size + 1 := Array.size_push _; rw [this, HS2.out]⟩
  rw [HS2.out] at Hw3 HZ3
  have HX3 := Hid.mk (below_at HB3.out HX2.out)
  have HY3 := Hid.mk (below_at HB3.out HY2.out)
  have HBq3 : Hid (Below q w w3) := ⟨HB2.out.trans (HB3.out.mono (by rw [HS2.out]; omega))⟩
  obtain ⟨w4, Hw4⟩ : ∃ x, Hid (w3.alloc (.cells #[] 54) = x) := ⟨_, ⟨rfl⟩⟩
  have HB34 : Hid (Below w3.heap.size w3 w4) := ⟨by rw [← Hw4.out]; exact (Below.refl _ w3).alloc (Nat.le_refl _) _⟩
  have HX4 := Hid.mk (below_at HB34.out HX3.out)
  have HY4 := Hid.mk (below_at HB34.out HY3.out)
  have HZ4 := Hid.mk (below_at HB34.out HZ3.out)
  have HB4 : Hid (Below q w w4) := ⟨HBq3.out.trans (HB34.out.mono (by rw [HS3.out]; omega))⟩
  have HO4 : Hid (OwnE fe 257 54 w4 (q + 3) (.slice (some ⟨q + 3, 0, none⟩) 0 0) (TR f 0)) := ⟨by rw [← Hw4.out, ← HS3.out]; exact OwnE.none fe 257 54 w3⟩
  obtain ⟨A, HA⟩ : ∃ A, Hid (ia f = A) := ⟨_, ⟨rfl⟩⟩
  rw [HA.out] at Hw1
  rw [HA.out]
  clear hf HX1 HB1 HX2 HY2 HX3 HY3 HZ3 HBq3 HB34 HB3 HB2
  go_enter Try.func10, Try.ntmps10
  go_upto_region 2 with (first | (refine wp_box rfl 22 (.tmp 0) rfl A rfl ?_; rw [Hw1.out]) | (refine wp_new22 rfl rfl ?_; (first | rw [Hw2.out] | rw [HS2.out])) | (refine wp_zero22 rfl rfl ?_) | (refine wp_put22 (f := z0) (g := z0) rfl (.tmp 4) (.tmp 14) rfl rfl rfl z0_len z0_len (by rw [← HS2.out]; exact heap_alloc_new w2 _) ?_; rw [Hw3.out]))
  go_upto_region 4 with fail
  rw [HS1.out, Hq.out]
  rw [HS3.out, Hw4.out]
  go_loopg [5, 6, 7] 256 (fun gg s5 s6 _s7 wr => ∃ (k : Nat) (sl : Value), k ≤ 256 ∧ 256 - k ≤ gg ∧ s6 = .int .i64 (k : Int) ∧ sl = s5 ∧ Hid (∀ j, j < k → bad (f.getD j 0) = false) ∧ Hid (OwnE fe 257 54 wr (q + 3) sl (TR f k)) ∧ Hid (Below q w wr) ∧ Hid (wr.heap[q]? = some (.cells (ia f) 22 (0, 0))) ∧ Hid (wr.heap[q + 1]? = some (.cells (ia z0) 22 (0, 0))) ∧ Hid (wr.heap[q + 2]? = some (.cells (ia z0) 22 (0, 0))) ∧ Hid (q + 3 ≤ wr.heap.size))
  case atStart => exact ⟨0, _, Nat.zero_le _, by omega, rfl, rfl, ⟨fun j hj => by omega⟩, HO4, HB4, HX4, HY4, HZ4, ⟨by rw [← Hw4.out]; have : (w3.alloc (.cells #[] 54)).heap.size = w3.heap.size + 1 := Array.size_push _; rw [this, HS3.out]; omega⟩⟩
  case round =>
    clear HO4 HB4 HX4 HY4 HZ4 Hw4 Hw3 HS3
    obtain ⟨k, sl, hk, hgg, rfl, rfl, HN, HO, HB, HX, HY, HZ, HS⟩ := hrel
    rename World => wo
    by_cases hlt : k < 256
    · have hltz : (k : Int) < 256 := by omega
      obtain ⟨x, Hx⟩ : ∃ x, Hid (f.getD k 0 = x) := ⟨_, ⟨rfl⟩⟩
      have d1 : wo.cell? ⟨q, k, none⟩ = some (.int .i64 x) := by rw [cell_of_row _ _ _ _ _ _ HX.out, ← Hx.out]; exact ia_get (by rw [HF.out]; exact hlt)
      have HBad : Hid (bad x = true → f.any bad = true) := ⟨fun h => List.any_eq_true.2 ⟨f.getD k 0, by
        simp only [List.getD, List.getElem?_eq_getElem (show k < f.length by rw [HF.out]; exact hlt), Option.getD_some]; exact List.getElem_mem _, by rw [Hx.out]; exact h⟩⟩
      by_cases hx1 : x < 0
      · have HR : Hid (bb = true) := ⟨Hbb.out.symm.trans (HBad.out (by unfold bad; exact decide_eq_true (.inl hx1)))⟩
        go_wp2_with (first | (refine wp_zero22 rfl rfl ?_) | (refine wp_put22 (f := z0) (g := z0) rfl (.tmp 2) (.tmp 30) rfl rfl rfl z0_len z0_len HY.out ?_))
        (try simp only [Exit.inBlock, Exit.then])
        refine bodyPost_ret (results_ct rfl _ _ rfl (load22 z0_len (setRow_heap wo (q + 1) (ia z0) _ 22 (0, 0) HY.out))) rfl ?_
        exact ⟨z0, 2, rfl, fun _ => ⟨rfl, rfl⟩, fun h => absurd (HR.out.symm.trans h) (by decide), by rw [Hq.out]; exact below_setRow HB.out (by omega) _⟩
      · by_cases hx2 : 8192 < x
        · have HR : Hid (bb = true) := ⟨Hbb.out.symm.trans (HBad.out (by unfold bad; exact decide_eq_true (.inr hx2)))⟩
          go_wp2_with (first | (refine wp_zero22 rfl rfl ?_) | (refine wp_put22 (f := z0) (g := z0) rfl (.tmp 2) (.tmp 30) rfl rfl rfl z0_len z0_len HY.out ?_))
          (try simp only [Exit.inBlock, Exit.then])
          refine bodyPost_ret (results_ct rfl _ _ rfl (load22 z0_len (setRow_heap wo (q + 1) (ia z0) _ 22 (0, 0) HY.out))) rfl ?_
          exact ⟨z0, 2, rfl, fun _ => ⟨rfl, rfl⟩, fun h => absurd (HR.out.symm.trans h) (by decide), by rw [Hq.out]; exact below_setRow HB.out (by omega) _⟩
        · have HNn : Hid (∀ j, j < k + 1 → bad (f.getD j 0) = false) := ⟨fun j hj => by
            by_cases e : j = k
            · rw [e, Hx.out]; unfold bad; exact decide_eq_false (by omega)
            · exact HN.out j (by omega)⟩
          by_cases hx0 : 0 < x
          · obtain ⟨z, Hz⟩ : ∃ x, Hid (wo.heap.size = x) := ⟨_, ⟨rfl⟩⟩
            obtain ⟨w5, Hw5, HT5, HB5, HS5⟩ := al54 wo (x, n0)
            rw [Hz.out] at Hw5 HT5 HS5
            have hqz : q + 3 ≤ z := by rw [← Hz.out]; exact HS.out
            have HO5 : Hid (OwnE fe 257 54 w5 (q + 3) sl (TR f k)) := ⟨HO.out.far (Chg.ofBelow (X := []) HB5.out) (by simp)⟩
            have HBq5 : Hid (Below q w w5) := ⟨HB.out.trans (HB5.out.mono (by rw [Hz.out]; omega))⟩
            have HX5 := Hid.mk (below_at HB5.out HX.out)
            have HY5 := Hid.mk (below_at HB5.out HY.out)
            have HZ5 := Hid.mk (below_at HB5.out HZ.out)
            have Hzl : Hid (∀ y ∈ ob sl, y < z) := ⟨fun y hy => by rw [← Hz.out]; exact (HO.out.lt y hy).2⟩
            go_upto_region 10 with (first | (refine wp_mk54 (n := x) rfl (.tmp 37) rfl rfl ?_) | (refine wp_new54 rfl rfl ?_; rw [Hz.out]) | (refine wp_put54 (s := r0) (t := (x, n0)) rfl (.tmp 7) (.tmp 38) rfl rfl rfl r0_len n0_len (by rw [← Hz.out]; exact heap_alloc_new wo _) ?_; rw [Hw5.out]))
            have d2 : w5.cell? ⟨z, 1 + k, none⟩ = some (.bool false) := by rw [cell_of_row _ _ _ _ _ _ HT5.out]; have := ra_has (s := (x, n0)) (i := k) (by rw [n0_len]; exact hlt); rw [this]; exact congrArg (fun b => some (Value.bool b)) (n0_get k)
            have d3 : w5.frozen? ⟨z, 1 + k, none⟩ = false := frozen_of_row _ _ _ _ _ HT5.out
            obtain ⟨w6, Hw6⟩ : ∃ y, Hid (w5.setCell ⟨z, 1 + k, none⟩ (.bool true) = y) := ⟨_, ⟨rfl⟩⟩
            have HC6 : Hid (Chg [z] w5 w6) := ⟨by rw [← Hw6.out]; exact (Chg.refl [z] w5).setCell (.inl (by simp)) _⟩
            have HT6 : Hid (w6.heap[z]? = some (.cells (ra (oneR x k)) 54 (0, 0))) := ⟨by
              rw [← Hw6.out, heap_setCell_same _ _ _ _ _ _ HT5.out]
              exact congrArg (fun a => some (Obj.cells a 54 (0, 0))) (ra_set x n0 k true)⟩
            have HO6 : Hid (OwnE fe 257 54 w6 (q + 3) sl (TR f k)) := ⟨HO5.out.far HC6.out (fun y hy hm => by simp at hm; have := Hzl.out y hy; omega)⟩
            have HBq6 : Hid (Below q w w6) := ⟨HBq5.out.trans (HC6.out.below (by have := HS5.out; omega) (fun y hy => by simp at hy; omega))⟩
            have HX6 : Hid (w6.heap[q]? = some (.cells (ia f) 22 (0, 0))) := ⟨(HC6.out.block q (by have := HS5.out; omega) (by simp; omega)).trans HX5.out⟩
            have HY6 : Hid (w6.heap[q + 1]? = some (.cells (ia z0) 22 (0, 0))) := ⟨(HC6.out.block (q + 1) (by have := HS5.out; omega) (by simp; omega)).trans HY5.out⟩
            have HZ6 : Hid (w6.heap[q + 2]? = some (.cells (ia z0) 22 (0, 0))) := ⟨(HC6.out.block (q + 2) (by have := HS5.out; omega) (by simp; omega)).trans HZ5.out⟩
            have HS6 : Hid (q + 3 ≤ w6.heap.size) := ⟨by have := HC6.out.size; have := HS5.out; omega⟩
            clear HO5 HBq5 HX5 HY5 HZ5 HB5 d1
            go_upto_region 11 with fail
            rw [Hw6.out]
            clear d2 d3
            obtain ⟨w7, Hw7⟩ : ∃ y, Hid (w6.alloc (.cells (ra (oneR x k)) 54) = y) := ⟨_, ⟨rfl⟩⟩
            obtain ⟨u, Hu⟩ : ∃ x, Hid (w6.heap.size = x) := ⟨_, ⟨rfl⟩⟩
            have HB67 : Hid (Below w6.heap.size w6 w7) := ⟨by rw [← Hw7.out]; exact (Below.refl _ w6).alloc (Nat.le_refl _) _⟩
            have HR7 : Hid (RdE fe 257 r0 w7 (.slice (some ⟨u, 0, none⟩) 1 1) [oneR x k]) := ⟨by rw [← Hw7.out, ← Hu.out]; exact rde_one w6 (oneR x k) (fe_len (oneR_len x k)) (fe_one _) 54⟩
            have HO7 : Hid (OwnE fe 257 54 w7 (q + 3) sl (TR f k)) := ⟨HO6.out.far (Chg.ofBelow (X := []) HB67.out) (by simp)⟩
            have hl1 := TR_len f k
            go_wp2_with (first | (refine wp_load rfl 54 (.tmp 7) rfl z rfl (ra (oneR x k)) 54 (0, 0) _ HT6.out Try.underlying54 rfl (info54f (oneR_len x k)) ?_) | (refine wp_sliceE eltR rfl (.tmp 43) rfl (ra (oneR x k)) rfl (ra_size (oneR_len x k)) (by decide) ?_; rw [Hw7.out, Hu.out]) | (at_builtin; refine wp_appE (f := fe) (d := r0) (L := TR f k) (M := [oneR x k]) eltR rfl (.tmp 42) (.tmp 44) rfl rfl HO7.out rfl HR7.out (by simp only [List.length_cons, List.length_nil]; omega) (by simp only [List.length_cons, List.length_nil]; unfold maxLen; omega) (Nat.le_trans HS6.out HB67.out.size) ?_; intro v8 w8 hO8 hC8 hV8))
            have HB8 : Hid (Below (q + 3) w7 w8) := ⟨hC8.below (Nat.le_trans HS6.out HB67.out.size) (fun y hy => (HO7.out.lt y hy).1)⟩
            have HBq7 : Hid (Below q w w7) := ⟨HBq6.out.trans (HB67.out.mono (by have := HS6.out; omega))⟩
            go_roundg (256 - (k + 1))
            case measure => omega
            case rel =>
              refine ⟨k + 1, v8, by omega, by omega, by go_num, rfl, HNn, ⟨?_⟩, ⟨HBq7.out.trans (HB8.out.mono (by omega))⟩, ⟨?_⟩, ⟨?_⟩, ⟨?_⟩, ⟨Nat.le_trans (Nat.le_trans HS6.out HB67.out.size) HB8.out.size⟩⟩
              · rw [TR, Hx.out, if_pos hx0]; exact hO8
              · exact (HB8.out.block q (by omega)).trans (below_at HB67.out HX6.out)
              · exact (HB8.out.block (q + 1) (by omega)).trans (below_at HB67.out HY6.out)
              · exact (HB8.out.block (q + 2) (by omega)).trans (below_at HB67.out HZ6.out)
          · have HT : Hid (TR f (k + 1) = TR f k) := ⟨by rw [TR, Hx.out, if_neg hx0, List.append_nil]⟩
            go_wp2_with fail
            go_roundg (256 - (k + 1))
            case measure => omega
            case rel => exact ⟨k + 1, sl, by omega, by omega, by go_num, rfl, HNn, ⟨by rw [HT.out]; exact HO.out⟩, HB, HX, HY, HZ, HS⟩
    · obtain rfl : k = 256 := by omega
      have HOk : Hid (bb = false) := ⟨Hbb.out.symm.trans (badAll_no (fun i hi => HN.out i (by rw [← HF.out]; exact hi)))⟩
      clear HN
      obtain ⟨L, HL⟩ : ∃ L, Hid (TR f 256 = L) := ⟨_, ⟨rfl⟩⟩
      rw [HL.out] at HO
      obtain ⟨n, Hn⟩ : ∃ n, Hid (L.length = n) := ⟨_, ⟨rfl⟩⟩
      have hn256 : n ≤ 256 := by rw [← Hn.out, ← HL.out]; exact TR_len f 256
      have H0 : Hid (FineA (T0 f 256)) := ⟨T0_fine HF.out (Hbb.out.trans HOk.out)⟩
      have HT256 : Hid ((T0 f 256).length ≤ 256) := ⟨by rw [← (TR_al f 256 (Nat.le_refl _)).len]; exact TR_len f 256⟩
      clear hk hlt hgg
      by_cases hn1 : n = 1
      · subst hn1
        obtain ⟨gb, c, e, hnc, hcm⟩ := own_parts HO.out (by rw [Hn.out]; decide)
        rw [Hn.out] at e hnc
        subst e
        obtain ⟨s, hs⟩ := List.length_eq_one_iff.1 Hn.out
        have HLs : Hid (TR f 256 = [s]) := ⟨by rw [HL.out, hs]⟩
        have HLen : Hid (LenS f (z0.set (fst s) 1)) := ⟨TR_only H0.out HLs.out⟩
        obtain ⟨m, Hm⟩ : ∃ m : Nat, Hid (fst s = m) := ⟨_, ⟨rfl⟩⟩
        have hm : m < 256 := by rw [← Hm.out]; exact (TR_one H0.out HLs.out).1
        have hmz : (m : Int) < 256 := by omega
        have HSl : Hid (s.2.length = 256) := ⟨(TR_one H0.out HLs.out).2⟩
        have Hld : Hid ((Instr.loadAt 54 (.pointer (some ⟨gb, 0, none⟩))).run Try.prog wo = .ok (.agg (ra s)) wo) := ⟨by
          have := load54 HO.out (i := 0) (by rw [Hn.out]; decide)
          rw [hs] at this
          simpa using this⟩
        have t1 := first26 (w := wo) s HSl.out
        rw [Hm.out] at t1 HLen
        have hcx : (1 : Int) ≤ (c : Int) := by omega
        have hcm2 : c ≤ 9223372036854775807 := hcm
        clear hs
        go_wp2_with (first | (refine wp_load54 (s := s) rfl (.tmp 50) rfl rfl Hld.out ?_) | (go_at_call 26; refine t1.mono ?_; rintro e w5 ⟨rfl, hB5⟩; have HB5 := Hid.mk hB5; have HZ5 := Hid.mk (below_at hB5 HZ.out); have HY5 := Hid.mk (below_at hB5 HY.out); have d2 : w5.cell? ⟨q + 2, m, none⟩ = some (.int .i64 (z0.getD m 0)) := (by rw [cell_of_row _ _ _ _ _ _ HZ5.out]; exact ia_get (by rw [z0_len]; exact hm)); have d3 : w5.frozen? ⟨q + 2, m, none⟩ = false := frozen_of_row _ _ _ _ _ HZ5.out; generalize z0.getD m 0 = y at d2; clear t1 hB5))
        obtain ⟨w6, Hw6⟩ : ∃ x, Hid (w5.setCell ⟨q + 2, m, none⟩ (.int .i64 1) = x) := ⟨_, ⟨rfl⟩⟩
        have HC6 : Hid (Chg [q + 2] w5 w6) := ⟨by rw [← Hw6.out]; exact (Chg.refl [q + 2] w5).setCell (.inl (by simp)) _⟩
        have HZ6 : Hid (w6.heap[q + 2]? = some (.cells (ia (z0.set m 1)) 22 (0, 0))) := ⟨by
          rw [← Hw6.out, heap_setCell_same _ _ _ _ _ _ HZ5.out]
          exact congrArg (fun a => some (Obj.cells a 22 (0, 0))) (ia_set z0 m 1 (by rw [z0_len]; exact hm))⟩
        have HY6 : Hid (w6.heap[q + 1]? = some (.cells (ia z0) 22 (0, 0))) := ⟨(HC6.out.block (q + 1) (Array.getElem?_eq_some_iff.1 HY5.out).1 (by simp)).trans HY5.out⟩
        have HB6 : Hid (Below q w w6) := ⟨(HB.out.trans (HB5.out.mono (by have := HS.out; omega))).trans (HC6.out.below (by have := HB5.out.size; have := HS.out; omega) (fun y hy => by simp at hy; omega))⟩
        rw [Hw6.out]
        clear d2 d3
        go_loopg [5, 8, 9, 10, 11, 12, 13] 0 (fun _ s5 _ _ _ _ _ _ wr => s5 = .slice (some ⟨gb, 0, none⟩) 1 c ∧ Hid (w6 = wr))
        case atStart => exact ⟨rfl, ⟨rfl⟩⟩
        case round =>
          rename World => wk
          obtain ⟨rfl, HW⟩ := hrel
          have hw := HW.out
          subst hw
          go_wp2_with (first | (refine wp_load rfl 22 (.tmp 4) rfl (q + 2) rfl (ia (z0.set m 1)) 22 (0, 0) _ HZ6.out Try.underlying22 rfl (info22f (by rw [List.length_set, z0_len])) ?_) | (refine wp_put22 (f := z0) (g := z0.set m 1) rfl (.tmp 2) (.tmp 104) rfl rfl rfl z0_len (by rw [List.length_set, z0_len]) HY6.out ?_))
          (try simp only [Exit.inBlock, Exit.then])
          refine bodyPost_ret (results_ct rfl _ _ rfl (load22 (by rw [List.length_set, z0_len]) (setRow_heap w6 (q + 1) (ia z0) _ 22 (0, 0) HY6.out))) rfl ?_
          exact ⟨_, 0, rfl, fun h => absurd (HOk.out.symm.trans h) (by decide), fun _ => ⟨rfl, HLen.out⟩, by rw [Hq.out]; exact below_setRow HB6.out (by omega) _⟩
      · have HR1 : Hid (StR f L z0) := ⟨by rw [← HL.out]; exact TR_start (by rw [HL.out, Hn.out]; exact hn1)⟩
        obtain ⟨a5, c5, e5, _⟩ := (HO.out.rd r0).shape
        subst e5
        rw [Hn.out] at HO ⊢
        have hn1z : ((n : Int) == 1) = false := by simp; omega
        go_upto_region 14 with fail
        go_loopg [5, 8, 9, 10, 11, 12, 13] 257 (fun gg s5 _s8 _s9 _s10 _s11 _s12 _s13 wr => ∃ sl L g, sl = s5 ∧ L.length ≤ gg ∧ Hid (OwnE fe 257 54 wr (q + 3) sl L) ∧ Hid (StR f L g) ∧ Hid (Below q w wr) ∧ Hid (wr.heap[q + 1]? = some (.cells (ia z0) 22 (0, 0))) ∧ Hid (wr.heap[q + 2]? = some (.cells (ia g) 22 (0, 0))) ∧ Hid (q + 3 ≤ wr.heap.size))
        case atStart => exact ⟨_, L, z0, rfl, by rw [Hn.out]; omega, HO, HR1, HB, HY, HZ, HS⟩
        case round =>
          clear HO HR1 HB HY HZ HS Hn hn1 hn1z HX HL
          obtain ⟨sl, L, g, rfl, hgg, HO, HR, HB, HY, HZ, HS⟩ := hrel
          rename World => wo
          obtain ⟨n, Hn⟩ : ∃ n, Hid (L.length = n) := ⟨_, ⟨rfl⟩⟩
          have hn256 : n ≤ 256 := by rw [← Hn.out]; exact Nat.le_trans HR.out.few HT256.out
          rw [Hn.out] at hgg
          have Hgl : Hid (g.length = 256) := ⟨HR.out.glen⟩
          by_cases h1 : 1 < n
          · have h1z : (1 : Int) < (n : Int) := by omega
            obtain ⟨gb, c, e, hnc, hcm⟩ := own_parts HO.out (by rw [Hn.out]; omega)
            rw [Hn.out] at e hnc
            subst e
            have t1 := take27 HO.out Hn.out hcm (by omega) hn256
            go_wp2_with fail
            refine t1.mono ?_
            rintro e w5 ⟨b, v5, hb, hm, rfl, hO5, hB5⟩
            obtain ⟨X, HX⟩ : ∃ x, Hid (L.getD b r0 = x) := ⟨_, ⟨rfl⟩⟩
            obtain ⟨M, HM⟩ : ∃ x, Hid (L.take b ++ L.drop (b + 1) = x) := ⟨_, ⟨rfl⟩⟩
            have HMin := Hid.mk hm
            have HXl : Hid (X.2.length = 256) := ⟨by rw [← HX.out]; exact each54 HO.out (by rw [Hn.out]; exact hb)⟩
            obtain ⟨n1, Hn1⟩ : ∃ x, Hid (M.length = x) := ⟨_, ⟨rfl⟩⟩
            have hn1 : n1 + 1 = n := by rw [← Hn1.out, ← HM.out, List.length_append, List.length_take, List.length_drop, Hn.out]; omega
            rw [HM.out] at hO5
            rw [HX.out]
            obtain ⟨gm, cm, e, hmc, hcm5⟩ := own_parts hO5 (by rw [Hn1.out]; omega)
            rw [Hn1.out] at e hmc
            subst e
            have HO5 : Hid (OwnE fe 257 54 w5 (q + 3) (.slice (some ⟨gm, 0, none⟩) n1 cm) M) := ⟨hO5.base HS.out⟩
            have HB5 : Hid (Below q w w5) := ⟨HB.out.trans (hB5.mono (by have := HS.out; omega))⟩
            have HY5 := Hid.mk (below_at hB5 HY.out)
            have HZ5 := Hid.mk (below_at hB5 HZ.out)
            have HS5 : Hid (q + 3 ≤ w5.heap.size) := ⟨Nat.le_trans HS.out hB5.size⟩
            obtain ⟨z1, Hz1⟩ : ∃ x, Hid (w5.heap.size = x) := ⟨_, ⟨rfl⟩⟩
            obtain ⟨w6, Hw6, HT6, HB6, HS6⟩ := al54 w5 X
            rw [Hz1.out] at Hw6 HT6 HS6
            have HO6 : Hid (OwnE fe 257 54 w6 (q + 3) (.slice (some ⟨gm, 0, none⟩) n1 cm) M) := ⟨HO5.out.far (Chg.ofBelow (X := []) HB6.out) (by simp)⟩
            have t2 := take27 HO6.out Hn1.out hcm5 (by omega) (by omega)
            clear t1 hO5 hm
            go_wp2_with (first | (refine wp_new54 rfl rfl ?_; rw [Hz1.out]) | (refine wp_put54 (s := r0) (t := X) rfl (.tmp 8) (.tmp 60) rfl rfl rfl r0_len HXl.out (by rw [← Hz1.out]; exact heap_alloc_new w5 _) ?_; rw [Hw6.out]))
            refine t2.mono ?_
            rintro e w7 ⟨d, v7, hd, hm, rfl, hO7, hB7⟩
            obtain ⟨Y, HYY⟩ : ∃ x, Hid (M.getD d r0 = x) := ⟨_, ⟨rfl⟩⟩
            obtain ⟨R, HRR⟩ : ∃ x, Hid (M.take d ++ M.drop (d + 1) = x) := ⟨_, ⟨rfl⟩⟩
            have HMin2 := Hid.mk hm
            have HYl : Hid (Y.2.length = 256) := ⟨by rw [← HYY.out]; exact each54 HO6.out (by rw [Hn1.out]; exact hd)⟩
            have hsmX := HR.out.small H0.out (i := b) (by rw [Hn.out]; exact hb)
            have hsmY : 1 ≤ Y.1 ∧ Y.1 ≤ 2097152 := by
              have hin : Y ∈ L := by
                have h1 : Y ∈ M := by rw [← HYY.out]; exact getD_mem'' r0 (by rw [Hn1.out]; exact hd)
                rw [← HM.out] at h1
                rcases List.mem_append.1 h1 with h | h
                · exact List.mem_of_mem_take h
                · exact List.mem_of_mem_drop h
              obtain ⟨i, hi, e⟩ := mem_getD r0 hin
              rw [← e]; exact HR.out.small H0.out hi
            rw [HX.out] at hsmX
            have HRn : Hid (R.length + 2 = n) := ⟨by rw [← HRR.out, List.length_append, List.length_take, List.length_drop, Hn1.out]; omega⟩
            have HNx : Hid (StR f (R ++ [joinR X Y]) (bumpR g (joinR X Y) 256)) := ⟨by
              have := HR.out.next H0.out (by rw [Hn.out]; exact hb) (by rw [Hn.out]; exact HMin.out) HM.out.symm (c := d) (by rw [Hn1.out]; exact hd) (by rw [Hn1.out]; exact HMin2.out)
              rw [HX.out, HYY.out, HRR.out] at this
              exact this⟩
            rw [HRR.out] at hO7
            rw [HYY.out]
            have HS6q : Hid (q + 3 ≤ w6.heap.size) := ⟨Nat.le_trans HS5.out HB6.out.size⟩
            have HO7 : Hid (OwnE fe 257 54 w7 (q + 3) v7 R) := ⟨hO7.base HS6q.out⟩
            have HY7 := Hid.mk (below_at hB7 (below_at HB6.out HY5.out))
            have HZ7 := Hid.mk (below_at hB7 (below_at HB6.out HZ5.out))
            have HT7 := Hid.mk (below_at hB7 HT6.out)
            have HB7 : Hid (Below q w w7) := ⟨(HB5.out.trans (HB6.out.mono (by have := HS5.out; omega))).trans (hB7.mono (by have := HS6q.out; omega))⟩
            have HS7 : Hid (z1 + 1 ≤ w7.heap.size) := ⟨by have := hB7.size; have := HS6.out; omega⟩
            obtain ⟨z2, Hz2⟩ : ∃ x, Hid (w7.heap.size = x) := ⟨_, ⟨rfl⟩⟩
            obtain ⟨w8, Hw8, HT8, HB8, HS8⟩ := al54 w7 Y
            rw [Hz2.out] at Hw8 HT8 HS8
            have HU8 := Hid.mk (below_at HB8.out HT7.out)
            obtain ⟨a7, c7, e7, hl7, _⟩ := (HO7.out.rd r0).shape
            subst e7
            obtain ⟨n7, Hn7⟩ : ∃ x, Hid (R.length = x) := ⟨_, ⟨rfl⟩⟩
            rw [Hn7.out] at HO7 ⊢
            have HO8 : Hid (OwnE fe 257 54 w8 (q + 3) (.slice a7 n7 c7) R) := ⟨HO7.out.far (Chg.ofBelow (X := []) HB8.out) (by simp)⟩
            obtain ⟨x1, Hx1⟩ : ∃ x, Hid (X.1 = x) := ⟨_, ⟨rfl⟩⟩
            obtain ⟨y1, Hy1⟩ : ∃ x, Hid (Y.1 = x) := ⟨_, ⟨rfl⟩⟩
            rw [Hx1.out] at hsmX
            rw [Hy1.out] at hsmY
            have hxy : IntKind.i64.wrap (x1 + y1) = x1 + y1 := IntWalk.i64_in _ ⟨by omega, by omega⟩
            have e1 : w8.cell? ⟨z1, 0, none⟩ = some (.int .i64 x1) := by rw [cell_of_row _ _ _ _ _ _ HU8.out, ← Hx1.out]; exact ra_cnt X
            have e2 : w8.cell? ⟨z2, 0, none⟩ = some (.int .i64 y1) := by rw [cell_of_row _ _ _ _ _ _ HT8.out, ← Hy1.out]; exact ra_cnt Y
            obtain ⟨w9, Hw9, HT9, HB9, HS9⟩ := al54 w8 (x1 + y1, n0)
            obtain ⟨z3, Hz3⟩ : ∃ x, Hid (w8.heap.size = x) := ⟨_, ⟨rfl⟩⟩
            rw [Hz3.out] at Hw9 HT9 HS9
            have hz12 : z1 < z2 := by have := HS7.out; have := Hz2.out; omega
            have hz23 : z2 < z3 := by have := HS8.out; have := Hz3.out; omega
            have hqz1 : q + 3 ≤ z1 := by have := HS5.out; have := Hz1.out; omega
            clear t2 hO7 hm HO6 HT6 HT7 HO5
            go_upto_region 17 with (first | (refine wp_new54 rfl rfl ?_; rw [Hz2.out]) | (refine wp_put54 (s := r0) (t := Y) rfl (.tmp 10) (.tmp 65) rfl rfl rfl r0_len HYl.out (by rw [← Hz2.out]; exact heap_alloc_new w7 _) ?_; rw [Hw8.out]))
            go_upto_region 18 with (first | (refine wp_mk54 (n := x1 + y1) rfl (.tmp 71) rfl rfl ?_) | (refine wp_new54 rfl rfl ?_; rw [Hz3.out]) | (refine wp_put54 (s := r0) (t := (x1 + y1, n0)) rfl (.tmp 12) (.tmp 72) rfl rfl rfl r0_len n0_len (by rw [← Hz3.out]; exact heap_alloc_new w8 _) ?_; rw [Hw9.out]))
            go_upto_region 19 with fail
            have HT9' : Hid (w9.heap[z3]? = some (.cells (ra (joinK X Y 0)) 54 (0, 0))) := ⟨by rw [joinK_zero, Hx1.out, Hy1.out]; exact HT9.out⟩
            have HU9 := Hid.mk (below_at HB9.out HU8.out)
            have HV9 := Hid.mk (below_at HB9.out HT8.out)
            have HY9 := Hid.mk (below_at HB9.out (below_at HB8.out HY7.out))
            have HZ9 := Hid.mk (below_at HB9.out (below_at HB8.out HZ7.out))
            have HO9 : Hid (OwnE fe 257 54 w9 (q + 3) (.slice a7 n7 c7) R) := ⟨HO8.out.far (Chg.ofBelow (X := []) HB9.out) (by simp)⟩
            have HB9q : Hid (Below q w w9) := ⟨(HB7.out.trans (HB8.out.mono (by have := HS7.out; omega))).trans (HB9.out.mono (by have := Hz3.out; omega))⟩
            have HNz : Hid (∀ y ∈ ob (.slice a7 n7 c7), y < z3 ∧ q + 3 ≤ y) := ⟨fun y hy => by have := HO8.out.lt y hy; have := Hz3.out; omega⟩
            clear e1 e2 HU8 HT8 HO8 HO7 HY7 HZ7 HB7 HB8 HT9 HB9 HY5 HZ5 HB5 hB5 hB7 HB6
            go_loopg [13] 256 (fun gg2 s13 wr => ∃ k : Nat, k ≤ 256 ∧ 256 - k ≤ gg2 ∧ s13 = .int .i64 (k : Int) ∧ Hid (Chg [z3, q + 2] w9 wr) ∧ Hid (wr.heap[z3]? = some (.cells (ra (joinK X Y k)) 54 (0, 0))) ∧ Hid (wr.heap[q + 2]? = some (.cells (ia (bumpR g (joinR X Y) k)) 22 (0, 0))))
            case atStart => exact ⟨0, Nat.zero_le _, by omega, rfl, ⟨Chg.refl _ _⟩, HT9', HZ9⟩
            case round =>
              clear HT9' HZ9
              obtain ⟨k, hk, hgg2, rfl, HC, HTk, HZk⟩ := hrel
              rename World => wk
              have HUk : Hid (wk.heap[z1]? = some (.cells (ra X) 54 (0, 0))) := ⟨(HC.out.block z1 (by have := HS9.out; omega) (by simp; omega)).trans HU9.out⟩
              have HVk : Hid (wk.heap[z2]? = some (.cells (ra Y) 54 (0, 0))) := ⟨(HC.out.block z2 (by have := HS9.out; omega) (by simp; omega)).trans HV9.out⟩
              by_cases hlt : k < 256
              · have hltz : (k : Int) < 256 := by omega
                obtain ⟨bx, Hbx⟩ : ∃ x, Hid (X.2.getD k false = x) := ⟨_, ⟨rfl⟩⟩
                obtain ⟨by', Hby⟩ : ∃ x, Hid (Y.2.getD k false = x) := ⟨_, ⟨rfl⟩⟩
                have c1 : wk.cell? ⟨z1, 1 + k, none⟩ = some (.bool bx) := by rw [cell_of_row _ _ _ _ _ _ HUk.out, ← Hbx.out]; exact ra_has (by rw [HXl.out]; exact hlt)
                have c2 : wk.cell? ⟨z2, 1 + k, none⟩ = some (.bool by') := by rw [cell_of_row _ _ _ _ _ _ HVk.out, ← Hby.out]; exact ra_has (by rw [HYl.out]; exact hlt)
                have c3 : wk.cell? ⟨z3, 1 + k, none⟩ = some (.bool ((joinK X Y k).2.getD k false)) := by rw [cell_of_row _ _ _ _ _ _ HTk.out]; exact ra_has (by rw [joinK_len]; exact hlt)
                have c4 : wk.frozen? ⟨z3, 1 + k, none⟩ = false := frozen_of_row _ _ _ _ _ HTk.out
                generalize (joinK X Y k).2.getD k false = y3 at c3
                have HTn : Hid (∀ v, (bx || by') = v → (wk.setCell ⟨z3, 1 + k, none⟩ (.bool v)).heap[z3]? = some (.cells (ra (joinK X Y (k + 1))) 54 (0, 0))) := ⟨fun v hv => by
                  rw [heap_setCell_same _ _ _ _ _ _ HTk.out]
                  refine congrArg (fun a => some (Obj.cells a 54 (0, 0))) ?_
                  rw [← joinK_set X Y hlt, Hbx.out, Hby.out, hv]
                  exact ra_set _ _ k v⟩
                obtain ⟨G, HG⟩ : ∃ G, Hid (bumpR g (joinR X Y) k = G) := ⟨_, ⟨rfl⟩⟩
                rw [HG.out] at HZk
                have HGl : Hid (G.length = 256) := ⟨by rw [← HG.out, bumpR_len, Hgl.out]⟩
                have HGn : Hid (bumpR g (joinR X Y) (k + 1) = if (bx || by') then G.set k (G.getD k 0 + 1) else G) := ⟨by rw [bumpR, joinR_get X Y hlt, Hbx.out, Hby.out, HG.out]⟩
                have hle : 0 ≤ G.getD k 0 ∧ G.getD k 0 ≤ 257 := by
                  have h1 := HR.out.gsmall H0.out HT256.out k
                  rw [← HG.out, bumpR_get Hgl.out (joinR X Y) k hk k, if_neg (by omega)]
                  omega
                cases bx with
                | true =>
                  go_upto_region 22 with fail
                  obtain ⟨wm, Hwm⟩ : ∃ x, Hid (wk.setCell ⟨z3, 1 + k, none⟩ (.bool true) = x) := ⟨_, ⟨rfl⟩⟩
                  have HTm : Hid (wm.heap[z3]? = some (.cells (ra (joinK X Y (k + 1))) 54 (0, 0))) := ⟨by rw [← Hwm.out]; exact HTn.out true rfl⟩
                  have HCm : Hid (Chg [z3, q + 2] w9 wm) := ⟨by rw [← Hwm.out]; exact HC.out.setCell (.inl (by simp)) _⟩
                  have HZm : Hid (wm.heap[q + 2]? = some (.cells (ia G) 22 (0, 0))) := ⟨by rw [← Hwm.out, heap_setCell_other _ _ _ _ (by show q + 2 ≠ z3; omega)]; exact HZk.out⟩
                  have c5 : wm.cell? ⟨z3, 1 + k, none⟩ = some (.bool true) := by
                    rw [cell_of_row _ _ _ _ _ _ HTm.out, ra_has (by rw [joinK_len]; exact hlt), ← joinK_set X Y hlt]
                    simp only [List.getD, List.getElem?_set_self (show k < (joinK X Y k).2.length by rw [joinK_len]; exact hlt), Option.getD_some]
                    have h1 := Hbx.out
                    have h2 := Hby.out
                    simp only [List.getD] at h1 h2
                    rw [h1, h2]
                    rfl
                  rw [Hwm.out]
                  clear c1 c2 c3 c4
                  have d2 : wm.cell? ⟨q + 2, k, none⟩ = some (.int .i64 (G.getD k 0)) := by rw [cell_of_row _ _ _ _ _ _ HZm.out]; exact ia_get (by rw [HGl.out]; exact hlt)
                  have d3 : wm.frozen? ⟨q + 2, k, none⟩ = false := frozen_of_row _ _ _ _ _ HZm.out
                  generalize G.getD k 0 = y at d2 hle HGn
                  have hy1 : IntKind.i64.wrap (y + 1) = y + 1 := IntWalk.i64_in _ ⟨by omega, by omega⟩
                  clear hle
                  go_wp2_with fail
                  go_roundg (256 - (k + 1))
                  case measure => omega
                  case rel =>
                    refine ⟨k + 1, by omega, by omega, by go_num, ⟨?_⟩, ⟨?_⟩, ⟨?_⟩⟩
                    · exact HCm.out.setCell (a := ⟨q + 2, k, none⟩) (.inl (by simp)) _
                    · rw [heap_setCell_other _ _ _ _ (by show z3 ≠ q + 2; omega)]; exact HTm.out
                    · rw [heap_setCell_same _ _ _ _ _ _ HZm.out, HGn.out]
                      exact congrArg (fun a => some (Obj.cells a 22 (0, 0))) (ia_set G k (y + 1) (by rw [HGl.out]; exact hlt))
                | false =>
                  cases by' with
                  | true =>
                    go_upto_region 22 with fail
                    obtain ⟨wm, Hwm⟩ : ∃ x, Hid (wk.setCell ⟨z3, 1 + k, none⟩ (.bool true) = x) := ⟨_, ⟨rfl⟩⟩
                    have HTm : Hid (wm.heap[z3]? = some (.cells (ra (joinK X Y (k + 1))) 54 (0, 0))) := ⟨by rw [← Hwm.out]; exact HTn.out true rfl⟩
                    have HCm : Hid (Chg [z3, q + 2] w9 wm) := ⟨by rw [← Hwm.out]; exact HC.out.setCell (.inl (by simp)) _⟩
                    have HZm : Hid (wm.heap[q + 2]? = some (.cells (ia G) 22 (0, 0))) := ⟨by rw [← Hwm.out, heap_setCell_other _ _ _ _ (by show q + 2 ≠ z3; omega)]; exact HZk.out⟩
                    have c5 : wm.cell? ⟨z3, 1 + k, none⟩ = some (.bool true) := by
                      rw [cell_of_row _ _ _ _ _ _ HTm.out, ra_has (by rw [joinK_len]; exact hlt), ← joinK_set X Y hlt]
                      simp only [List.getD, List.getElem?_set_self (show k < (joinK X Y k).2.length by rw [joinK_len]; exact hlt), Option.getD_some]
                      have h1 := Hbx.out
                      have h2 := Hby.out
                      simp only [List.getD] at h1 h2
                      rw [h1, h2]
                      rfl
                    rw [Hwm.out]
                    clear c1 c2 c3 c4
                    have d2 : wm.cell? ⟨q + 2, k, none⟩ = some (.int .i64 (G.getD k 0)) := by rw [cell_of_row _ _ _ _ _ _ HZm.out]; exact ia_get (by rw [HGl.out]; exact hlt)
                    have d3 : wm.frozen? ⟨q + 2, k, none⟩ = false := frozen_of_row _ _ _ _ _ HZm.out
                    generalize G.getD k 0 = y at d2 hle HGn
                    have hy1 : IntKind.i64.wrap (y + 1) = y + 1 := IntWalk.i64_in _ ⟨by omega, by omega⟩
                    clear hle
                    go_wp2_with fail
                    go_roundg (256 - (k + 1))
                    case measure => omega
                    case rel =>
                      refine ⟨k + 1, by omega, by omega, by go_num, ⟨?_⟩, ⟨?_⟩, ⟨?_⟩⟩
                      · exact HCm.out.setCell (a := ⟨q + 2, k, none⟩) (.inl (by simp)) _
                      · rw [heap_setCell_other _ _ _ _ (by show z3 ≠ q + 2; omega)]; exact HTm.out
                      · rw [heap_setCell_same _ _ _ _ _ _ HZm.out, HGn.out]
                        exact congrArg (fun a => some (Obj.cells a 22 (0, 0))) (ia_set G k (y + 1) (by rw [HGl.out]; exact hlt))
                  | false =>
                    go_upto_region 22 with fail
                    obtain ⟨wm, Hwm⟩ : ∃ x, Hid (wk.setCell ⟨z3, 1 + k, none⟩ (.bool false) = x) := ⟨_, ⟨rfl⟩⟩
                    have HTm : Hid (wm.heap[z3]? = some (.cells (ra (joinK X Y (k + 1))) 54 (0, 0))) := ⟨by rw [← Hwm.out]; exact HTn.out false rfl⟩
                    have HCm : Hid (Chg [z3, q + 2] w9 wm) := ⟨by rw [← Hwm.out]; exact HC.out.setCell (.inl (by simp)) _⟩
                    have HZm : Hid (wm.heap[q + 2]? = some (.cells (ia G) 22 (0, 0))) := ⟨by rw [← Hwm.out, heap_setCell_other _ _ _ _ (by show q + 2 ≠ z3; omega)]; exact HZk.out⟩
                    have c5 : wm.cell? ⟨z3, 1 + k, none⟩ = some (.bool false) := by
                      rw [cell_of_row _ _ _ _ _ _ HTm.out, ra_has (by rw [joinK_len]; exact hlt), ← joinK_set X Y hlt]
                      simp only [List.getD, List.getElem?_set_self (show k < (joinK X Y k).2.length by rw [joinK_len]; exact hlt), Option.getD_some]
                      have h1 := Hbx.out
                      have h2 := Hby.out
                      simp only [List.getD] at h1 h2
                      rw [h1, h2]
                      rfl
                    rw [Hwm.out]
                    clear c1 c2 c3 c4
                    go_wp2_with fail
                    go_roundg (256 - (k + 1))
                    case measure => omega
                    case rel => exact ⟨k + 1, by omega, by omega, by go_num, HCm, HTm, ⟨by rw [HGn.out]; exact HZm.out⟩⟩
              · obtain rfl : k = 256 := by omega
                have HOf : Hid (OwnE fe 257 54 wk (q + 3) (.slice a7 n7 c7) R) := ⟨HO9.out.far HC.out (fun y hy hm => by have := HNz.out y hy; simp at hm; omega)⟩
                have HTf : Hid (wk.heap[z3]? = some (.cells (ra (joinR X Y)) 54 (0, 0))) := ⟨by rw [← joinK_all]; exact HTk.out⟩
                have HYf : Hid (wk.heap[q + 1]? = some (.cells (ia z0) 22 (0, 0))) := ⟨(HC.out.block (q + 1) (by have := HS9.out; omega) (by simp; omega)).trans HY9.out⟩
                have HBf : Hid (Below q w wk) := ⟨HB9q.out.trans (HC.out.below (by have := HS9.out; omega) (fun y hy => by simp at hy; omega))⟩
                have HSf : Hid (q + 3 ≤ wk.heap.size) := ⟨by have := HC.out.size; have := HS9.out; omega⟩
                obtain ⟨J, HJ⟩ : ∃ x, Hid (joinR X Y = x) := ⟨_, ⟨rfl⟩⟩
                have HJl : Hid (J.2.length = 256) := ⟨by rw [← HJ.out]; exact joinR_len X Y⟩
                rw [HJ.out] at HTf HNx HZk
                obtain ⟨w7', Hw7⟩ : ∃ y, Hid (wk.alloc (.cells (ra J) 54) = y) := ⟨_, ⟨rfl⟩⟩
                obtain ⟨u, Hu⟩ : ∃ x, Hid (wk.heap.size = x) := ⟨_, ⟨rfl⟩⟩
                have HB67 : Hid (Below wk.heap.size wk w7') := ⟨by rw [← Hw7.out]; exact (Below.refl _ wk).alloc (Nat.le_refl _) _⟩
                have HR7 : Hid (RdE fe 257 r0 w7' (.slice (some ⟨u, 0, none⟩) 1 1) [J]) := ⟨by rw [← Hw7.out, ← Hu.out]; exact rde_one wk J (fe_len HJl.out) (fe_one _) 54⟩
                have HO7 : Hid (OwnE fe 257 54 w7' (q + 3) (.slice a7 n7 c7) R) := ⟨HOf.out.far (Chg.ofBelow (X := []) HB67.out) (by simp)⟩
                have hl1 : R.length ≤ 256 := by have := HRn.out; omega
                clear HC HTk HUk HVk HU9 HV9 HO9
                go_wp2_with (first | (refine wp_load rfl 54 (.tmp 12) rfl z3 rfl (ra J) 54 (0, 0) _ HTf.out Try.underlying54 rfl (info54f HJl.out) ?_) | (refine wp_sliceE eltR rfl (.tmp 101) rfl (ra J) rfl (ra_size HJl.out) (by decide) ?_; rw [Hw7.out, Hu.out]) | (at_builtin; refine wp_appE (f := fe) (d := r0) (L := R) (M := [J]) eltR rfl (.tmp 100) (.tmp 102) rfl rfl HO7.out rfl HR7.out (by simp only [List.length_cons, List.length_nil]; omega) (by simp only [List.length_cons, List.length_nil]; unfold maxLen; omega) (Nat.le_trans HSf.out HB67.out.size) ?_; intro v8 w8' hO8 hC8 hV8))
                have HB8 : Hid (Below (q + 3) w7' w8') := ⟨hC8.below (Nat.le_trans HSf.out HB67.out.size) (fun y hy => (HO7.out.lt y hy).1)⟩
                have HBq7 : Hid (Below q w w7') := ⟨HBf.out.trans (HB67.out.mono (by have := HSf.out; omega))⟩
                go_roundg (n - 1)
                case measure => omega
                case rel =>
                  refine ⟨v8, R ++ [J], bumpR g J 256, rfl, ?_, ⟨hO8⟩, HNx, ⟨HBq7.out.trans (HB8.out.mono (by omega))⟩, ⟨?_⟩, ⟨?_⟩, ⟨Nat.le_trans (Nat.le_trans HSf.out HB67.out.size) HB8.out.size⟩⟩
                  · rw [List.length_append]; have := HRn.out; simp; omega
                  · exact (HB8.out.block (q + 1) (by omega)).trans (below_at HB67.out HYf.out)
                  · exact (HB8.out.block (q + 2) (by omega)).trans (below_at HB67.out HZk.out)
          · have h1z : ¬ (1 : Int) < (n : Int) := by omega
            have HLen : Hid (LenS f g) := ⟨HR.out.done (by rw [Hn.out]; omega)⟩
            obtain ⟨a5, c5, e5, _⟩ := (HO.out.rd r0).shape
            subst e5
            rw [Hn.out] at HO ⊢
            go_wp2_with (first | (refine wp_load rfl 22 (.tmp 4) rfl (q + 2) rfl (ia (g)) 22 (0, 0) _ HZ.out Try.underlying22 rfl (info22f Hgl.out) ?_) | (refine wp_put22 (f := z0) (g := g) rfl (.tmp 2) (.tmp 104) rfl rfl rfl z0_len Hgl.out HY.out ?_))
            (try simp only [Exit.inBlock, Exit.then])
            refine bodyPost_ret (results_ct rfl _ _ rfl (load22 Hgl.out (setRow_heap wo (q + 1) (ia z0) _ 22 (0, 0) HY.out))) rfl ?_
            exact ⟨_, 0, rfl, fun h => absurd (HOk.out.symm.trans h) (by decide), fun _ => ⟨rfl, HLen.out⟩, by rw [Hq.out]; exact below_setRow HB.out (by omega) _⟩
end
end Go.Proofs.Ytfecngncapenjaa
