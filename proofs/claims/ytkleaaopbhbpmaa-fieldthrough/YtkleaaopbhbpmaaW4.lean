/- The walk of FieldThrough. -/
import Derived.Test.YtkleaaopbhbpmaaW3
namespace Go.Proofs.Ytkleaaopbhbpmaa
open Go.RowKit Gf

/-- The first i points, each once. -/
def dd (P : List G) : Nat → List G
  | 0 => []
  | i + 1 => if P.getD i 0 ∈ dd P i then dd P i else dd P i ++ [P.getD i 0]
theorem dd_len (P : List G) : ∀ i, (dd P i).length ≤ i
  | 0 => Nat.le_refl _
  | i + 1 => by
    have := dd_len P i
    rw [dd]
    split
    · omega
    · rw [List.length_append]; simp; omega
theorem dd_nodup (P : List G) : ∀ i, (dd P i).Nodup
  | 0 => List.nodup_nil
  | i + 1 => by
    have := dd_nodup P i
    rw [dd]
    split
    · exact this
    · rename_i h
      rw [List.nodup_append]
      refine ⟨this, by simp, fun a ha b hb e => ?_⟩
      simp at hb
      subst hb
      subst e
      exact h ha
theorem mem_take_succ (L : List G) (x : G) {k : Nat} (hk : k < L.length) : decide (x ∈ L.take (k + 1)) = (decide (x ∈ L.take k) || decide (L.getD k 0 = x)) := by
  have e : L.getD k 0 = L[k] := by simp [List.getD, List.getElem?_eq_getElem hk]
  rw [Bool.eq_iff_iff, e, List.take_succ_eq_append_getElem hk]
  simp only [List.mem_append, List.mem_singleton, Bool.or_eq_true, decide_eq_true_eq]
  exact ⟨fun h => h.imp id Eq.symm, fun h => h.imp id Eq.symm⟩
section
variable {w : World}
set_option maxHeartbeats 8000000 in
set_option maxRecDepth 100000 in
theorem through8 (u v : Value) (p P : List G) (x : G) (hu : GV w u p) (hv : GV w v P) : Calls Try.prog 8 #[u, v, .int .u8 (gi x)] w fun e w' => e = .returned (.bool true) ∧ Below w.heap.size w w' := by
  obtain ⟨u1, u2, rfl, hu1, hu2, _⟩ := hu.rd.shape
  obtain ⟨v1, v2, rfl, hv1, hv2, _⟩ := hv.rd.shape
  have HU := Hid.mk hu.rd
  have HV := Hid.mk hv.rd
  have lp := hu.len
  have lP := hv.len
  obtain ⟨m, Hm⟩ : ∃ m, Hid (p.length = m) := ⟨_, ⟨rfl⟩⟩
  obtain ⟨n, Hn⟩ : ∃ m, Hid (P.length = m) := ⟨_, ⟨rfl⟩⟩
  rw [Hm.out] at lp hu1 HU ⊢
  rw [Hn.out] at lP hv1 HV ⊢
  obtain ⟨xv, Hxv⟩ : ∃ r, Hid (gi x = r) := ⟨_, ⟨rfl⟩⟩
  rw [Hxv.out]
  clear hu hv
  go_enter Try.func8, Try.ntmps8
  go_upto_region 3 with fail
  go_loopg [7, 9, 10, 11] (min n 60) (fun gg s7 s9 _ _ wr => ∃ i : Nat, i ≤ min n 60 ∧ min n 60 - i ≤ gg ∧ s9 = .int .i64 (i : Int) ∧ Hid (OwnG wr w.heap.size s7 (dd P i)) ∧ Hid (Below w.heap.size w wr))
  case atStart => exact ⟨0, Nat.zero_le _, by omega, rfl, ⟨ownG_nil _ _⟩, ⟨Below.refl _ _⟩⟩
  case round =>
    obtain ⟨i, hi, hgg, rfl, HO, HB⟩ := hrel
    rename World => wo
    obtain ⟨a7, c7, e7, hc7, hcm7, _⟩ := HO.out.rd.shape
    subst e7
    have hdl := dd_len P i
    by_cases hlt : i < n ∧ i < 60
    · obtain ⟨hlt, hlt6⟩ := hlt
      have hltz : (i : Int) < (n : Int) := by omega
      have hlt6z : (i : Int) < 60 := by omega
      have hiL : i < P.length := by rw [Hn.out]; exact hlt
      obtain ⟨L, HL⟩ : ∃ r, Hid (dd P i = r) := ⟨_, ⟨rfl⟩⟩
      have HS : Hid (dd P (i + 1) = if P.getD i 0 ∈ L then L else L ++ [P.getD i 0]) := ⟨by rw [dd, HL.out]⟩
      rw [HL.out] at HO hc7 hdl ⊢
      obtain ⟨y, Hy⟩ : ∃ r, Hid (P.getD i 0 = r) := ⟨_, ⟨rfl⟩⟩
      rw [Hy.out] at HS
      obtain ⟨k, Hk⟩ : ∃ r, Hid (L.length = r) := ⟨_, ⟨rfl⟩⟩
      rw [Hk.out] at HO hc7 hdl ⊢
      go_upto_region 7 with fail
      go_loopg [10, 11] k (fun gg2 s10 s11 wr => ∃ j : Nat, j ≤ k ∧ k - j ≤ gg2 ∧ s11 = .int .i64 (j : Int) ∧ s10 = .bool (decide (y ∈ L.take j)) ∧ Hid (OwnG wr w.heap.size (.slice a7 k c7) L) ∧ Hid (Below w.heap.size w wr))
      case atStart => exact ⟨0, Nat.zero_le _, by omega, rfl, rfl, HO, HB⟩
      case round =>
        clear HO HB
        obtain ⟨j, hj, hgg2, rfl, rfl, HO, HB⟩ := hrel
        rename World => wk
        by_cases hjk : j < k
        · have hjkz : (j : Int) < (k : Int) := by omega
          have hjL : j < L.length := by rw [Hk.out]; exact hjk
          have HT := Hid.mk (mem_take_succ L y hjL)
          obtain ⟨g, off, cap, e, hcap, hc⟩ := (HV.out.far (Chg.ofBelow (X := []) HB.out) (by simp)).at hiL
          rw [Hn.out] at e
          simp at e
          obtain ⟨rfl, rfl⟩ := e
          have c1 := hc i hiL
          obtain ⟨g2, off2, cap2, e, hcap2, hc2⟩ := HO.out.rd.at hjL
          rw [Hk.out] at e
          simp at e
          obtain ⟨rfl, rfl⟩ := e
          have c2 := hc2 j hjL
          have q := gi_eq (L.getD j 0) y
          rw [Hy.out] at c1
          obtain ⟨bb, Hbb⟩ : ∃ r, Hid (decide (L.getD j 0 = y) = r) := ⟨_, ⟨rfl⟩⟩
          obtain ⟨kn, Hkn⟩ : ∃ r, Hid (decide (y ∈ L.take j) = r) := ⟨_, ⟨rfl⟩⟩
          rw [Hbb.out] at HT q
          rw [Hkn.out] at HT
          rw [Hkn.out]
          generalize gi (L.getD j 0) = y1 at c2 q
          generalize gi y = y2 at c1 q
          clear hc hc2
          cases kn with
          | true =>
            go_upto_region 9 with fail
            go_quiet (fail)
            go_wp2_with fail
            go_roundg (k - (j + 1))
            case measure => omega
            case rel => exact ⟨j + 1, by omega, by omega, by go_num, by rw [HT.out]; rfl, ⟨HO.out.far (Chg.ofBelow (X := []) (below_drewN (Below.refl _ wk) nq)) (by simp)⟩, ⟨below_drewN HB.out nq⟩⟩
          | false =>
            go_upto_region 9 with fail
            go_quiet (fail)
            go_wp2_with fail
            go_roundg (k - (j + 1))
            case measure => omega
            case rel => exact ⟨j + 1, by omega, by omega, by go_num, by rw [HT.out]; rfl, ⟨HO.out.far (Chg.ofBelow (X := []) (below_drewN (Below.refl _ wk) nq)) (by simp)⟩, ⟨below_drewN HB.out nq⟩⟩
        · obtain rfl : k = j := by omega
          rw [show L.take k = L from List.take_of_length_le (by rw [Hk.out]; exact Nat.le_refl _)]
          by_cases hy : y ∈ L
          · rw [decide_eq_true hy]
            rw [if_pos hy] at HS
            clear hy
            go_wp2_with fail
            go_roundg (min n 60 - (i + 1))
            case measure => omega
            case rel => exact ⟨i + 1, by omega, by omega, by go_num, ⟨by rw [HS.out]; exact HO.out⟩, HB⟩
          · rw [decide_eq_false hy]
            rw [if_neg hy] at HS
            obtain ⟨g, off, cap, e, hcap, hc⟩ := (HV.out.far (Chg.ofBelow (X := []) HB.out) (by simp)).at hiL
            rw [Hn.out] at e
            simp at e
            obtain ⟨rfl, rfl⟩ := e
            have c1 := hc i hiL
            rw [Hy.out] at c1
            have hl5 : L.length ≤ 1000000000000 := by rw [Hk.out]; omega
            have hz5 : w.heap.size ≤ wk.heap.size := HB.out.size
            clear hy hc
            go_wp2_with (refine wp_appG1 rfl (.tmp 45) (.tmp 50) rfl rfl HO.out rfl hl5 hz5 ?_; intro v7 w7 hO7 hG7 hV7)
            have HO7 : Hid (OwnG w7 w.heap.size v7 (dd P (i + 1))) := ⟨by rw [HS.out]; exact hO7⟩
            have HB7 : Hid (Below w.heap.size w w7) := ⟨HB.out.trans (hG7.below HB.out.size (fun x hx => (HO.out.lt x hx).1))⟩
            clear hO7 hG7 hV7
            go_roundg (min n 60 - (i + 1))
            case measure => omega
            case rel => exact ⟨i + 1, by omega, by omega, by go_num, HO7, HB7⟩
    · have hnd := dd_nodup P i
      obtain ⟨L, HL⟩ : ∃ r, Hid (dd P i = r) := ⟨_, ⟨rfl⟩⟩
      rw [HL.out] at HO hc7 hdl hnd ⊢
      have HD := Hid.mk hnd
      obtain ⟨k, Hk⟩ : ∃ r, Hid (L.length = r) := ⟨_, ⟨rfl⟩⟩
      rw [Hk.out] at HO hc7 hdl ⊢
      have hk60 : k ≤ 60 := by omega
      clear hnd hgg hdl
      have hor : ¬ (i : Int) < (n : Int) ∨ ((i : Int) < (n : Int) ∧ ¬ (i : Int) < 60) := by omega
      clear hlt hi
      rcases hor with hq | ⟨hq, hq2⟩
      · go_upto_region 12 with fail
        obtain ⟨q, Hq⟩ : ∃ q, Hid (min m k = q) := ⟨_, ⟨rfl⟩⟩
        have hqm : q ≤ m := by rw [← Hq.out]; exact Nat.min_le_left _ _
        have hqk : q ≤ k := by rw [← Hq.out]; exact Nat.min_le_right _ _
        have hmin : min (m : Int) (k : Int) = (q : Int) := by rw [← Hq.out]; omega
        have hqu : (q : Int) ≤ (u2 : Int) := by omega
        have HU2 : Hid (RdG w (.slice u1 q u2) (p.take q)) := ⟨HU.out.take q hqm⟩
        have Hpl : Hid ((p.take q).length ≤ L.length) := ⟨by rw [Hk.out, List.length_take]; omega⟩
        have Hpb : Hid ((p.take q).length ≤ 1000000000000000) := ⟨by rw [List.length_take]; omega⟩
        obtain ⟨pp, Hpp⟩ : ∃ r, Hid (p.take q = r) := ⟨_, ⟨rfl⟩⟩
        rw [Hpp.out] at HU2 Hpl Hpb
        go_upto_region 14 with fail
        go_loopg [8, 12] k (fun gg s8 s12 wr => ∃ j : Nat, j ≤ k ∧ k - j ≤ gg ∧ s12 = .int .i64 (j : Int) ∧ Hid (OwnG wr w.heap.size s8 ((L.take j).map (ev pp))) ∧ Hid (OwnG wr w.heap.size (.slice a7 k c7) L) ∧ Hid (∀ g ∈ ob s8, g ∉ ob (.slice a7 k c7)) ∧ Hid (Below w.heap.size w wr))
        case atStart => exact ⟨0, Nat.zero_le _, by omega, rfl, ⟨ownG_nil _ _⟩, HO, ⟨by simp [ob, Value.ownBlock]⟩, HB⟩
        case round =>
          clear HO HB
          obtain ⟨j, hj, hgg, rfl, HO8, HO, HX, HB⟩ := hrel
          rename World => wk
          obtain ⟨a8, c8, e8, _⟩ := HO8.out.rd.shape
          subst e8
          obtain ⟨sn, Hsn⟩ : ∃ r, Hid (((L.take j).map (ev pp)).length = r) := ⟨_, ⟨rfl⟩⟩
          rw [Hsn.out] at HO8 HX ⊢
          by_cases hjk : j < k
          · have hjkz : (j : Int) < (k : Int) := by omega
            have hjL : j < L.length := by rw [Hk.out]; exact hjk
            obtain ⟨g2, off2, cap2, e, hcap2, hc2⟩ := HO.out.rd.at hjL
            rw [Hk.out] at e
            simp at e
            obtain ⟨rfl, rfl⟩ := e
            have c2 := hc2 j hjL
            have t1 := eval17 (w := wk) pp _ (L.getD j 0) Hpb.out (HU2.out.far (Chg.ofBelow (X := []) HB.out) (by simp))
            have HU3 : Hid ((L.take (j + 1)).map (ev pp) = (L.take j).map (ev pp) ++ [ev pp (L.getD j 0)]) := ⟨by
              rw [List.take_succ_eq_append_getElem hjL, List.map_append]
              simp [List.getD, List.getElem?_eq_getElem hjL]⟩
            have hpl : pp.length = q := by
              obtain ⟨a', c', e, _⟩ := HU2.out.shape
              simp at e
              exact e.2.1.symm
            generalize ev pp (L.getD j 0) = z at t1 HU3
            generalize gi (L.getD j 0) = y1 at c2 t1
            clear hc2 hpl
            go_wp2_with fail
            refine t1.mono ?_
            rintro e w2 ⟨rfl, hb2⟩
            have HC2 : Hid (Below wk.heap.size wk w2) := ⟨hb2⟩
            have HB2 : Hid (Below w.heap.size w w2) := ⟨HB.out.trans (hb2.mono HB.out.size)⟩
            have HO82 : Hid (OwnG w2 w.heap.size (.slice a8 sn c8) ((L.take j).map (ev pp))) := ⟨HO8.out.far (Chg.ofBelow (X := []) hb2) (by simp)⟩
            have HO2 : Hid (OwnG w2 w.heap.size (.slice (some ⟨g2, off2, none⟩) k c7) L) := ⟨HO.out.far (Chg.ofBelow (X := []) hb2) (by simp)⟩
            have hl5 : ((L.take j).map (ev pp)).length ≤ 1000000000000 := by rw [List.length_map, List.length_take]; omega
            have hz5 : w.heap.size ≤ w2.heap.size := HB2.out.size
            have Hlt2 : Hid (∀ g ∈ ob (.slice (some ⟨g2, off2, none⟩) k c7), g < w2.heap.size) := ⟨fun g hg => (HO2.out.lt g hg).2⟩
            clear t1 hb2
            go_wp2_with (refine wp_appG1 rfl (.tmp 65) (.tmp 72) rfl rfl HO82.out rfl hl5 hz5 ?_; intro v7 w7 hO7 hG7 hV7)
            have HO7 : Hid (OwnG w7 w.heap.size v7 ((L.take (j + 1)).map (ev pp))) := ⟨by rw [HU3.out]; exact hO7⟩
            have HB7 : Hid (Below w.heap.size w w7) := ⟨HB2.out.trans (hG7.below HB2.out.size (fun x hx => (HO82.out.lt x hx).1))⟩
            have HO27 : Hid (OwnG w7 w.heap.size (.slice (some ⟨g2, off2, none⟩) k c7) L) := ⟨HO2.out.far hG7 (fun g hg hm => HX.out g hm hg)⟩
            have HX7 : Hid (∀ g ∈ ob v7, g ∉ ob (.slice (some ⟨g2, off2, none⟩) k c7)) := ⟨fun g hg hm => by
              rcases hV7 with h | h
              · exact HX.out g (mem_ob.2 (h.symm.trans (mem_ob.1 hg))) hm
              · have e := mem_ob.1 hg
                rw [h] at e
                simp at e
                have := Hlt2.out g hm
                omega⟩
            clear hO7 hG7 hV7
            go_roundg (k - (j + 1))
            case measure => omega
            case rel => exact ⟨j + 1, by omega, by omega, by go_num, HO7, HO27, HX7, HB7⟩
          · obtain rfl : k = j := by omega
            have HLt : Hid (L.take k = L) := ⟨List.take_of_length_le (by rw [Hk.out]; exact Nat.le_refl _)⟩
            rw [HLt.out] at HO8 Hsn
            have t1 := weights21 (w := wk) x _ L HO.out.rd (by rw [Hk.out]; omega)
            rw [Hxv.out] at t1
            have T3 : Hid (∀ W, Below w.heap.size w W → Calls Try.prog 17 #[.slice u1 q u2, .int .u8 xv] W fun e w' => e = .returned (.int .u8 (gi (ev pp x))) ∧ Below W.heap.size W w') := ⟨fun W hB => by
              have := eval17 (w := W) pp _ x Hpb.out (HU2.out.far (Chg.ofBelow (X := []) hB) (by simp))
              rwa [Hxv.out] at this⟩
            have HTh := Hid.mk (dot_through HD.out Hpl.out x)
            have HTh2 : Hid (dot (L.map (ev pp)) (wts L x) = ev pp x) := ⟨HTh.out⟩
            have Hl8 : Hid ((L.map (ev pp)).length ≤ 1000000000000000) := ⟨by rw [List.length_map, Hk.out]; omega⟩
            have HlW : Hid ((wts L x).length ≤ 1000000000000000) := ⟨by unfold wts; rw [List.length_map, List.length_range, Hk.out]; omega⟩
            go_wp2_with fail
            refine t1.mono ?_
            rintro e w2 ⟨v2', c2, rfl, hw2, hb2⟩
            obtain ⟨ho2, rfl⟩ : OwnG w2 wk.heap.size v2' (wts L x) ∧ c2 = 0 := by
              rcases hw2 with ⟨_, h, h3⟩ | ⟨h, _⟩
              · exact ⟨h3, h⟩
              · exact absurd HD.out h
            have HO2 := Hid.mk ho2
            have HC2 := Hid.mk hb2
            have HB2 : Hid (Below w.heap.size w w2) := ⟨HB.out.trans (hb2.mono HB.out.size)⟩
            have HO82 : Hid (OwnG w2 w.heap.size (.slice a8 sn c8) (L.map (ev pp))) := ⟨HO8.out.far (Chg.ofBelow (X := []) hb2) (by simp)⟩
            obtain ⟨a9, c9, e9, _⟩ := ho2.rd.shape
            subst e9
            clear t1 hw2 hb2 ho2
            have t2 := live12 (w := w2)
            obtain ⟨nw, Hnw⟩ : ∃ r, Hid ((wts L x).length = r) := ⟨_, ⟨rfl⟩⟩
            rw [Hnw.out] at HO2 ⊢
            go_wp2_with fail
            refine t2.mono ?_
            rintro e w3 ⟨rfl, hb3⟩
            have HC3 := Hid.mk hb3
            have HB3 : Hid (Below w.heap.size w w3) := ⟨HB2.out.trans (hb3.mono HB2.out.size)⟩
            have t4 := dot19 (w := w3) _ _ _ _ Hl8.out HlW.out (HO82.out.rd.far (Chg.ofBelow (X := []) hb3) (by simp)) (HO2.out.rd.far (Chg.ofBelow (X := []) hb3) (by simp))
            rw [HTh2.out] at t4
            clear t2 hb3
            generalize gi (ev pp x) = r at *
            go_wp2_with fail
            refine t4.mono ?_
            rintro e w4 ⟨rfl, hb4⟩
            have HB4 : Hid (Below w.heap.size w w4) := ⟨HB3.out.trans (hb4.mono HB3.out.size)⟩
            clear t4 hb4
            go_wp2_with fail
            refine (T3.out _ HB4.out).mono ?_
            rintro e w5 ⟨rfl, hb5⟩
            have HB5 : Hid (Below w.heap.size w w5) := ⟨HB4.out.trans (hb5.mono HB4.out.size)⟩
            clear hb5
            go_wp2_with fail
            go_ret
            exact ⟨rfl, HB5.out⟩
      · go_upto_region 12 with fail
        obtain ⟨q, Hq⟩ : ∃ q, Hid (min m k = q) := ⟨_, ⟨rfl⟩⟩
        have hqm : q ≤ m := by rw [← Hq.out]; exact Nat.min_le_left _ _
        have hqk : q ≤ k := by rw [← Hq.out]; exact Nat.min_le_right _ _
        have hmin : min (m : Int) (k : Int) = (q : Int) := by rw [← Hq.out]; omega
        have hqu : (q : Int) ≤ (u2 : Int) := by omega
        have HU2 : Hid (RdG w (.slice u1 q u2) (p.take q)) := ⟨HU.out.take q hqm⟩
        have Hpl : Hid ((p.take q).length ≤ L.length) := ⟨by rw [Hk.out, List.length_take]; omega⟩
        have Hpb : Hid ((p.take q).length ≤ 1000000000000000) := ⟨by rw [List.length_take]; omega⟩
        obtain ⟨pp, Hpp⟩ : ∃ r, Hid (p.take q = r) := ⟨_, ⟨rfl⟩⟩
        rw [Hpp.out] at HU2 Hpl Hpb
        go_upto_region 14 with fail
        go_loopg [8, 12] k (fun gg s8 s12 wr => ∃ j : Nat, j ≤ k ∧ k - j ≤ gg ∧ s12 = .int .i64 (j : Int) ∧ Hid (OwnG wr w.heap.size s8 ((L.take j).map (ev pp))) ∧ Hid (OwnG wr w.heap.size (.slice a7 k c7) L) ∧ Hid (∀ g ∈ ob s8, g ∉ ob (.slice a7 k c7)) ∧ Hid (Below w.heap.size w wr))
        case atStart => exact ⟨0, Nat.zero_le _, by omega, rfl, ⟨ownG_nil _ _⟩, HO, ⟨by simp [ob, Value.ownBlock]⟩, HB⟩
        case round =>
          clear HO HB
          obtain ⟨j, hj, hgg, rfl, HO8, HO, HX, HB⟩ := hrel
          rename World => wk
          obtain ⟨a8, c8, e8, _⟩ := HO8.out.rd.shape
          subst e8
          obtain ⟨sn, Hsn⟩ : ∃ r, Hid (((L.take j).map (ev pp)).length = r) := ⟨_, ⟨rfl⟩⟩
          rw [Hsn.out] at HO8 HX ⊢
          by_cases hjk : j < k
          · have hjkz : (j : Int) < (k : Int) := by omega
            have hjL : j < L.length := by rw [Hk.out]; exact hjk
            obtain ⟨g2, off2, cap2, e, hcap2, hc2⟩ := HO.out.rd.at hjL
            rw [Hk.out] at e
            simp at e
            obtain ⟨rfl, rfl⟩ := e
            have c2 := hc2 j hjL
            have t1 := eval17 (w := wk) pp _ (L.getD j 0) Hpb.out (HU2.out.far (Chg.ofBelow (X := []) HB.out) (by simp))
            have HU3 : Hid ((L.take (j + 1)).map (ev pp) = (L.take j).map (ev pp) ++ [ev pp (L.getD j 0)]) := ⟨by
              rw [List.take_succ_eq_append_getElem hjL, List.map_append]
              simp [List.getD, List.getElem?_eq_getElem hjL]⟩
            have hpl : pp.length = q := by
              obtain ⟨a', c', e, _⟩ := HU2.out.shape
              simp at e
              exact e.2.1.symm
            generalize ev pp (L.getD j 0) = z at t1 HU3
            generalize gi (L.getD j 0) = y1 at c2 t1
            clear hc2 hpl
            go_wp2_with fail
            refine t1.mono ?_
            rintro e w2 ⟨rfl, hb2⟩
            have HC2 : Hid (Below wk.heap.size wk w2) := ⟨hb2⟩
            have HB2 : Hid (Below w.heap.size w w2) := ⟨HB.out.trans (hb2.mono HB.out.size)⟩
            have HO82 : Hid (OwnG w2 w.heap.size (.slice a8 sn c8) ((L.take j).map (ev pp))) := ⟨HO8.out.far (Chg.ofBelow (X := []) hb2) (by simp)⟩
            have HO2 : Hid (OwnG w2 w.heap.size (.slice (some ⟨g2, off2, none⟩) k c7) L) := ⟨HO.out.far (Chg.ofBelow (X := []) hb2) (by simp)⟩
            have hl5 : ((L.take j).map (ev pp)).length ≤ 1000000000000 := by rw [List.length_map, List.length_take]; omega
            have hz5 : w.heap.size ≤ w2.heap.size := HB2.out.size
            have Hlt2 : Hid (∀ g ∈ ob (.slice (some ⟨g2, off2, none⟩) k c7), g < w2.heap.size) := ⟨fun g hg => (HO2.out.lt g hg).2⟩
            clear t1 hb2
            go_wp2_with (refine wp_appG1 rfl (.tmp 65) (.tmp 72) rfl rfl HO82.out rfl hl5 hz5 ?_; intro v7 w7 hO7 hG7 hV7)
            have HO7 : Hid (OwnG w7 w.heap.size v7 ((L.take (j + 1)).map (ev pp))) := ⟨by rw [HU3.out]; exact hO7⟩
            have HB7 : Hid (Below w.heap.size w w7) := ⟨HB2.out.trans (hG7.below HB2.out.size (fun x hx => (HO82.out.lt x hx).1))⟩
            have HO27 : Hid (OwnG w7 w.heap.size (.slice (some ⟨g2, off2, none⟩) k c7) L) := ⟨HO2.out.far hG7 (fun g hg hm => HX.out g hm hg)⟩
            have HX7 : Hid (∀ g ∈ ob v7, g ∉ ob (.slice (some ⟨g2, off2, none⟩) k c7)) := ⟨fun g hg hm => by
              rcases hV7 with h | h
              · exact HX.out g (mem_ob.2 (h.symm.trans (mem_ob.1 hg))) hm
              · have e := mem_ob.1 hg
                rw [h] at e
                simp at e
                have := Hlt2.out g hm
                omega⟩
            clear hO7 hG7 hV7
            go_roundg (k - (j + 1))
            case measure => omega
            case rel => exact ⟨j + 1, by omega, by omega, by go_num, HO7, HO27, HX7, HB7⟩
          · obtain rfl : k = j := by omega
            have HLt : Hid (L.take k = L) := ⟨List.take_of_length_le (by rw [Hk.out]; exact Nat.le_refl _)⟩
            rw [HLt.out] at HO8 Hsn
            have t1 := weights21 (w := wk) x _ L HO.out.rd (by rw [Hk.out]; omega)
            rw [Hxv.out] at t1
            have T3 : Hid (∀ W, Below w.heap.size w W → Calls Try.prog 17 #[.slice u1 q u2, .int .u8 xv] W fun e w' => e = .returned (.int .u8 (gi (ev pp x))) ∧ Below W.heap.size W w') := ⟨fun W hB => by
              have := eval17 (w := W) pp _ x Hpb.out (HU2.out.far (Chg.ofBelow (X := []) hB) (by simp))
              rwa [Hxv.out] at this⟩
            have HTh := Hid.mk (dot_through HD.out Hpl.out x)
            have HTh2 : Hid (dot (L.map (ev pp)) (wts L x) = ev pp x) := ⟨HTh.out⟩
            have Hl8 : Hid ((L.map (ev pp)).length ≤ 1000000000000000) := ⟨by rw [List.length_map, Hk.out]; omega⟩
            have HlW : Hid ((wts L x).length ≤ 1000000000000000) := ⟨by unfold wts; rw [List.length_map, List.length_range, Hk.out]; omega⟩
            go_wp2_with fail
            refine t1.mono ?_
            rintro e w2 ⟨v2', c2, rfl, hw2, hb2⟩
            obtain ⟨ho2, rfl⟩ : OwnG w2 wk.heap.size v2' (wts L x) ∧ c2 = 0 := by
              rcases hw2 with ⟨_, h, h3⟩ | ⟨h, _⟩
              · exact ⟨h3, h⟩
              · exact absurd HD.out h
            have HO2 := Hid.mk ho2
            have HC2 := Hid.mk hb2
            have HB2 : Hid (Below w.heap.size w w2) := ⟨HB.out.trans (hb2.mono HB.out.size)⟩
            have HO82 : Hid (OwnG w2 w.heap.size (.slice a8 sn c8) (L.map (ev pp))) := ⟨HO8.out.far (Chg.ofBelow (X := []) hb2) (by simp)⟩
            obtain ⟨a9, c9, e9, _⟩ := ho2.rd.shape
            subst e9
            clear t1 hw2 hb2 ho2
            have t2 := live12 (w := w2)
            obtain ⟨nw, Hnw⟩ : ∃ r, Hid ((wts L x).length = r) := ⟨_, ⟨rfl⟩⟩
            rw [Hnw.out] at HO2 ⊢
            go_wp2_with fail
            refine t2.mono ?_
            rintro e w3 ⟨rfl, hb3⟩
            have HC3 := Hid.mk hb3
            have HB3 : Hid (Below w.heap.size w w3) := ⟨HB2.out.trans (hb3.mono HB2.out.size)⟩
            have t4 := dot19 (w := w3) _ _ _ _ Hl8.out HlW.out (HO82.out.rd.far (Chg.ofBelow (X := []) hb3) (by simp)) (HO2.out.rd.far (Chg.ofBelow (X := []) hb3) (by simp))
            rw [HTh2.out] at t4
            clear t2 hb3
            generalize gi (ev pp x) = r at *
            go_wp2_with fail
            refine t4.mono ?_
            rintro e w4 ⟨rfl, hb4⟩
            have HB4 : Hid (Below w.heap.size w w4) := ⟨HB3.out.trans (hb4.mono HB3.out.size)⟩
            clear t4 hb4
            go_wp2_with fail
            refine (T3.out _ HB4.out).mono ?_
            rintro e w5 ⟨rfl, hb5⟩
            have HB5 : Hid (Below w.heap.size w w5) := ⟨HB4.out.trans (hb5.mono HB4.out.size)⟩
            clear hb5
            go_wp2_with fail
            go_ret
            exact ⟨rfl, HB5.out⟩
end
theorem walk_fieldThrough (u : Value) (p : List G) (v : Value) (q : List G) (x : Int) (W : World) (hu : GV W u p) (hv : GV W v q) (w2 : (Lit.int .u8 x).wf = true) : Calls Try.prog 8 #[u, v, .int .u8 x] W fun e w' => e = .returned (.bool true) ∧ Below W.heap.size W w' := by
  obtain ⟨x, rfl⟩ := of_u8 w2
  exact through8 u v p q x hu hv
end Go.Proofs.Ytkleaaopbhbpmaa
