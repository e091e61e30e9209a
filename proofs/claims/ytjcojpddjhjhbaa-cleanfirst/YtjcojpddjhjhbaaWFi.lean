/- The law CleanFirst. -/
import Derived.Test.YtjcojpddjhjhbaaE1
import Derived.Lib.MinMax
namespace Go.Proofs.Ytjcojpddjhjhbaa
open Go.RowKit Go.Lib

abbrev Pq := Int × Int
def pq2 (x : Pq) : List Value := [.int .u16 x.1, .int .u16 x.2]
def p0 : Pq := (0, 0)
theorem bin_at {G : List Sh} (hg : G.map (·.1) = (List.range G.length).map (fun x : Nat => (x : Int))) {e : Sh} (he : e ∈ G) : ∃ n : Nat, n < G.length ∧ e.1 = (n : Int) ∧ G.getD n s0 = e := by
  obtain ⟨n, hn, rfl⟩ := List.mem_iff_getElem.1 he
  refine ⟨n, hn, ?_, by simp [List.getD, List.getElem?_eq_getElem hn]⟩
  have h1 : (G.map (·.1))[n]? = some G[n].1 := by simp [List.getElem?_eq_getElem hn]
  rw [hg] at h1
  simp [hn] at h1
  exact h1.symm
theorem shc_le {x y : Sh} (h : shl y x = false) : x.2.2 * max y.2.1 1 ≤ y.2.2 * max x.2.1 1 := by
  unfold shl shc at h
  rw [decide_eq_false_iff_not] at h
  by_cases hlt : y.2.2 * max x.2.1 1 < x.2.2 * max y.2.1 1
  · exfalso
    apply h
    have e1 : cmpI (y.2.2 * max x.2.1 1) (x.2.2 * max y.2.1 1) = -1 := by unfold cmpI; rw [if_pos hlt]
    rw [e1, if_neg (by decide)]
    decide
  · omega
theorem first_at {G S : List Sh} {p : Int} (hg : G.map (·.1) = (List.range G.length).map (fun x : Nat => (x : Int))) (hp : S.Perm (G.filter (low p))) {i : Nat} (hi : i < S.length) : ∃ n : Nat, n < G.length ∧ (S.map (·.1)).getD i 0 = (n : Int) ∧ G.getD n s0 = S.getD i s0 := by
  have hm : S.getD i s0 ∈ G := (List.mem_filter.1 (hp.mem_iff.1 (getD_mem' hi))).1
  obtain ⟨n, h1, h2, h3⟩ := bin_at hg hm
  refine ⟨n, h1, ?_, h3⟩
  rw [← h2]
  simp [List.getD, List.getElem?_eq_getElem hi]
theorem ord_at {S : List Sh} (h : Ord S) {i k : Nat} (hi : i < k) (hk : k < S.length) : shl (S.getD k s0) (S.getD i s0) = false := by
  have := List.pairwise_iff_getElem.1 h i k (by omega) hk hi
  simpa [List.getD, List.getElem?_eq_getElem hk, List.getElem?_eq_getElem (show i < S.length by omega)] using this
section
variable {w : World}
set_option maxHeartbeats 16000000 in
set_option maxRecDepth 100000 in
theorem cleanFirst_any (v : Value) (L : List Pq) (p mo : Int) (h : RdE pq2 2 p0 w v L) (hL : L.length ≤ 35184372088832) (hb : ∀ x ∈ L, 0 ≤ x.1 ∧ x.1 < 65536 ∧ 0 ≤ x.2 ∧ x.2 < 65536) (hp : 0 ≤ p ∧ p < 256) (hm : 0 ≤ mo ∧ mo < 256) :
    Calls Try.prog 6 #[v, .int .u8 p, .int .u8 mo] w fun e w' => e = .returned (.bool true) ∧ Below w.heap.size w w' := by
  have H := Hid.mk h
  obtain ⟨a, c, rfl, hlc, hcm, _⟩ := h.shape
  obtain ⟨n, Hn⟩ : ∃ n, Hid (L.length = n) := ⟨_, ⟨rfl⟩⟩
  rw [Hn.out] at H hL hlc ⊢
  have Hb := Hid.mk hb
  have hcx : c ≤ 9223372036854775807 := hcm
  obtain ⟨hp0, hp1⟩ := hp
  obtain ⟨hm0, hm1⟩ := hm
  obtain ⟨q, rfl⟩ := Int.eq_ofNat_of_zero_le hm0
  clear h hb
  go_enter Try.func6, Try.ntmps6
  go_upto_region 3 with fail
  go_loopg [7, 8, 9, 10] n (fun gg s7 s8 _ _ wr => ∃ i : Nat, ∃ G : List Sh, ∃ a5 c5, i ≤ n ∧ i ≤ 60 ∧ n - i ≤ gg ∧ s8 = .int .i64 (i : Int) ∧ s7 = .slice a5 i c5 ∧ Hid (G.length = i) ∧ Hid (OwnE sh3 3 27 wr w.heap.size (.slice a5 i c5) G) ∧ Hid (AllRt G) ∧ Hid (G.map (·.1) = (List.range i).map (fun x : Nat => (x : Int))) ∧ Hid (Below w.heap.size w wr))
  case atStart => exact ⟨0, [], none, 0, Nat.zero_le _, by omega, by omega, rfl, rfl, ⟨rfl⟩, ⟨OwnE.nil _ _ _ _ _⟩, ⟨fun s hs => nomatch hs⟩, ⟨rfl⟩, ⟨Below.refl _ _⟩⟩
  case round =>
    obtain ⟨i, G, a5, c5, hi, hi60, hgg, rfl, rfl, HGl, HO, HGr, HGn, HB⟩ := hrel
    rename World => wo
    by_cases hlt : i < n ∧ i < 60
    · obtain ⟨hlt, hlt6⟩ := hlt
      have hltz : (i : Int) < (n : Int) := by omega
      have hlt6z : (i : Int) < 60 := by omega
      have hiL : i < L.length := by rw [Hn.out]; exact hlt
      obtain ⟨b, off, cap, e, hc⟩ := (H.out.far (Chg.ofBelow (X := []) HB.out) (by simp)).at' i hiL
      rw [Hn.out] at e
      simp at e
      obtain ⟨rfl, rfl⟩ := e
      have hbx := Hb.out _ (getD_mem' (d := p0) hiL)
      generalize L.getD i p0 = x at hc hbx
      obtain ⟨x1, x2⟩ := x
      obtain ⟨b1, b2, b3, b4⟩ := hbx
      simp only at b1 b2 b3 b4
      have k0 : wo.cell? ⟨b, off + i * 2, none⟩ = some (.int .u16 x1) := hc 0 (by decide)
      have k1 : wo.cell? ⟨b, off + i * 2 + 1, none⟩ = some (.int .u16 x2) := hc 1 (by decide)
      clear hc
      go_upto_region 5 with fail
      go_quiet (fail)
      go_upto_region 6 with fail
      obtain ⟨wq, Hwq⟩ : ∃ x, Hid (wo.drewN nq = x) := ⟨_, ⟨rfl⟩⟩
      have HBq : Hid (Below w.heap.size w wq) := ⟨by rw [← Hwq.out]; exact below_drewN HB.out nq⟩
      have HOq : Hid (OwnE sh3 3 27 wq w.heap.size (.slice a5 i c5) G) := ⟨by rw [← Hwq.out]; exact HO.out.far (X := []) (Chg.ofBelow (below_drewN (Below.refl _ wo) nq)) (by simp)⟩
      rw [Hwq.out]
      have q1 : 0 ≤ x1 % 32769 ∧ x1 % 32769 ≤ 32768 := by omega
      have q2 : 0 ≤ x2 % 32769 ∧ x2 % 32769 ≤ 32768 := by omega
      generalize x1 % 32769 = z1 at q1 ⊢
      generalize x2 % 32769 = z2 at q2 ⊢
      obtain ⟨V, HV⟩ : ∃ x, Hid (wq.alloc (.cells #[.int .i64 (i : Int), .int .i64 (max z1 z2), .int .i64 (min z1 z2)] 27) = x) := ⟨_, ⟨rfl⟩⟩
      have HBV : Hid (Below wq.heap.size wq V) := ⟨by rw [← HV.out]; exact (Below.refl _ wq).alloc (Nat.le_refl _) _⟩
      obtain ⟨x, Hx⟩ : ∃ x : Sh, Hid (x = ((i : Int), max z1 z2, min z1 z2)) := ⟨_, ⟨rfl⟩⟩
      have HRV : Hid (RdE sh3 3 s0 V (.slice (some ⟨wq.heap.size, 0, none⟩) 1 1) [x]) := ⟨by
        rw [← HV.out, Hx.out]
        exact rde_one wq (((i : Int), max z1 z2, min z1 z2) : Sh) rfl (sh3_one _).2 27⟩
      have HOV : Hid (OwnE sh3 3 27 V w.heap.size (.slice a5 i c5) G) := ⟨HOq.out.far (Chg.ofBelow (X := []) HBV.out) (by simp)⟩
      have HB0V : Hid (Below w.heap.size w V) := ⟨HBq.out.trans (HBV.out.mono HBq.out.size)⟩
      have hl1 : (G.length + [x].length) * 24 ≤ 140737488355328 := by rw [HGl.out]; simp; omega
      have hl2 : G.length + [x].length ≤ maxLen := by rw [HGl.out]; unfold maxLen; simp; omega
      have hl3 : w.heap.size ≤ V.heap.size := HB0V.out.size
      have Hxr : Hid (Rt x) := ⟨by rw [Hx.out]; unfold Rt; simp only; omega⟩
      have Hq := Hid.mk (And.intro q1 q2)
      clear q1 q2 k0 k1
      go_wp2_with (first
        | (refine wp_sliceE eltS rfl (.tmp 52) rfl #[.int .i64 (i : Int), .int .i64 (max z1 z2), .int .i64 (min z1 z2)] rfl rfl (by decide) ?_; rw [HV.out])
        | (refine wp_appE (f := sh3) (d := s0) eltS rfl (.tmp 44) (.tmp 53) rfl rfl HOV.out rfl HRV.out hl1 hl2 hl3 ?_; intro v7 w7 hO7 hG7 hV7))
      have HG7 : Hid (Chg (ob (.slice a5 i c5)) V w7) := ⟨hG7⟩
      have HB7 : Hid (Below w.heap.size w w7) := ⟨HB0V.out.trans (HG7.out.below HB0V.out.size (fun x hx => (HOV.out.lt x hx).1))⟩
      have HO7 : Hid (OwnE sh3 3 27 w7 w.heap.size v7 (G ++ [x])) := ⟨hO7⟩
      have HGl7 : Hid ((G ++ [x]).length = i + 1) := ⟨by rw [List.length_append, HGl.out]; rfl⟩
      have HGr7 : Hid (AllRt (G ++ [x])) := ⟨fun z hz => by
        rcases List.mem_append.1 hz with hz | hz
        · exact HGr.out z hz
        · simp at hz; rw [hz]; exact Hxr.out⟩
      have HGn7 : Hid ((G ++ [x]).map (·.1) = (List.range (i + 1)).map (fun x : Nat => (x : Int))) := ⟨by rw [List.map_append, HGn.out, List.range_succ, List.map_append, Hx.out]; rfl⟩
      obtain ⟨a7, c7, e7, _⟩ := (hO7.rd s0).shape
      rw [HGl7.out] at e7
      subst e7
      clear hO7 hG7 hV7
      go_roundg (n - (i + 1))
      case measure => omega
      case rel => exact ⟨i + 1, G ++ [x], a7, c7, by omega, by omega, by omega, by go_num, rfl, HGl7, HO7, HGr7, HGn7, HB7⟩
    · have hx : (i < n ∧ ¬ i < 60) ∨ ¬ i < n := by omega
      clear hlt
      rcases hx with ⟨q1, q2⟩ | q1
      · have q1z : (i : Int) < (n : Int) := by omega
        have q2z : ¬ (i : Int) < 60 := by omega
        have HR0 : Hid (RdE sh3 3 s0 wo (.slice a5 i c5) G) := ⟨HO.out.rd s0⟩
        have HGn' : Hid (G.map (·.1) = (List.range G.length).map (fun x : Nat => (x : Int))) := ⟨by rw [HGl.out]; exact HGn.out⟩
        obtain ⟨P, HP⟩ : ∃ P, Hid (p % 101 = P) := ⟨_, ⟨rfl⟩⟩
        have HPb : Hid (0 ≤ P ∧ P ≤ 100) := ⟨by have := HP.out; omega⟩
        have t1 := choose_yes (w := wo) _ G HR0.out (by rw [HGl.out]; omega) P (q : Int) HPb.out (by omega) HGr.out
        go_upto_region 8 with fail
        rw [HP.out]
        go_wp2_with fail
        refine t1.mono ?_
        rintro e w1 ⟨x1, rfl, S1, hP1, hO1, hR1, hB1⟩
        have HR1 : Hid (RdE sh3 3 s0 w1 (.slice a5 i c5) G) := ⟨HR0.out.far (Chg.ofBelow (X := []) hB1) (by simp)⟩
        have HB1 : Hid (Below w.heap.size w w1) := ⟨HB.out.trans (hB1.mono HB.out.size)⟩
        have t2 := choose_yes (w := w1) _ G HR1.out (by rw [HGl.out]; omega) P (i : Int) HPb.out (by omega) HGr.out
        have HP1 := Hid.mk hP1
        have HO1 := Hid.mk hO1
        obtain ⟨A, HA⟩ : ∃ A, Hid ((S1.map (·.1)).take (q : Int).toNat = A) := ⟨_, ⟨rfl⟩⟩
        rw [HA.out] at hR1
        have HRa := Hid.mk hR1
        obtain ⟨a1, c1, e1, hc1, hc1m, _⟩ := hR1.shape
        subst e1
        obtain ⟨la, Hla⟩ : ∃ x, Hid (A.length = x) := ⟨_, ⟨rfl⟩⟩
        rw [Hla.out] at HRa hc1 ⊢
        have hc1x : c1 ≤ 9223372036854775807 := hc1m
        clear t1 hP1 hO1 hR1 hB1 HR0
        go_wp2_with fail
        refine t2.mono ?_
        rintro e w2 ⟨x2, rfl, S, hP2, hO2, hR2, hB2⟩
        have HB2 : Hid (Below w.heap.size w w2) := ⟨HB1.out.trans (hB2.mono HB1.out.size)⟩
        have HRg : Hid (RdE sh3 3 s0 w2 (.slice a5 i c5) G) := ⟨HR1.out.far (Chg.ofBelow (X := []) hB2) (by simp)⟩
        have HRa2 : Hid (RdI w2 (.slice a1 la c1) A) := ⟨HRa.out.far (Chg.ofBelow (X := []) hB2) (by simp)⟩
        have hSm : S.length ≤ i := by
          rw [hP2.length_eq]
          have := List.length_filter_le (low P) G
          have := HGl.out
          omega
        have e3 : (S.map (·.1)).take (i : Int).toNat = S.map (·.1) := List.take_of_length_le (by rw [List.length_map, Int.toNat_natCast]; exact hSm)
        rw [e3] at hR2
        have hone : S1.map (·.1) = S.map (·.1) := sorted_one (fun s hs => HGr.out s (List.mem_filter.1 (HP1.out.mem_iff.1 hs)).1) (HP1.out.trans hP2.symm) HO1.out hO2
        have HP2 := Hid.mk hP2
        have HO2 := Hid.mk hO2
        obtain ⟨T, HT⟩ : ∃ T, Hid (S.map (·.1) = T) := ⟨_, ⟨rfl⟩⟩
        have HAT : Hid (A = T.take q) := ⟨by rw [← HA.out, hone, HT.out, Int.toNat_natCast]⟩
        rw [HT.out] at hR2
        have HRT := Hid.mk hR2
        obtain ⟨a2, c2, e2, hc2, hc2m, _⟩ := hR2.shape
        subst e2
        obtain ⟨tl, Htl⟩ : ∃ x, Hid (T.length = x) := ⟨_, ⟨rfl⟩⟩
        rw [Htl.out] at HRT hc2 ⊢
        have HSl : Hid (S.length = tl) := ⟨by rw [← Htl.out, ← HT.out, List.length_map]⟩
        have htl : tl ≤ i := by rw [← HSl.out]; exact hSm
        have hc2x : c2 ≤ 9223372036854775807 := hc2m
        have Hla2 : Hid (la = min q tl) := ⟨by rw [← Hla.out, HAT.out, List.length_take, Htl.out]⟩
        have hmin : min (tl : Int) (q : Int) = (la : Int) := by have := Hla2.out; omega
        have hlaq : (la : Int) ≤ (q : Int) := by have := Hla2.out; omega
        have hlaq2 : ¬ q < la := by omega
        clear t2 hP2 hO2 hR2 hB2 hSm e3 hone HR1 HB1 HRa HA
        go_wp2_with fail
        go_loopg [16, 17, 18, 19] tl (fun gg3 s16 _ _ _ wr => ∃ i2 : Nat, i2 ≤ tl ∧ tl - i2 ≤ gg3 ∧ s16 = .int .i64 (i2 : Int) ∧ Hid (Below w2.heap.size w2 wr))
        case atStart => exact ⟨0, Nat.zero_le _, by omega, rfl, ⟨Below.refl _ _⟩⟩
        case round =>
          obtain ⟨i2, hi2, hgg3, rfl, HB3⟩ := hrel
          rename World => wp
          by_cases hl2 : i2 < tl
          · have hl2z : (i2 : Int) < (tl : Int) := by omega
            obtain ⟨n1, hn1, f1, g1⟩ := first_at HGn'.out HP2.out (i := i2) (by rw [HSl.out]; exact hl2)
            rw [HGl.out] at hn1
            rw [HT.out] at f1
            have Hg1 := Hid.mk g1
            have hn1z : (n1 : Int) < (i : Int) := by omega
            have hn1a : ¬ i ≤ n1 := by omega
            have hn1b : ¬ (n1 : Int) < 0 := by omega
            have HRTp : RdI wp (.slice a2 tl c2) T := HRT.out.far (Chg.ofBelow (X := []) HB3.out) (by simp)
            have HRap : RdI wp (.slice a1 la c1) A := HRa2.out.far (Chg.ofBelow (X := []) HB3.out) (by simp)
            obtain ⟨b2, o2, cap2, e, _, hcc⟩ := HRTp.at (i := i2) (by rw [Htl.out]; exact hl2)
            rw [Htl.out] at e
            simp at e
            obtain ⟨rfl, rfl⟩ := e
            have k0 : wp.cell? ⟨b2, o2 + i2, none⟩ = some (.int .i64 (n1 : Int)) := by rw [hcc i2 (by rw [Htl.out]; exact hl2), f1]
            have HKT := Hid.mk hcc
            clear g1 hcc HRTp
            by_cases hA : i2 < la
            · have hAz : (i2 : Int) < (la : Int) := by omega
              obtain ⟨b1, o1, cap1, e, _, hca⟩ := HRap.at (i := i2) (by rw [Hla.out]; exact hA)
              rw [Hla.out] at e
              simp at e
              obtain ⟨rfl, rfl⟩ := e
              have k1 : wp.cell? ⟨b1, o1 + i2, none⟩ = some (.int .i64 (n1 : Int)) := by
                rw [hca i2 (by rw [Hla.out]; exact hA), ← f1, HAT.out]
                have hq2 : i2 < q := by omega
                simp [List.getD, hq2]
              clear hca HRap f1
              go_wp2_with fail
              go_loopg [18, 19] tl (fun gg4 s18 _ wr => ∃ j : Nat, i2 + 1 ≤ j ∧ j ≤ tl ∧ tl - j ≤ gg4 ∧ s18 = .int .i64 (j : Int) ∧ Hid (Below wp.heap.size wp wr))
              case atStart => exact ⟨i2 + 1, Nat.le_refl _, by omega, by omega, by go_num, ⟨Below.refl _ _⟩⟩
              case round =>
                obtain ⟨j, hj1, hj, hgg4, rfl, HBr⟩ := hrel
                rename World => wk
                by_cases hjn : j < tl
                · have hjnz : (j : Int) < (tl : Int) := by omega
                  obtain ⟨n2, hn2, f2, g2⟩ := first_at HGn'.out HP2.out (i := j) (by rw [HSl.out]; exact hjn)
                  have hle := shc_le (ord_at HO2.out (i := i2) (k := j) (by omega) (by rw [HSl.out]; exact hjn))
                  rw [← Hg1.out, ← g2] at hle
                  have hrt1 := HGr.out _ (getD_mem' (d := s0) (show n1 < G.length by rw [HGl.out]; exact hn1))
                  have hrt2 := HGr.out _ (getD_mem' (d := s0) hn2)
                  have HRgk : RdE sh3 3 s0 wk (.slice a5 i c5) G := HRg.out.far (Chg.ofBelow (X := []) (HB3.out.trans (HBr.out.mono HB3.out.size))) (by simp)
                  obtain ⟨bg, og, capg, e, hg1⟩ := HRgk.at' n1 (by rw [HGl.out]; exact hn1)
                  rw [HGl.out] at e
                  simp at e
                  obtain ⟨rfl, rfl⟩ := e
                  obtain ⟨bg2, og2, capg2, e, hg2⟩ := HRgk.at' n2 hn2
                  rw [HGl.out] at e hn2
                  simp at e
                  obtain ⟨⟨rfl, rfl⟩, rfl⟩ := e
                  rw [HT.out] at f2
                  have d0 : wk.cell? ⟨b2, o2 + j, none⟩ = some (.int .i64 (n2 : Int)) := (HBr.out.cell (p := ⟨b2, o2 + j, none⟩) (World.block_lt_of_cell? _ _ (HKT.out j (by rw [Htl.out]; exact hjn)))).trans (by rw [HKT.out j (by rw [Htl.out]; exact hjn), f2])
                  clear f2 g2 HRgk
                  generalize G.getD n1 s0 = X at hle hrt1 hg1
                  generalize G.getD n2 s0 = Y at hle hrt2 hg2
                  obtain ⟨y1, y2, y3⟩ := X
                  obtain ⟨z1, z2, z3⟩ := Y
                  obtain ⟨r1, r2, r3⟩ := hrt1
                  obtain ⟨r4, r5, r6⟩ := hrt2
                  simp only at r1 r2 r3 r4 r5 r6 hle
                  have d1 : wk.cell? ⟨bg, og + n1 * 3 + 1, none⟩ = some (.int .i64 y2) := hg1 1 (by decide)
                  have d2 : wk.cell? ⟨bg, og + n1 * 3 + 2, none⟩ = some (.int .i64 y3) := hg1 2 (by decide)
                  have d3 : wk.cell? ⟨bg, og + n2 * 3 + 1, none⟩ = some (.int .i64 z2) := hg2 1 (by decide)
                  have d4 : wk.cell? ⟨bg, og + n2 * 3 + 2, none⟩ = some (.int .i64 z3) := hg2 2 (by decide)
                  have hn2z : (n2 : Int) < (i : Int) := by omega
                  have u1 := prod_fit r1 (by omega : y3 ≤ 32768) (by omega : 0 ≤ max z2 1) (by omega)
                  have u2 := prod_fit r4 (by omega : z3 ≤ 32768) (by omega : 0 ≤ max y2 1) (by omega)
                  clear hg1 hg2
                  have hlx : ¬ z3 * max y2 1 < y3 * max z2 1 := Int.not_lt.2 hle
                  have e1 : IntKind.i64.wrap (y3 * max z2 1) = y3 * max z2 1 := IntWalk.i64_in _ ⟨by omega, by omega⟩
                  have e2 : IntKind.i64.wrap (z3 * max y2 1) = z3 * max y2 1 := IntWalk.i64_in _ ⟨by omega, by omega⟩
                  clear hle
                  go_upto_region 22 with fail
                  go_quiet (fail)
                  go_wp2_with fail
                  go_roundg (tl - (j + 1))
                  case measure => omega
                  case rel => exact ⟨j + 1, by omega, by omega, by omega, by go_num, ⟨below_drewN HBr.out nq⟩⟩
                · obtain rfl : tl = j := by omega
                  have HBz : Hid (Below w2.heap.size w2 wk) := ⟨HB3.out.trans (HBr.out.mono HB3.out.size)⟩
                  go_wp2_with fail
                  go_roundg (tl - (i2 + 1))
                  case measure => omega
                  case rel => exact ⟨i2 + 1, by omega, by omega, by go_num, HBz⟩
            · have hAz : ¬ (i2 : Int) < (la : Int) := by omega
              clear HRap f1
              go_wp2_with fail
              go_loopg [18, 19] tl (fun gg4 s18 _ wr => ∃ j : Nat, i2 + 1 ≤ j ∧ j ≤ tl ∧ tl - j ≤ gg4 ∧ s18 = .int .i64 (j : Int) ∧ Hid (Below wp.heap.size wp wr))
              case atStart => exact ⟨i2 + 1, Nat.le_refl _, by omega, by omega, by go_num, ⟨Below.refl _ _⟩⟩
              case round =>
                obtain ⟨j, hj1, hj, hgg4, rfl, HBr⟩ := hrel
                rename World => wk
                by_cases hjn : j < tl
                · have hjnz : (j : Int) < (tl : Int) := by omega
                  obtain ⟨n2, hn2, f2, g2⟩ := first_at HGn'.out HP2.out (i := j) (by rw [HSl.out]; exact hjn)
                  have hle := shc_le (ord_at HO2.out (i := i2) (k := j) (by omega) (by rw [HSl.out]; exact hjn))
                  rw [← Hg1.out, ← g2] at hle
                  have hrt1 := HGr.out _ (getD_mem' (d := s0) (show n1 < G.length by rw [HGl.out]; exact hn1))
                  have hrt2 := HGr.out _ (getD_mem' (d := s0) hn2)
                  have HRgk : RdE sh3 3 s0 wk (.slice a5 i c5) G := HRg.out.far (Chg.ofBelow (X := []) (HB3.out.trans (HBr.out.mono HB3.out.size))) (by simp)
                  obtain ⟨bg, og, capg, e, hg1⟩ := HRgk.at' n1 (by rw [HGl.out]; exact hn1)
                  rw [HGl.out] at e
                  simp at e
                  obtain ⟨rfl, rfl⟩ := e
                  obtain ⟨bg2, og2, capg2, e, hg2⟩ := HRgk.at' n2 hn2
                  rw [HGl.out] at e hn2
                  simp at e
                  obtain ⟨⟨rfl, rfl⟩, rfl⟩ := e
                  rw [HT.out] at f2
                  have d0 : wk.cell? ⟨b2, o2 + j, none⟩ = some (.int .i64 (n2 : Int)) := (HBr.out.cell (p := ⟨b2, o2 + j, none⟩) (World.block_lt_of_cell? _ _ (HKT.out j (by rw [Htl.out]; exact hjn)))).trans (by rw [HKT.out j (by rw [Htl.out]; exact hjn), f2])
                  clear f2 g2 HRgk
                  generalize G.getD n1 s0 = X at hle hrt1 hg1
                  generalize G.getD n2 s0 = Y at hle hrt2 hg2
                  obtain ⟨y1, y2, y3⟩ := X
                  obtain ⟨z1, z2, z3⟩ := Y
                  obtain ⟨r1, r2, r3⟩ := hrt1
                  obtain ⟨r4, r5, r6⟩ := hrt2
                  simp only at r1 r2 r3 r4 r5 r6 hle
                  have d1 : wk.cell? ⟨bg, og + n1 * 3 + 1, none⟩ = some (.int .i64 y2) := hg1 1 (by decide)
                  have d2 : wk.cell? ⟨bg, og + n1 * 3 + 2, none⟩ = some (.int .i64 y3) := hg1 2 (by decide)
                  have d3 : wk.cell? ⟨bg, og + n2 * 3 + 1, none⟩ = some (.int .i64 z2) := hg2 1 (by decide)
                  have d4 : wk.cell? ⟨bg, og + n2 * 3 + 2, none⟩ = some (.int .i64 z3) := hg2 2 (by decide)
                  have hn2z : (n2 : Int) < (i : Int) := by omega
                  have u1 := prod_fit r1 (by omega : y3 ≤ 32768) (by omega : 0 ≤ max z2 1) (by omega)
                  have u2 := prod_fit r4 (by omega : z3 ≤ 32768) (by omega : 0 ≤ max y2 1) (by omega)
                  clear hg1 hg2
                  have hlx : ¬ z3 * max y2 1 < y3 * max z2 1 := Int.not_lt.2 hle
                  have e1 : IntKind.i64.wrap (y3 * max z2 1) = y3 * max z2 1 := IntWalk.i64_in _ ⟨by omega, by omega⟩
                  have e2 : IntKind.i64.wrap (z3 * max y2 1) = z3 * max y2 1 := IntWalk.i64_in _ ⟨by omega, by omega⟩
                  clear hle
                  go_upto_region 22 with fail
                  go_quiet (fail)
                  go_wp2_with fail
                  go_roundg (tl - (j + 1))
                  case measure => omega
                  case rel => exact ⟨j + 1, by omega, by omega, by omega, by go_num, ⟨below_drewN HBr.out nq⟩⟩
                · obtain rfl : tl = j := by omega
                  have HBz : Hid (Below w2.heap.size w2 wk) := ⟨HB3.out.trans (HBr.out.mono HB3.out.size)⟩
                  go_wp2_with fail
                  go_roundg (tl - (i2 + 1))
                  case measure => omega
                  case rel => exact ⟨i2 + 1, by omega, by omega, by go_num, HBz⟩
          · obtain rfl : tl = i2 := by omega
            have HBp : Hid (Below w.heap.size w wp) := ⟨HB2.out.trans (HB3.out.mono HB2.out.size)⟩
            go_wp2_with fail
            refine (live_any (w := wp)).mono ?_
            rintro e w9 ⟨rfl, hB9⟩
            have HB9 : Hid (Below w.heap.size w w9) := ⟨HBp.out.trans (hB9.mono HBp.out.size)⟩
            clear hB9
            go_wp2_with fail
            go_ret
            exact ⟨rfl, HB9.out⟩
      · have q1z : ¬ (i : Int) < (n : Int) := by omega
        have HR0 : Hid (RdE sh3 3 s0 wo (.slice a5 i c5) G) := ⟨HO.out.rd s0⟩
        have HGn' : Hid (G.map (·.1) = (List.range G.length).map (fun x : Nat => (x : Int))) := ⟨by rw [HGl.out]; exact HGn.out⟩
        obtain ⟨P, HP⟩ : ∃ P, Hid (p % 101 = P) := ⟨_, ⟨rfl⟩⟩
        have HPb : Hid (0 ≤ P ∧ P ≤ 100) := ⟨by have := HP.out; omega⟩
        have t1 := choose_yes (w := wo) _ G HR0.out (by rw [HGl.out]; omega) P (q : Int) HPb.out (by omega) HGr.out
        go_upto_region 8 with fail
        rw [HP.out]
        go_wp2_with fail
        refine t1.mono ?_
        rintro e w1 ⟨x1, rfl, S1, hP1, hO1, hR1, hB1⟩
        have HR1 : Hid (RdE sh3 3 s0 w1 (.slice a5 i c5) G) := ⟨HR0.out.far (Chg.ofBelow (X := []) hB1) (by simp)⟩
        have HB1 : Hid (Below w.heap.size w w1) := ⟨HB.out.trans (hB1.mono HB.out.size)⟩
        have t2 := choose_yes (w := w1) _ G HR1.out (by rw [HGl.out]; omega) P (i : Int) HPb.out (by omega) HGr.out
        have HP1 := Hid.mk hP1
        have HO1 := Hid.mk hO1
        obtain ⟨A, HA⟩ : ∃ A, Hid ((S1.map (·.1)).take (q : Int).toNat = A) := ⟨_, ⟨rfl⟩⟩
        rw [HA.out] at hR1
        have HRa := Hid.mk hR1
        obtain ⟨a1, c1, e1, hc1, hc1m, _⟩ := hR1.shape
        subst e1
        obtain ⟨la, Hla⟩ : ∃ x, Hid (A.length = x) := ⟨_, ⟨rfl⟩⟩
        rw [Hla.out] at HRa hc1 ⊢
        have hc1x : c1 ≤ 9223372036854775807 := hc1m
        clear t1 hP1 hO1 hR1 hB1 HR0
        go_wp2_with fail
        refine t2.mono ?_
        rintro e w2 ⟨x2, rfl, S, hP2, hO2, hR2, hB2⟩
        have HB2 : Hid (Below w.heap.size w w2) := ⟨HB1.out.trans (hB2.mono HB1.out.size)⟩
        have HRg : Hid (RdE sh3 3 s0 w2 (.slice a5 i c5) G) := ⟨HR1.out.far (Chg.ofBelow (X := []) hB2) (by simp)⟩
        have HRa2 : Hid (RdI w2 (.slice a1 la c1) A) := ⟨HRa.out.far (Chg.ofBelow (X := []) hB2) (by simp)⟩
        have hSm : S.length ≤ i := by
          rw [hP2.length_eq]
          have := List.length_filter_le (low P) G
          have := HGl.out
          omega
        have e3 : (S.map (·.1)).take (i : Int).toNat = S.map (·.1) := List.take_of_length_le (by rw [List.length_map, Int.toNat_natCast]; exact hSm)
        rw [e3] at hR2
        have hone : S1.map (·.1) = S.map (·.1) := sorted_one (fun s hs => HGr.out s (List.mem_filter.1 (HP1.out.mem_iff.1 hs)).1) (HP1.out.trans hP2.symm) HO1.out hO2
        have HP2 := Hid.mk hP2
        have HO2 := Hid.mk hO2
        obtain ⟨T, HT⟩ : ∃ T, Hid (S.map (·.1) = T) := ⟨_, ⟨rfl⟩⟩
        have HAT : Hid (A = T.take q) := ⟨by rw [← HA.out, hone, HT.out, Int.toNat_natCast]⟩
        rw [HT.out] at hR2
        have HRT := Hid.mk hR2
        obtain ⟨a2, c2, e2, hc2, hc2m, _⟩ := hR2.shape
        subst e2
        obtain ⟨tl, Htl⟩ : ∃ x, Hid (T.length = x) := ⟨_, ⟨rfl⟩⟩
        rw [Htl.out] at HRT hc2 ⊢
        have HSl : Hid (S.length = tl) := ⟨by rw [← Htl.out, ← HT.out, List.length_map]⟩
        have htl : tl ≤ i := by rw [← HSl.out]; exact hSm
        have hc2x : c2 ≤ 9223372036854775807 := hc2m
        have Hla2 : Hid (la = min q tl) := ⟨by rw [← Hla.out, HAT.out, List.length_take, Htl.out]⟩
        have hmin : min (tl : Int) (q : Int) = (la : Int) := by have := Hla2.out; omega
        have hlaq : (la : Int) ≤ (q : Int) := by have := Hla2.out; omega
        have hlaq2 : ¬ q < la := by omega
        clear t2 hP2 hO2 hR2 hB2 hSm e3 hone HR1 HB1 HRa HA
        go_wp2_with fail
        go_loopg [16, 17, 18, 19] tl (fun gg3 s16 _ _ _ wr => ∃ i2 : Nat, i2 ≤ tl ∧ tl - i2 ≤ gg3 ∧ s16 = .int .i64 (i2 : Int) ∧ Hid (Below w2.heap.size w2 wr))
        case atStart => exact ⟨0, Nat.zero_le _, by omega, rfl, ⟨Below.refl _ _⟩⟩
        case round =>
          obtain ⟨i2, hi2, hgg3, rfl, HB3⟩ := hrel
          rename World => wp
          by_cases hl2 : i2 < tl
          · have hl2z : (i2 : Int) < (tl : Int) := by omega
            obtain ⟨n1, hn1, f1, g1⟩ := first_at HGn'.out HP2.out (i := i2) (by rw [HSl.out]; exact hl2)
            rw [HGl.out] at hn1
            rw [HT.out] at f1
            have Hg1 := Hid.mk g1
            have hn1z : (n1 : Int) < (i : Int) := by omega
            have hn1a : ¬ i ≤ n1 := by omega
            have hn1b : ¬ (n1 : Int) < 0 := by omega
            have HRTp : RdI wp (.slice a2 tl c2) T := HRT.out.far (Chg.ofBelow (X := []) HB3.out) (by simp)
            have HRap : RdI wp (.slice a1 la c1) A := HRa2.out.far (Chg.ofBelow (X := []) HB3.out) (by simp)
            obtain ⟨b2, o2, cap2, e, _, hcc⟩ := HRTp.at (i := i2) (by rw [Htl.out]; exact hl2)
            rw [Htl.out] at e
            simp at e
            obtain ⟨rfl, rfl⟩ := e
            have k0 : wp.cell? ⟨b2, o2 + i2, none⟩ = some (.int .i64 (n1 : Int)) := by rw [hcc i2 (by rw [Htl.out]; exact hl2), f1]
            have HKT := Hid.mk hcc
            clear g1 hcc HRTp
            by_cases hA : i2 < la
            · have hAz : (i2 : Int) < (la : Int) := by omega
              obtain ⟨b1, o1, cap1, e, _, hca⟩ := HRap.at (i := i2) (by rw [Hla.out]; exact hA)
              rw [Hla.out] at e
              simp at e
              obtain ⟨rfl, rfl⟩ := e
              have k1 : wp.cell? ⟨b1, o1 + i2, none⟩ = some (.int .i64 (n1 : Int)) := by
                rw [hca i2 (by rw [Hla.out]; exact hA), ← f1, HAT.out]
                have hq2 : i2 < q := by omega
                simp [List.getD, hq2]
              clear hca HRap f1
              go_wp2_with fail
              go_loopg [18, 19] tl (fun gg4 s18 _ wr => ∃ j : Nat, i2 + 1 ≤ j ∧ j ≤ tl ∧ tl - j ≤ gg4 ∧ s18 = .int .i64 (j : Int) ∧ Hid (Below wp.heap.size wp wr))
              case atStart => exact ⟨i2 + 1, Nat.le_refl _, by omega, by omega, by go_num, ⟨Below.refl _ _⟩⟩
              case round =>
                obtain ⟨j, hj1, hj, hgg4, rfl, HBr⟩ := hrel
                rename World => wk
                by_cases hjn : j < tl
                · have hjnz : (j : Int) < (tl : Int) := by omega
                  obtain ⟨n2, hn2, f2, g2⟩ := first_at HGn'.out HP2.out (i := j) (by rw [HSl.out]; exact hjn)
                  have hle := shc_le (ord_at HO2.out (i := i2) (k := j) (by omega) (by rw [HSl.out]; exact hjn))
                  rw [← Hg1.out, ← g2] at hle
                  have hrt1 := HGr.out _ (getD_mem' (d := s0) (show n1 < G.length by rw [HGl.out]; exact hn1))
                  have hrt2 := HGr.out _ (getD_mem' (d := s0) hn2)
                  have HRgk : RdE sh3 3 s0 wk (.slice a5 i c5) G := HRg.out.far (Chg.ofBelow (X := []) (HB3.out.trans (HBr.out.mono HB3.out.size))) (by simp)
                  obtain ⟨bg, og, capg, e, hg1⟩ := HRgk.at' n1 (by rw [HGl.out]; exact hn1)
                  rw [HGl.out] at e
                  simp at e
                  obtain ⟨rfl, rfl⟩ := e
                  obtain ⟨bg2, og2, capg2, e, hg2⟩ := HRgk.at' n2 hn2
                  rw [HGl.out] at e hn2
                  simp at e
                  obtain ⟨⟨rfl, rfl⟩, rfl⟩ := e
                  rw [HT.out] at f2
                  have d0 : wk.cell? ⟨b2, o2 + j, none⟩ = some (.int .i64 (n2 : Int)) := (HBr.out.cell (p := ⟨b2, o2 + j, none⟩) (World.block_lt_of_cell? _ _ (HKT.out j (by rw [Htl.out]; exact hjn)))).trans (by rw [HKT.out j (by rw [Htl.out]; exact hjn), f2])
                  clear f2 g2 HRgk
                  generalize G.getD n1 s0 = X at hle hrt1 hg1
                  generalize G.getD n2 s0 = Y at hle hrt2 hg2
                  obtain ⟨y1, y2, y3⟩ := X
                  obtain ⟨z1, z2, z3⟩ := Y
                  obtain ⟨r1, r2, r3⟩ := hrt1
                  obtain ⟨r4, r5, r6⟩ := hrt2
                  simp only at r1 r2 r3 r4 r5 r6 hle
                  have d1 : wk.cell? ⟨bg, og + n1 * 3 + 1, none⟩ = some (.int .i64 y2) := hg1 1 (by decide)
                  have d2 : wk.cell? ⟨bg, og + n1 * 3 + 2, none⟩ = some (.int .i64 y3) := hg1 2 (by decide)
                  have d3 : wk.cell? ⟨bg, og + n2 * 3 + 1, none⟩ = some (.int .i64 z2) := hg2 1 (by decide)
                  have d4 : wk.cell? ⟨bg, og + n2 * 3 + 2, none⟩ = some (.int .i64 z3) := hg2 2 (by decide)
                  have hn2z : (n2 : Int) < (i : Int) := by omega
                  have u1 := prod_fit r1 (by omega : y3 ≤ 32768) (by omega : 0 ≤ max z2 1) (by omega)
                  have u2 := prod_fit r4 (by omega : z3 ≤ 32768) (by omega : 0 ≤ max y2 1) (by omega)
                  clear hg1 hg2
                  have hlx : ¬ z3 * max y2 1 < y3 * max z2 1 := Int.not_lt.2 hle
                  have e1 : IntKind.i64.wrap (y3 * max z2 1) = y3 * max z2 1 := IntWalk.i64_in _ ⟨by omega, by omega⟩
                  have e2 : IntKind.i64.wrap (z3 * max y2 1) = z3 * max y2 1 := IntWalk.i64_in _ ⟨by omega, by omega⟩
                  clear hle
                  go_upto_region 22 with fail
                  go_quiet (fail)
                  go_wp2_with fail
                  go_roundg (tl - (j + 1))
                  case measure => omega
                  case rel => exact ⟨j + 1, by omega, by omega, by omega, by go_num, ⟨below_drewN HBr.out nq⟩⟩
                · obtain rfl : tl = j := by omega
                  have HBz : Hid (Below w2.heap.size w2 wk) := ⟨HB3.out.trans (HBr.out.mono HB3.out.size)⟩
                  go_wp2_with fail
                  go_roundg (tl - (i2 + 1))
                  case measure => omega
                  case rel => exact ⟨i2 + 1, by omega, by omega, by go_num, HBz⟩
            · have hAz : ¬ (i2 : Int) < (la : Int) := by omega
              clear HRap f1
              go_wp2_with fail
              go_loopg [18, 19] tl (fun gg4 s18 _ wr => ∃ j : Nat, i2 + 1 ≤ j ∧ j ≤ tl ∧ tl - j ≤ gg4 ∧ s18 = .int .i64 (j : Int) ∧ Hid (Below wp.heap.size wp wr))
              case atStart => exact ⟨i2 + 1, Nat.le_refl _, by omega, by omega, by go_num, ⟨Below.refl _ _⟩⟩
              case round =>
                obtain ⟨j, hj1, hj, hgg4, rfl, HBr⟩ := hrel
                rename World => wk
                by_cases hjn : j < tl
                · have hjnz : (j : Int) < (tl : Int) := by omega
                  obtain ⟨n2, hn2, f2, g2⟩ := first_at HGn'.out HP2.out (i := j) (by rw [HSl.out]; exact hjn)
                  have hle := shc_le (ord_at HO2.out (i := i2) (k := j) (by omega) (by rw [HSl.out]; exact hjn))
                  rw [← Hg1.out, ← g2] at hle
                  have hrt1 := HGr.out _ (getD_mem' (d := s0) (show n1 < G.length by rw [HGl.out]; exact hn1))
                  have hrt2 := HGr.out _ (getD_mem' (d := s0) hn2)
                  have HRgk : RdE sh3 3 s0 wk (.slice a5 i c5) G := HRg.out.far (Chg.ofBelow (X := []) (HB3.out.trans (HBr.out.mono HB3.out.size))) (by simp)
                  obtain ⟨bg, og, capg, e, hg1⟩ := HRgk.at' n1 (by rw [HGl.out]; exact hn1)
                  rw [HGl.out] at e
                  simp at e
                  obtain ⟨rfl, rfl⟩ := e
                  obtain ⟨bg2, og2, capg2, e, hg2⟩ := HRgk.at' n2 hn2
                  rw [HGl.out] at e hn2
                  simp at e
                  obtain ⟨⟨rfl, rfl⟩, rfl⟩ := e
                  rw [HT.out] at f2
                  have d0 : wk.cell? ⟨b2, o2 + j, none⟩ = some (.int .i64 (n2 : Int)) := (HBr.out.cell (p := ⟨b2, o2 + j, none⟩) (World.block_lt_of_cell? _ _ (HKT.out j (by rw [Htl.out]; exact hjn)))).trans (by rw [HKT.out j (by rw [Htl.out]; exact hjn), f2])
                  clear f2 g2 HRgk
                  generalize G.getD n1 s0 = X at hle hrt1 hg1
                  generalize G.getD n2 s0 = Y at hle hrt2 hg2
                  obtain ⟨y1, y2, y3⟩ := X
                  obtain ⟨z1, z2, z3⟩ := Y
                  obtain ⟨r1, r2, r3⟩ := hrt1
                  obtain ⟨r4, r5, r6⟩ := hrt2
                  simp only at r1 r2 r3 r4 r5 r6 hle
                  have d1 : wk.cell? ⟨bg, og + n1 * 3 + 1, none⟩ = some (.int .i64 y2) := hg1 1 (by decide)
                  have d2 : wk.cell? ⟨bg, og + n1 * 3 + 2, none⟩ = some (.int .i64 y3) := hg1 2 (by decide)
                  have d3 : wk.cell? ⟨bg, og + n2 * 3 + 1, none⟩ = some (.int .i64 z2) := hg2 1 (by decide)
                  have d4 : wk.cell? ⟨bg, og + n2 * 3 + 2, none⟩ = some (.int .i64 z3) := hg2 2 (by decide)
                  have hn2z : (n2 : Int) < (i : Int) := by omega
                  have u1 := prod_fit r1 (by omega : y3 ≤ 32768) (by omega : 0 ≤ max z2 1) (by omega)
                  have u2 := prod_fit r4 (by omega : z3 ≤ 32768) (by omega : 0 ≤ max y2 1) (by omega)
                  clear hg1 hg2
                  have hlx : ¬ z3 * max y2 1 < y3 * max z2 1 := Int.not_lt.2 hle
                  have e1 : IntKind.i64.wrap (y3 * max z2 1) = y3 * max z2 1 := IntWalk.i64_in _ ⟨by omega, by omega⟩
                  have e2 : IntKind.i64.wrap (z3 * max y2 1) = z3 * max y2 1 := IntWalk.i64_in _ ⟨by omega, by omega⟩
                  clear hle
                  go_upto_region 22 with fail
                  go_quiet (fail)
                  go_wp2_with fail
                  go_roundg (tl - (j + 1))
                  case measure => omega
                  case rel => exact ⟨j + 1, by omega, by omega, by omega, by go_num, ⟨below_drewN HBr.out nq⟩⟩
                · obtain rfl : tl = j := by omega
                  have HBz : Hid (Below w2.heap.size w2 wk) := ⟨HB3.out.trans (HBr.out.mono HB3.out.size)⟩
                  go_wp2_with fail
                  go_roundg (tl - (i2 + 1))
                  case measure => omega
                  case rel => exact ⟨i2 + 1, by omega, by omega, by go_num, HBz⟩
          · obtain rfl : tl = i2 := by omega
            have HBp : Hid (Below w.heap.size w wp) := ⟨HB2.out.trans (HB3.out.mono HB2.out.size)⟩
            go_wp2_with fail
            refine (live_any (w := wp)).mono ?_
            rintro e w9 ⟨rfl, hB9⟩
            have HB9 : Hid (Below w.heap.size w w9) := ⟨HBp.out.trans (hB9.mono HBp.out.size)⟩
            clear hB9
            go_wp2_with fail
            go_ret
            exact ⟨rfl, HB9.out⟩
end
end Go.Proofs.Ytjcojpddjhjhbaa
