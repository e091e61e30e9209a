/- The walk of CodeBest. -/
import Derived.Test.YtfecngncapenjaaHB
import Derived.Test.YtfecngncapenjaaV3
import Derived.Test.YtfecngncapenjaaV4
namespace Go.Proofs.Ytfecngncapenjaa
open Go.RowKit Oct

section
variable {w : World}
set_option maxHeartbeats 16000000 in
set_option maxRecDepth 100000 in
theorem best_core (f g : List Int) (hf : f.length = 256) (hg : g.length = 256) : Calls Try.prog 5 #[.agg (ia f), .agg (ia g)] w fun e w' => e = .returned (.bool true) ∧ Below w.heap.size w w' := by
  have HF := Hid.mk hf
  have HG := Hid.mk hg
  obtain ⟨q, Hq⟩ : ∃ q, Hid (w.heap.size = q) := ⟨_, ⟨rfl⟩⟩
  obtain ⟨w1, Hw1, HX1, HB1, HS1⟩ := bx22 w f
  obtain ⟨w2, Hw2, HY2, HB2, HS2⟩ := bx22 w1 g
  have HX2 := Hid.mk (below_at HB2.out HX1.out)
  have HB2' : Hid (Below w.heap.size w w2) := ⟨HB1.out.trans (HB2.out.mono HB1.out.size)⟩
  rw [Hq.out] at HX2 HS1
  rw [HS1.out] at HY2
  have HR : Hid (∀ wx, Below w2.heap.size w2 wx → wx.heap[q]? = some (.cells (ia f) 22 (0, 0)) ∧ wx.heap[q + 1]? = some (.cells (ia g) 22 (0, 0)) ∧ Below w.heap.size w wx) := ⟨fun wx h => ⟨below_at h HX2.out, below_at h HY2.out, HB2'.out.trans (h.mono HB2'.out.size)⟩⟩
  obtain ⟨A, HA⟩ : ∃ A, Hid (ia f = A) := ⟨_, ⟨rfl⟩⟩
  obtain ⟨B, HBb⟩ : ∃ B, Hid (ia g = B) := ⟨_, ⟨rfl⟩⟩
  have HI : Hid ((Try.prog.info? 22).map (·.size) = some A.size) := ⟨by rw [← HA.out]; exact info22f hf⟩
  have HJ : Hid ((Try.prog.info? 22).map (·.size) = some B.size) := ⟨by rw [← HBb.out]; exact info22f hg⟩
  have t9n := lengths9_no (w := w2) f hf
  have t9y := lengths9_ok (w := w2) f hf
  have t14 := fun W : World => cost14 (w := W) f g hf hg
  have t15 := fun W : World => rcost15 (w := W) f g hf hg
  have tw := fun (W : World) => words12_ok (w := W) g hg
  have tn := fun (W : World) => words12_no (w := W) g hg
  have tl := fun (W : World) => live11 (w := W)
  obtain ⟨c, Hc⟩ : ∃ c, Hid (cst f g 256 = c) := ⟨_, ⟨rfl⟩⟩
  rw [HA.out] at Hw1 HR t9n t9y t14 t15
  rw [HBb.out] at Hw2 HR t14 t15 tw tn
  rw [HA.out, HBb.out]
  have T14 := Hid.mk t14
  have T15 := Hid.mk t15
  have Tw := Hid.mk tw
  have Tn := Hid.mk tn
  have Tl := Hid.mk tl
  clear hf hg HX1 HX2 HY2 HB1 HB2 HB2' HS2 t14 t15 tw tn tl
  go_enter Try.func5, Try.ntmps5
  go_upto_region 1 with (first | (refine wp_box rfl 22 (.tmp 0) rfl A rfl ?_; rw [Hw1.out]) | (refine wp_box rfl 22 (.tmp 1) rfl B rfl ?_; rw [Hw2.out]))
  rw [HS1.out, Hq.out]
  have HR2 := Hid.mk (HR.out w2 (Below.refl _ _))
  go_wp2_with (refine wp_load rfl 22 (.tmp 2) rfl q rfl A 22 (0, 0) _ HR2.out.1 Try.underlying22 rfl HI.out ?_)
  cases hbad : f.any bad with
  | true =>
    refine (t9n hbad).mono ?_
    rintro e w3 ⟨rfl, hB3⟩
    have HB3 := Hid.mk hB3
    clear hB3 t9n t9y
    obtain ⟨r, Hr⟩ : ∃ q, Hid (w3.heap.size = q) := ⟨_, ⟨rfl⟩⟩
    obtain ⟨w4, Hw4, HL4, HB4⟩ := al22 w3 z0
    rw [Hr.out] at Hw4 HL4
    have HX4 : Hid (Below w2.heap.size w2 w4) := ⟨HB3.out.trans (HB4.out.mono HB3.out.size)⟩
    have HR4 := Hid.mk (HR.out w4 HX4.out)
    have HLl : Hid ((z0).length = 256) := ⟨z0_len⟩
    go_upto_region 2 with (first | (refine wp_new22 rfl rfl ?_; rw [Hr.out]) | (refine wp_put22 (f := z0) (g := z0) rfl (.tmp 5) (.tmp 16) rfl rfl rfl z0_len HLl.out (by rw [← Hr.out]; exact heap_alloc_new w3 _) ?_; rw [Hw4.out]))
    go_wp2_with (first | (refine wp_load rfl 22 (.tmp 2) rfl q rfl A 22 (0, 0) _ HR4.out.1 Try.underlying22 rfl HI.out ?_) | (refine wp_load rfl 22 (.tmp 3) rfl (q + 1) rfl B 22 (0, 0) _ HR4.out.2.1 Try.underlying22 rfl HJ.out ?_))
    refine (T14.out w4).mono ?_
    rintro e w5 ⟨rfl, hB5⟩
    have HX5 : Hid (Below w2.heap.size w2 w5) := ⟨HX4.out.trans (hB5.mono HX4.out.size)⟩
    have HL5 := Hid.mk (below_at hB5 HL4.out)
    have HR5 := Hid.mk (HR.out w5 HX5.out)
    clear hB5 HL4 HR4
    go_wp2_with (first | (refine wp_load rfl 22 (.tmp 2) rfl q rfl A 22 (0, 0) _ HR5.out.1 Try.underlying22 rfl HI.out ?_) | (refine wp_load rfl 22 (.tmp 3) rfl (q + 1) rfl B 22 (0, 0) _ HR5.out.2.1 Try.underlying22 rfl HJ.out ?_))
    refine (T15.out w5).mono ?_
    rintro e w6 ⟨rfl, hB6⟩
    have HX6 : Hid (Below w2.heap.size w2 w6) := ⟨HX5.out.trans (hB6.mono HX5.out.size)⟩
    have HL6 := Hid.mk (below_at hB6 HL5.out)
    have HR6 := Hid.mk (HR.out w6 HX6.out)
    clear hB6 HL5 HR5
    rw [Hc.out]
    have hcc : (c != c) = false := by simp
    go_wp2_with fail
    refine (Tl.out _).mono ?_
    rintro e wl ⟨rfl, hBl⟩
    have HBl : Hid (Below w.heap.size w wl) := ⟨(HR.out _ HX6.out).2.2.trans (hBl.mono (HR.out _ HX6.out).2.2.size)⟩
    clear hBl
    go_wp2_with fail
    go_ret
    exact ⟨rfl, HBl.out⟩
  | false =>
    refine (t9y hbad).mono ?_
    rintro e w3 ⟨l, rfl, hL, hB3⟩
    have HB3 := Hid.mk hB3
    have HLs := Hid.mk hL
    have HGd : Hid (Good f l) := ⟨hL.good (T0_fine HF.out hbad)⟩
    have Hbad := Hid.mk hbad
    clear hB3 t9n t9y hL hbad
    obtain ⟨r, Hr⟩ : ∃ q, Hid (w3.heap.size = q) := ⟨_, ⟨rfl⟩⟩
    obtain ⟨w4, Hw4, HL4, HB4⟩ := al22 w3 l
    rw [Hr.out] at Hw4 HL4
    have HX4 : Hid (Below w2.heap.size w2 w4) := ⟨HB3.out.trans (HB4.out.mono HB3.out.size)⟩
    have HR4 := Hid.mk (HR.out w4 HX4.out)
    have HLl : Hid ((l).length = 256) := ⟨HLs.out.len⟩
    go_upto_region 2 with (first | (refine wp_new22 rfl rfl ?_; rw [Hr.out]) | (refine wp_put22 (f := z0) (g := l) rfl (.tmp 5) (.tmp 16) rfl rfl rfl z0_len HLl.out (by rw [← Hr.out]; exact heap_alloc_new w3 _) ?_; rw [Hw4.out]))
    go_wp2_with (first | (refine wp_load rfl 22 (.tmp 2) rfl q rfl A 22 (0, 0) _ HR4.out.1 Try.underlying22 rfl HI.out ?_) | (refine wp_load rfl 22 (.tmp 3) rfl (q + 1) rfl B 22 (0, 0) _ HR4.out.2.1 Try.underlying22 rfl HJ.out ?_))
    refine (T14.out w4).mono ?_
    rintro e w5 ⟨rfl, hB5⟩
    have HX5 : Hid (Below w2.heap.size w2 w5) := ⟨HX4.out.trans (hB5.mono HX4.out.size)⟩
    have HL5 := Hid.mk (below_at hB5 HL4.out)
    have HR5 := Hid.mk (HR.out w5 HX5.out)
    clear hB5 HL4 HR4
    go_wp2_with (first | (refine wp_load rfl 22 (.tmp 2) rfl q rfl A 22 (0, 0) _ HR5.out.1 Try.underlying22 rfl HI.out ?_) | (refine wp_load rfl 22 (.tmp 3) rfl (q + 1) rfl B 22 (0, 0) _ HR5.out.2.1 Try.underlying22 rfl HJ.out ?_))
    refine (T15.out w5).mono ?_
    rintro e w6 ⟨rfl, hB6⟩
    have HX6 : Hid (Below w2.heap.size w2 w6) := ⟨HX5.out.trans (hB6.mono HX5.out.size)⟩
    have HL6 := Hid.mk (below_at hB6 HL5.out)
    have HR6 := Hid.mk (HR.out w6 HX6.out)
    clear hB6 HL5 HR5
    rw [Hc.out]
    have hcc : (c != c) = false := by simp
    obtain ⟨Z, HZ⟩ : ∃ Z, Hid (ia l = Z) := ⟨_, ⟨rfl⟩⟩
    have HK : Hid ((Try.prog.info? 22).map (·.size) = some Z.size) := ⟨by rw [← HZ.out]; exact info22f HLl.out⟩
    have t7 := words12_ok (w := w6) l HLl.out HGd.out.room
    have T14l := Hid.mk (fun W : World => cost14 (w := W) f l HF.out HLl.out)
    rw [HZ.out] at t7 HL6 T14l ⊢
    rw [HA.out] at T14l
    go_wp2_with (refine wp_load rfl 22 (.tmp 5) rfl r rfl Z 22 (0, 0) _ HL6.out Try.underlying22 rfl HK.out ?_)
    refine t7.mono ?_
    rintro e w7 ⟨rfl, hB7⟩
    have HX7 : Hid (Below w2.heap.size w2 w7) := ⟨HX6.out.trans (hB7.mono HX6.out.size)⟩
    have HL7 := Hid.mk (below_at hB7 HL6.out)
    obtain ⟨s, Hs⟩ : ∃ q, Hid (w7.heap.size = q) := ⟨_, ⟨rfl⟩⟩
    obtain ⟨w8, Hw8, HS8, HB8⟩ := al28 w7 (ws l)
    rw [Hs.out] at Hw8
    have HX8 : Hid (Below w2.heap.size w2 w8) := ⟨HX7.out.trans (HB8.out.mono HX7.out.size)⟩
    have HL8 := Hid.mk (below_at HB8.out HL7.out)
    have HR8 := Hid.mk (HR.out w8 HX8.out)
    clear t7 hB7 HL6 HL7 HR6 HS8
    go_upto_region 8 with (first | (refine wp_new28 rfl rfl ?_; rw [Hs.out]) | (refine wp_put28 (f := e0) (g := ws l) rfl (.tmp 8) (.tmp 32) rfl rfl rfl e0_len (wls_len l 61 0) (by rw [← Hs.out]; exact heap_alloc_new w7 _) ?_; rw [Hw8.out]))
    go_wp2_with (refine wp_load rfl 22 (.tmp 3) rfl (q + 1) rfl B 22 (0, 0) _ HR8.out.2.1 Try.underlying22 rfl HJ.out ?_)
    cases hroom : hr g with
    | false =>
      refine (Tn.out w8 hroom).mono ?_
      rintro e w9 ⟨rfl, hB9⟩
      have HX9 : Hid (Below w2.heap.size w2 w9) := ⟨HX8.out.trans (hB9.mono HX8.out.size)⟩
      obtain ⟨u, Hu⟩ : ∃ q, Hid (w9.heap.size = q) := ⟨_, ⟨rfl⟩⟩
      obtain ⟨w10, Hw10, _, HB10⟩ := al28 w9 e0
      rw [Hu.out] at Hw10
      have HX10 : Hid (Below w2.heap.size w2 w10) := ⟨HX9.out.trans (HB10.out.mono HX9.out.size)⟩
      clear hB9 hroom
      go_upto_region 11 with (first | (refine wp_new28 rfl rfl ?_; rw [Hu.out]) | (refine wp_put28 (f := e0) (g := e0) rfl (.tmp 10) (.tmp 39) rfl rfl rfl e0_len e0_len (by rw [← Hu.out]; exact heap_alloc_new w9 _) ?_; rw [Hw10.out]))
      go_wp2_with fail
      refine (Tl.out _).mono ?_
      rintro e wl ⟨rfl, hBl⟩
      have HBl : Hid (Below w.heap.size w wl) := ⟨(HR.out _ HX10.out).2.2.trans (hBl.mono (HR.out _ HX10.out).2.2.size)⟩
      clear hBl
      go_wp2_with fail
      go_ret
      exact ⟨rfl, HBl.out⟩
    | true =>
      have Hroom := Hid.mk hroom
      refine (Tw.out w8 hroom).mono ?_
      rintro e w9 ⟨rfl, hB9⟩
      have HX9 : Hid (Below w2.heap.size w2 w9) := ⟨HX8.out.trans (hB9.mono HX8.out.size)⟩
      have HL9 := Hid.mk (below_at hB9 HL8.out)
      obtain ⟨u, Hu⟩ : ∃ q, Hid (w9.heap.size = q) := ⟨_, ⟨rfl⟩⟩
      obtain ⟨w10, Hw10, _, HB10⟩ := al28 w9 (ws g)
      rw [Hu.out] at Hw10
      have HX10 : Hid (Below w2.heap.size w2 w10) := ⟨HX9.out.trans (HB10.out.mono HX9.out.size)⟩
      have HL10 := Hid.mk (below_at HB10.out HL9.out)
      have HR10 := Hid.mk (HR.out w10 HX10.out)
      clear hB9 hroom HL8 HL9 HR8
      go_upto_region 11 with (first | (refine wp_new28 rfl rfl ?_; rw [Hu.out]) | (refine wp_put28 (f := e0) (g := ws g) rfl (.tmp 10) (.tmp 39) rfl rfl rfl e0_len (wls_len g 61 0) (by rw [← Hu.out]; exact heap_alloc_new w9 _) ?_; rw [Hw10.out]))
      go_upto_region 14 with fail
      go_loopg [12] 256 (fun gg s12 wr => ∃ k : Nat, k ≤ 256 ∧ 256 - k ≤ gg ∧ s12 = .int .i64 (k : Int) ∧ Hid (w10 = wr) ∧ Hid (∀ i, i < k → 0 < f.getD i 0 → g.getD i 0 ≠ 0))
      case atStart => exact ⟨0, Nat.zero_le _, by omega, rfl, ⟨rfl⟩, ⟨fun i hi => by omega⟩⟩
      case round =>
        obtain ⟨k, hk, hgg, rfl, HW, HCv⟩ := hrel
        rename World => wo
        have hw := HW.out
        subst hw
        clear HW
        by_cases hlt : k < 256
        · have hltz : (k : Int) < 256 := by omega
          have d1 : w10.cell? ⟨q, k, none⟩ = some (.int .i64 (f.getD k 0)) := by rw [cell_of_row _ _ _ _ _ _ HR10.out.1, ← HA.out]; exact ia_get (by rw [HF.out]; exact hlt)
          have d2 : w10.cell? ⟨q + 1, k, none⟩ = some (.int .i64 (g.getD k 0)) := by rw [cell_of_row _ _ _ _ _ _ HR10.out.2.1, ← HBb.out]; exact ia_get (by rw [HG.out]; exact hlt)
          obtain ⟨x, Hx⟩ : ∃ x, Hid (f.getD k 0 = x) := ⟨_, ⟨rfl⟩⟩
          obtain ⟨y, Hy⟩ : ∃ x, Hid (g.getD k 0 = x) := ⟨_, ⟨rfl⟩⟩
          rw [Hx.out] at d1
          rw [Hy.out] at d2
          by_cases hx : 0 < x
          · by_cases hy : y = 0
            · subst hy
              go_wp2_with fail
              refine (Tl.out _).mono ?_
              rintro e wl ⟨rfl, hBl⟩
              have HBl : Hid (Below w.heap.size w wl) := ⟨(HR.out _ HX10.out).2.2.trans (hBl.mono (HR.out _ HX10.out).2.2.size)⟩
              clear hBl
              go_wp2_with fail
              go_ret
              exact ⟨rfl, HBl.out⟩
            · have hyb : (y == 0) = false := by simpa using hy
              go_wp2_with fail
              go_roundg (256 - (k + 1))
              case measure => omega
              case rel =>
                refine ⟨k + 1, by omega, by omega, by go_num, ⟨rfl⟩, ⟨fun i hi h => ?_⟩⟩
                by_cases e : i = k
                · rw [e, Hy.out]; exact hy
                · exact HCv.out i (by omega) h
          · go_wp2_with fail
            go_roundg (256 - (k + 1))
            case measure => omega
            case rel =>
              refine ⟨k + 1, by omega, by omega, by go_num, ⟨rfl⟩, ⟨fun i hi h => ?_⟩⟩
              by_cases e : i = k
              · rw [e, Hx.out] at h; omega
              · exact HCv.out i (by omega) h
        · obtain rfl : k = 256 := by omega
          have Hle : Hid (cst f l 256 ≤ c) := ⟨by rw [← Hc.out]; exact best_le HF.out Hbad.out HLs.out Hroom.out HG.out HCv.out⟩
          go_wp2_with fail
          refine (Tl.out _).mono ?_
          rintro e wl ⟨rfl, hBl⟩
          have HXl : Hid (Below w2.heap.size w2 wl) := ⟨HX10.out.trans (hBl.mono HX10.out.size)⟩
          have HLl2 := Hid.mk (below_at hBl HL10.out)
          have HRl := Hid.mk (HR.out wl HXl.out)
          have hl1 := load22 HF.out (by rw [HA.out]; exact HRl.out.1)
          have hl2 := load22 HLl.out (by rw [HZ.out]; exact HLl2.out)
          rw [HA.out] at hl1
          rw [HZ.out] at hl2
          clear hBl
          go_wp2_with fail
          refine op_load 22 (.tmp 2) rfl q rfl hl1 ?_
          go_wp2_with fail
          refine op_load 22 (.tmp 5) rfl r rfl hl2 ?_
          go_wp2_with fail
          refine (T14l.out wl).mono ?_
          rintro e wm ⟨rfl, hBm⟩
          have HBm : Hid (Below w.heap.size w wm) := ⟨HRl.out.2.2.trans (hBm.mono HRl.out.2.2.size)⟩
          have hle := Hle.out
          clear hBm hl1 hl2
          go_wp2_with fail
          go_ret
          exact ⟨rfl, HBm.out⟩
end
theorem walk_codeBest (v0 : Value) (b0 : List Int) (v1 : Value) (b1 : List Int) (W : World) (h0 : v0 = .agg (ia b0) ∧ b0.length = 256) (h1 : v1 = .agg (ia b1) ∧ b1.length = 256) : Calls Try.prog 5 #[v0, v1] W fun e w' => e = .returned (.bool true) ∧ Below W.heap.size W w' := by
  obtain ⟨rfl, hf⟩ := h0
  obtain ⟨rfl, hg⟩ := h1
  exact best_core b0 b1 hf hg
end Go.Proofs.Ytfecngncapenjaa
