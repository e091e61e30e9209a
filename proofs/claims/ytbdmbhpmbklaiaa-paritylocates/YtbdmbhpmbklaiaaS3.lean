/- The group's shard at a point. -/
import Derived.Test.YtbdmbhpmbklaiaaS2
import Derived.Deep.RegionWith
namespace Go.Proofs.Ytbdmbhpmbklaiaa
open Go.RowKit Gf

theorem wts_get (l : List G) (x : G) {i : Nat} (h : i < l.length) : (wts l x).getD i 0 = wg l i x l.length := by rw [wg_wq]; simp [wts, List.getD, h]
theorem wts_len (l : List G) (x : G) : (wts l x).length = l.length := by simp [wts]
section
variable {w : World}
set_option maxHeartbeats 8000000 in
set_option maxRecDepth 100000 in
theorem shard39 {B : Nat × TypeId} (pa ra : Option Addr) (pn pc rn rc n : Nat) (pts : List G) (R : List Sd) (x : G) (hp : RdG w (.slice pa pn pc) pts) (hr : RdR w B (.slice ra rn rc) R) (hl : R.length = pts.length) (h0 : 0 < pts.length) (hm : pts.length ≤ 256) (hd : pts.Nodup) (hrow : ∀ j, j < R.length → (sl (R.getD j none)).length = n) (hn : n ≤ 4096) :
    Calls Try.prog 39 #[.agg #[.slice pa pn pc, .slice ra rn rc], .int .u8 (gi x)] w fun e w' => ∃ a c, e = .returned (.slice (some a) n c) ∧ OwnG w' w.heap.size (.slice (some a) n c) (grp pts R n x) ∧ Below w.heap.size w w' := by
  obtain ⟨w1, Hw1⟩ : ∃ w1, Hid (w.alloc (.cells #[.slice pa pn pc, .slice ra rn rc] 44) = w1) := ⟨_, ⟨rfl⟩⟩
  have HB1 : Hid (Below w.heap.size w w1) := ⟨by rw [← Hw1.out]; exact (Below.refl _ w).alloc (Nat.le_refl _) _⟩
  have HX1 : Hid (w1.heap[w.heap.size]? = some (.cells #[.slice pa pn pc, .slice ra rn rc] 44 (0, 0))) := ⟨by rw [← Hw1.out]; exact heap_alloc_new w _⟩
  obtain ⟨q, Hq⟩ : ∃ q, Hid (w.heap.size = q) := ⟨_, ⟨rfl⟩⟩
  obtain ⟨pb, po, pcc, ep, _, hpc⟩ := hp.at h0
  obtain ⟨rb, ro, rcc, er, _, hrc⟩ := hr.at (i := 0) (by omega)
  obtain ⟨k, Hk⟩ : ∃ k, Hid (pts.length = k) := ⟨_, ⟨rfl⟩⟩
  have HR := Hid.mk hr
  have HP := Hid.mk hp
  have HD := Hid.mk hd
  have HRow := Hid.mk hrow
  have HL := Hid.mk hl
  simp only [Value.slice.injEq] at ep er
  obtain ⟨rfl, rfl, rfl⟩ := ep
  obtain ⟨rfl, rfl, rfl⟩ := er
  rw [hl, Hk.out] at HR HX1 Hw1 ⊢
  rw [Hk.out] at HP h0 hm HL
  have HpL : Hid (pb < w.heap.size) := ⟨World.block_lt_of_cell? _ _ (hpc 0 (by rw [Hk.out]; exact h0))⟩
  have HrL : Hid (rb < w.heap.size) := ⟨by obtain ⟨_, _, h, _⟩ := hrc 0 (by rw [hl, Hk.out]; exact h0); exact World.block_lt_of_cell? _ _ h⟩
  have HR1 : Hid (RdR w1 B (.slice (some ⟨rb, ro, none⟩) k rc) R) := ⟨HR.out.below HB1.out⟩
  have HP1 : Hid (RdG w1 (.slice (some ⟨pb, po, none⟩) k pc) pts) := ⟨HP.out.far (Chg.ofBelow (X := []) HB1.out) (by simp)⟩
  obtain ⟨b2, o2, c2, e2, _, hr1⟩ := HR1.out.at (i := 0) (by rw [HL.out]; exact h0)
  simp only [Value.slice.injEq, Option.some.injEq, Addr.mk.injEq, and_true] at e2
  obtain ⟨⟨rfl, rfl⟩, -, rfl⟩ := e2
  obtain ⟨ua, uc, hu, _, _, _, _⟩ := hr1 0 (by rw [HL.out]; exact h0)
  rw [HRow.out 0 (by rw [HL.out]; exact h0), Nat.add_zero] at hu
  have c0 : w1.cell? ⟨q, 0, none⟩ = some (.slice (some ⟨pb, po, none⟩) k pc) := by rw [← Hq.out, cell_of_row _ _ _ _ _ _ HX1.out]; rfl
  have c1 : w1.cell? ⟨q, 1, none⟩ = some (.slice (some ⟨rb, ro, none⟩) k rc) := by rw [← Hq.out, cell_of_row _ _ _ _ _ _ HX1.out]; rfl
  have h0z : (0 : Int) < (k : Int) := by omega
  obtain ⟨xv, Hxv⟩ : ∃ r, Hid (gi x = r) := ⟨_, ⟨rfl⟩⟩
  rw [Hxv.out]
  clear hp hr hl hd hrow hpc hrc hr1
  go_enter Try.func39, Try.ntmps39
  go_upto_region 1 with fail
  rw [Hw1.out, Hq.out]
  go_upto_region 2 with (refine wp_makeZ rfl (.tmp 17) (.tmp 17) rfl n rfl rfl (by omega) ?_; intro w2 hO2 hB2; have HO2 := Hid.mk hO2; have HB2 := Hid.mk hB2; clear hO2 hB2)
  have HB02 : Hid (Below w.heap.size w w2) := ⟨HB1.out.trans (HB2.out.mono HB1.out.size)⟩
  have HOq : Hid (OwnG w2 w.heap.size (.slice (some ⟨w1.heap.size, 0, none⟩) n n) (List.replicate n 0)) := ⟨own_base HO2.out (fun g hg => by simp [Value.ownBlock] at hg; subst hg; exact HB1.out.size)⟩
  have Hg1 : Hid (w.heap.size < w1.heap.size) := ⟨(Array.getElem?_eq_some_iff.1 HX1.out).1⟩
  have HX2 : Hid (w2.heap[w.heap.size]? = some (.cells #[.slice (some ⟨pb, po, none⟩) k pc, .slice (some ⟨rb, ro, none⟩) k rc] 44 (0, 0))) := ⟨(HB2.out.block _ Hg1.out).trans HX1.out⟩
  obtain ⟨g, Hg⟩ : ∃ g, Hid (w1.heap.size = g) := ⟨_, ⟨rfl⟩⟩
  rw [Hg.out] at HOq Hg1 ⊢
  have t1 := idx46 (w := w2) _ pts x (HP1.out.far (Chg.ofBelow (X := []) HB2.out) (by simp)) (by rw [Hk.out]; exact h0)
  rw [Hxv.out] at t1
  rw [Hq.out] at HX2
  have d0 : w2.cell? ⟨q, 0, none⟩ = some (.slice (some ⟨pb, po, none⟩) k pc) := by rw [cell_of_row _ _ _ _ _ _ HX2.out]; rfl
  have d1 : w2.cell? ⟨q, 1, none⟩ = some (.slice (some ⟨rb, ro, none⟩) k rc) := by rw [cell_of_row _ _ _ _ _ _ HX2.out]; rfl
  clear c0 c1 hu HO2
  go_upto_region 3 with (go_at_call 46; refine t1.mono ?_; rintro e w3 ⟨z, rfl, hz, rfl⟩; have HZ := Hid.mk hz; clear hz)
  clear t1
  rcases HZ.out with ⟨rfl, hx⟩ | ⟨i, rfl, hi, hix⟩
  · clear HZ
    have t2 := weights21 (w := w2) x _ pts (HP1.out.far (Chg.ofBelow (X := []) HB2.out) (by simp)) (by rw [Hk.out]; exact hm)
    rw [Hxv.out] at t2
    clear hx
    go_wp2_with fail
    refine t2.mono ?_
    rintro e w4 ⟨v4, c4, rfl, hw4, hb4⟩
    obtain ⟨ho4, rfl⟩ : OwnG w4 w2.heap.size v4 (wts pts x) ∧ c4 = 0 := by
      rcases hw4 with ⟨_, h, h3⟩ | ⟨h, _⟩
      · exact ⟨h3, h⟩
      · exact absurd HD.out h
    obtain ⟨wb, wo', wcap, e4, _, hwc⟩ := ho4.rd.at (i := 0) (by rw [wts_len, Hk.out]; exact h0)
    rw [wts_len, Hk.out] at e4 hwc
    subst e4
    have HWl : Hid (w2.heap.size ≤ wb) := ⟨(ho4.lt wb (by simp [ob, Value.ownBlock])).1⟩
    have HO4 := Hid.mk ho4
    have HB4 := Hid.mk hb4
    have HOg : Hid (OwnG w4 w.heap.size (.slice (some ⟨g, 0, none⟩) n n) (accL pts R x n 0 0)) := ⟨by rw [← accL_start]; exact HOq.out.far (Chg.ofBelow (X := []) hb4) (by simp)⟩
    have Hgl : Hid (g < w2.heap.size) := ⟨(HOq.out.lt g (by simp [ob, Value.ownBlock])).2⟩
    have HX4 : Hid (w4.heap[q]? = some (.cells #[.slice (some ⟨pb, po, none⟩) k pc, .slice (some ⟨rb, ro, none⟩) k rc] 44 (0, 0))) := ⟨(hb4.block _ (Array.getElem?_eq_some_iff.1 HX2.out).1).trans HX2.out⟩
    have HB04 : Hid (Below w.heap.size w w4) := ⟨HB02.out.trans (hb4.mono HB02.out.size)⟩
    have HC4 : Hid (Chg [g] w4 w4) := ⟨Chg.refl _ _⟩
    clear t2 hw4 hb4 ho4 hwc d0 d1 HX2 HOq
    go_upto_region 8 with fail
    go_loopg [42] k (fun gg s42 wr => ∃ i : Nat, i ≤ k ∧ k - i ≤ gg ∧ s42 = .int .i64 (i : Int) ∧ Hid (OwnG wr w.heap.size (.slice (some ⟨g, 0, none⟩) n n) (accL pts R x n i 0)) ∧ Hid (Chg [g] w4 wr) ∧ Hid (Below w.heap.size w wr))
    case atStart => exact ⟨0, Nat.zero_le _, by omega, rfl, HOg, HC4, HB04⟩
    case round =>
      clear HOg HC4
      obtain ⟨i, hi, hgg, rfl, HOg, HC, HB⟩ := hrel
      rename World => wo
      by_cases hlt : i < k
      · have hltz : (i : Int) < (k : Int) := by omega
        have HXo : Hid (wo.heap[q]? = some (.cells #[.slice (some ⟨pb, po, none⟩) k pc, .slice (some ⟨rb, ro, none⟩) k rc] 44 (0, 0))) := ⟨(HC.out.block _ (Array.getElem?_eq_some_iff.1 HX4.out).1 (by have := Hg1.out; have := Hq.out; simp; omega)).trans HX4.out⟩
        have d1 : wo.cell? ⟨q, 1, none⟩ = some (.slice (some ⟨rb, ro, none⟩) k rc) := by rw [cell_of_row _ _ _ _ _ _ HXo.out]; rfl
        have HWo : Hid (RdG wo (.slice (some ⟨wb, wo', none⟩) k wcap) (wts pts x)) := ⟨HO4.out.rd.far HC.out (fun _ g' hg' hm => by simp [ob, Value.ownBlock] at hg' hm; have := HWl.out; have := Hgl.out; omega)⟩
        obtain ⟨b5, o5, c5, e5, _, hc5⟩ := HWo.out.at (i := i) (by rw [wts_len, Hk.out]; exact hlt)
        simp only [Value.slice.injEq, Option.some.injEq, Addr.mk.injEq, and_true] at e5
        obtain ⟨⟨rfl, rfl⟩, -, rfl⟩ := e5
        have f1 := hc5 i (by rw [wts_len, Hk.out]; exact hlt)
        rw [wts_get _ _ (by rw [Hk.out]; exact hlt), Hk.out] at f1
        have HRo : Hid (RdR wo B (.slice (some ⟨rb, ro, none⟩) k rc) R) := ⟨HR.out.below HB.out⟩
        obtain ⟨b6, o6, c6, e6, _, hc6⟩ := HRo.out.at (i := i) (by rw [HL.out]; exact hlt)
        simp only [Value.slice.injEq, Option.some.injEq, Addr.mk.injEq, and_true] at e6
        obtain ⟨⟨rfl, rfl⟩, -, rfl⟩ := e6
        obtain ⟨ua, uc, hu, _, _, _, hus⟩ := hc6 i (by rw [HL.out]; exact hlt)
        rw [HRow.out i (by rw [HL.out]; exact hlt)] at hu hus
        have HUS : Hid (RdS wo (wo.heap.size, B.2) (.slice ua n uc) (R.getD i none)) := ⟨hus.old⟩
        have HUold : Hid (∀ W, Below w.heap.size w W → RdG W (.slice ua n uc) (sl (R.getD i none))) := ⟨fun W hW => by
          obtain ⟨b7, o7, c7, e7, _, hc7⟩ := HR.out.at (i := i) (by rw [HL.out]; exact hlt)
          simp only [Value.slice.injEq, Option.some.injEq, Addr.mk.injEq, and_true] at e7
          obtain ⟨⟨rfl, rfl⟩, -, rfl⟩ := e7
          obtain ⟨va, vc, hv, _, _, _, hvs⟩ := hc7 i (by rw [HL.out]; exact hlt)
          have hv2 := (HB.out.cell (p := ⟨rb, ro + i, none⟩) HrL.out).trans hv
          rw [hu, HRow.out i (by rw [HL.out]; exact hlt)] at hv2
          simp only [Option.some.injEq, Value.slice.injEq, true_and] at hv2
          obtain ⟨rfl, rfl⟩ := hv2
          rw [HRow.out i (by rw [HL.out]; exact hlt)] at hvs
          exact hvs.rd.far (Chg.ofBelow (X := []) hW) (by simp)⟩
        have HrowL : Hid ((sl (R.getD i none)).length = n) := ⟨HRow.out i (by rw [HL.out]; exact hlt)⟩
        have HAS : Hid (∀ p, acc pts R x (i + 1) p = acc pts R x i p + wg pts i x k * (sl (R.getD i none)).getD p 0) := ⟨fun p => by rw [acc_succ, Hk.out]⟩
        obtain ⟨WG, HWG⟩ : ∃ r, Hid (wg pts i x k = r) := ⟨_, ⟨rfl⟩⟩
        rw [HWG.out] at f1 HAS
        obtain ⟨wv, Hwv⟩ : ∃ r, Hid (gi WG = r) := ⟨_, ⟨rfl⟩⟩
        rw [Hwv.out] at f1
        clear hc5 hc6 hus
        go_upto_region 11 with fail
        go_loopg [53] n (fun gg2 s53 wr => ∃ p : Nat, p ≤ n ∧ n - p ≤ gg2 ∧ s53 = .int .i64 (p : Int) ∧ Hid (OwnG wr w.heap.size (.slice (some ⟨g, 0, none⟩) n n) (accL pts R x n i p)) ∧ Hid (Chg [g] w4 wr) ∧ Hid (Below w.heap.size w wr))
        case atStart => exact ⟨0, Nat.zero_le _, by omega, rfl, HOg, HC, HB⟩
        case round =>
          clear HOg HC HB d1 f1 hu HXo HWo HRo HUS
          obtain ⟨p, hp, hgg2, rfl, HOg, HC, HB⟩ := hrel
          rename World => wk
          by_cases hpn : p < n
          · have hpnz : (p : Int) < (n : Int) := by omega
            obtain ⟨b8, o8, c8, e8, _, hc8⟩ := (HUold.out wk HB.out).at (i := p) (by rw [HrowL.out]; exact hpn)
            rw [HrowL.out] at e8
            simp only [Value.slice.injEq] at e8
            obtain ⟨rfl, -, rfl⟩ := e8
            have f2 := hc8 p (by rw [HrowL.out]; exact hpn)
            have f3 := HOg.out.cellAt (j := p) (by rw [accL_len]; exact hpn)
            rw [accL_at pts R x i hpn] at f3
            have f4 := HOg.out.frozenAt p
            have hdr := (Chg.refl ([] : List Nat) wk).drew
            have HSt : Hid (OwnG (wk.drew.setCell ⟨g, p, none⟩ (.int .u8 (gi (acc pts R x (i + 1) p)))) w.heap.size (.slice (some ⟨g, 0, none⟩) n n) (accL pts R x n i (p + 1))) := ⟨by rw [← accL_step]; exact (HOg.out.far hdr (by simp)).stored p _⟩
            have t := fun w => mul13 WG ((sl (R.getD i none)).getD p 0) w
            have hxr := gi_xor (acc pts R x i p) (WG * (sl (R.getD i none)).getD p 0)
            rw [← HAS.out p] at hxr
            rw [Hwv.out] at t
            obtain ⟨a4, Ha4⟩ : ∃ r, Hid (gi (acc pts R x (i + 1) p) = r) := ⟨_, ⟨rfl⟩⟩
            rw [Ha4.out] at hxr HSt
            generalize gi (acc pts R x i p) = a1 at f3 hxr
            generalize gi (WG * (sl (R.getD i none)).getD p 0) = a3 at t hxr
            generalize gi ((sl (R.getD i none)).getD p 0) = a2 at f2 t
            have HC' : Hid (Chg [g] w4 (wk.drew.setCell ⟨g, p, none⟩ (.int .u8 a4))) := ⟨HC.out.drew.setCell (.inl (by simp)) _⟩
            have HB' : Hid (Below w.heap.size w (wk.drew.setCell ⟨g, p, none⟩ (.int .u8 a4))) := ⟨(below_drewN HB.out 1).setCell (p := ⟨g, p, none⟩) (by have := Hg1.out; simp; omega) _⟩
            clear hc8 hdr
            go_upto_region 13 with fail
            go_region_with (go_at_call 48; refine (t _).mono ?_; rintro e w' ⟨rfl, rfl⟩)
            all_goals
              go_wp2_with fail
              go_roundg (n - (p + 1))
              case measure => omega
              case rel => exact ⟨p + 1, by omega, by omega, by go_num, HSt, HC', HB'⟩
          · obtain rfl : n = p := by omega
            rw [accL_full] at HOg
            go_wp2_with fail
            go_roundg (k - (i + 1))
            case measure => omega
            case rel => exact ⟨i + 1, by omega, by omega, by go_num, HOg, HC, HB⟩
      · obtain rfl : k = i := by omega
        rw [accL_zero] at HOg
        have HG : Hid ((List.range n).map (acc pts R x k) = grp pts R n x) := ⟨by rw [← Hk.out]; exact acc_grp pts R n x⟩
        rw [HG.out] at HOg
        go_wp2_with fail
        go_ret
        exact ⟨_, _, rfl, HOg.out, HB.out⟩
  · clear HZ
    have hik : i < k := by rw [← Hk.out]; exact hi
    have hikz : (i : Int) < (k : Int) := by omega
    have hi0 : (0 : Int) ≤ (i : Int) := by omega
    have HRo : Hid (RdR w2 B (.slice (some ⟨rb, ro, none⟩) k rc) R) := ⟨HR.out.below HB02.out⟩
    obtain ⟨b6, o6, c6, e6, _, hc6⟩ := HRo.out.at (i := i) (by rw [HL.out]; exact hik)
    simp only [Value.slice.injEq, Option.some.injEq, Addr.mk.injEq, and_true] at e6
    obtain ⟨⟨rfl, rfl⟩, -, rfl⟩ := e6
    obtain ⟨ua, uc, hu, _, _, _, hus⟩ := hc6 i (by rw [HL.out]; exact hik)
    have hrn := HRow.out i (by rw [HL.out]; exact hik)
    rw [hrn] at hu hus
    have HG : Hid (grp pts R n x = sl (R.getD i none)) := ⟨by rw [← hix]; exact grp_at HD.out R hi hrn⟩
    have HU := Hid.mk hus.rd
    have Hrn := Hid.mk hrn
    clear hi hix hc6 hus hrn
    go_upto_region 5 with (refine wp_copyG rfl (.tmp 25) (.tmp 30) rfl rfl HOq.out rfl HU.out Hrn.out w HB02.out ?_; intro w5 hO5 hB5; have HO5 := Hid.mk hO5; have HB5 := Hid.mk hB5; clear hO5 hB5)
    go_wp2_with fail
    go_ret
    exact ⟨_, _, rfl, by rw [HG.out]; exact HO5.out, HB5.out⟩
end
end Go.Proofs.Ytbdmbhpmbklaiaa
