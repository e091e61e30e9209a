/- The document's Take. -/
import Derived.Test.YtfecngncapenjaaBB
namespace Go.Proofs.Ytfecngncapenjaa
open Go.RowKit Oct Go.Lib

theorem TkS.e1 {b : List Int} {most s a z : Int} (hK : tkNum b 0 = (s, a, z)) (hz : z ≠ 0) : TkS b most ([], z) := by
  have h : tkSize b most = (0, 0, z) := by unfold tkSize; rw [hK]; exact if_neg hz
  unfold TkS
  rw [h, if_pos hz]
theorem TkS.e2 {b : List Int} {most s a : Int} (hK : tkNum b 0 = (s, a, 0)) (h : most < s ∨ 8192 < s) : TkS b most ([], 6) := by
  have h : tkSize b most = (0, 0, 6) := by unfold tkSize; rw [hK]; exact (if_pos rfl).trans (if_pos h)
  unfold TkS
  rw [h, if_pos (by decide)]
theorem tkSize_eq {b : List Int} {most : Int} {s a : Nat} (hK : tkNum b 0 = ((s : Int), (a : Int), 0)) (h : ¬ (most < s ∨ 8192 < (s : Int))) : tkSize b most = ((s : Int), (a : Int), 0) := by
  unfold tkSize; rw [hK]; exact (if_pos rfl).trans (if_neg h)
theorem TkS.of {b : List Int} {most : Int} {s a : Nat} (hK : tkNum b 0 = ((s : Int), (a : Int), 0)) (h : ¬ (most < s ∨ 8192 < (s : Int))) {f : List Int} {p z : Int} (hT : tkTable b a s = (f, p, z)) (r : List Int × Int) :
    TkS b most r = (if z ≠ 0 then r = ([], z) else if hr f = false then r = ([], 2) else Rs (wbt f) (b.drop p.toNat) s 0 [] r) := by
  unfold TkS
  rw [tkSize_eq hK h]
  simp only [Int.toNat_natCast]
  rw [hT]
  simp
theorem TkS.e3 {b : List Int} {most : Int} {s a : Nat} (hK : tkNum b 0 = ((s : Int), (a : Int), 0)) (h : ¬ (most < s ∨ 8192 < (s : Int))) {c p z : Int} (hK2 : tkNum b a = (c, p, z)) (hz : z ≠ 0) : TkS b most ([], z) := by
  have hT : tkTable b a s = (z0, 0, z) := by unfold tkTable; rw [hK2]; exact if_neg hz
  rw [TkS.of hK h hT, if_pos hz]
theorem TkS.e4 {b : List Int} {most : Int} {s a : Nat} (hK : tkNum b 0 = ((s : Int), (a : Int), 0)) (h : ¬ (most < s ∨ 8192 < (s : Int))) {c p : Nat} (hK2 : tkNum b a = ((c : Int), (p : Int), 0)) (hb : 256 < c ∨ (c = 0 ∧ s ≠ 0) ∨ (c ≠ 0 ∧ s = 0)) : TkS b most ([], 4) := by
  have hT : tkTable b a s = (z0, 0, 4) := by unfold tkTable; rw [hK2]; exact (if_pos rfl).trans (if_pos (by simp only; omega))
  rw [TkS.of hK h hT, if_pos (by decide)]
theorem TkS.e5 {b : List Int} {most : Int} {s a : Nat} (hK : tkNum b 0 = ((s : Int), (a : Int), 0)) (h : ¬ (most < s ∨ 8192 < (s : Int))) {c p : Nat} (hK2 : tkNum b a = ((c : Int), (p : Int), 0)) (hb : ¬ (256 < c ∨ (c = 0 ∧ s ≠ 0) ∨ (c ≠ 0 ∧ s = 0))) (r : List Int × Int) :
    TkS b most r = (if (tkRows b c p (-1) z0).2.2 ≠ 0 then r = ([], (tkRows b c p (-1) z0).2.2) else if hr (tkRows b c p (-1) z0).1 = false then r = ([], 2) else Rs (wbt (tkRows b c p (-1) z0).1) (b.drop (tkRows b c p (-1) z0).2.1.toNat) s 0 [] r) := by
  have hT : tkTable b a s = ((tkRows b c p (-1) z0).1, (tkRows b c p (-1) z0).2.1, (tkRows b c p (-1) z0).2.2) := by
    unfold tkTable; rw [hK2]; exact (if_pos rfl).trans ((if_neg (by simp only; omega)).trans (by simp only [Int.toNat_natCast]))
  rw [TkS.of hK h hT]
section
variable {w : World}
set_option maxHeartbeats 32000000 in
set_option maxRecDepth 100000 in
theorem rtake19 (v : Value) (b : List Int) (most : Int) (hv : RdY w v b) (hb : By b) (hlm : b.length ≤ 1000000) :
    Calls Try.prog 19 #[v, .int .i64 most] w fun e w' => ∃ v' out z, e = .returned (.tuple #[v', .int .i64 z]) ∧ TkS b most (out, z) ∧ OwnY w' w.heap.size v' out ∧ Below w.heap.size w w' := by
  have HV := Hid.mk hv
  have HBy := Hid.mk hb
  have t1 := rtakeNum_any v b 0 w (rdy_bs hv) hb
  obtain ⟨PS, HPS⟩ : ∃ x, Hid (TkS b most = x) := ⟨_, ⟨rfl⟩⟩
  rw [HPS.out]
  have HOk : Hid ((tkNum b 0).2.2 = 0 → 0 ≤ (tkNum b 0).1 ∧ (tkNum b 0).1 ≤ 9007199254740991 ∧ 0 < (tkNum b 0).2.1 ∧ (tkNum b 0).2.1 ≤ b.length) := ⟨fun h => by have := tkNum_ok b _ hb h; omega⟩
  obtain ⟨K, HK⟩ : ∃ x, Hid (tkNum b 0 = x) := ⟨_, ⟨rfl⟩⟩
  rw [HK.out] at t1 HOk
  obtain ⟨s, a, z⟩ := K
  simp only at t1 HOk
  obtain ⟨va, vc, e, hvc, hvm, _⟩ := hv.shape
  subst e
  obtain ⟨n, Hn⟩ : ∃ x, Hid (b.length = x) := ⟨_, ⟨rfl⟩⟩
  rw [Hn.out] at HV t1 hvc hlm HOk ⊢
  by_cases hz : z = 0
  · subst hz
    obtain ⟨hs0, hs1, ha0, ha1⟩ := HOk.out rfl
    obtain ⟨sz, rfl⟩ := Int.eq_ofNat_of_zero_le hs0
    obtain ⟨a1, rfl⟩ := Int.eq_ofNat_of_zero_le (Int.le_of_lt ha0)
    obtain ⟨g, off, c', e', _, hat⟩ := hv.at (i := 0) (by rw [Hn.out]; omega)
    rw [Hn.out] at e'
    simp only [Value.slice.injEq] at e'
    obtain ⟨rfl, -, rfl⟩ := e'
    have hcm : vc ≤ 9223372036854775807 := hvm
    have Hat : Hid (∀ wx, Below w.heap.size w wx → ∀ j, j < n → wx.cell? ⟨g, off + j, none⟩ = some (.int .u8 (b.getD j 0))) := ⟨fun wx h j hj => by
      have hR : RdY wx (.slice (some ⟨g, off, none⟩) n vc) b := Rd.far HV.out (Chg.ofBelow (X := []) h) (by simp)
      obtain ⟨g', o', c', e', _, hat'⟩ := hR.at (i := 0) (by rw [Hn.out]; omega)
      simp only [Value.slice.injEq, Option.some.injEq, Addr.mk.injEq] at e'
      obtain ⟨⟨rfl, rfl, _⟩, -, -⟩ := e'
      exact hat' j (by rw [Hn.out]; exact hj)⟩
    clear hat
    by_cases hm : most < (sz : Int)
    · have HFin : Hid (PS ([], 6)) := ⟨by rw [← HPS.out]; exact TkS.e2 HK.out (.inl hm)⟩
      clear hv hb HOk
      go_enter Try.func19, Try.ntmps19
      go_wp2_with fail
      refine t1.mono ?_
      rintro e w1 ⟨rfl, rfl⟩
      clear t1
      go_wp2_with fail
      go_ret2
      exact ⟨_, [], 6, rfl, HFin.out, owny_nil _ _, Below.refl _ _⟩
    · by_cases hm2 : 8192 < sz
      · have hm2z : (8192 : Int) < (sz : Int) := by omega
        have HFin : Hid (PS ([], 6)) := ⟨by rw [← HPS.out]; exact TkS.e2 HK.out (.inr hm2z)⟩
        clear hv hb HOk
        go_enter Try.func19, Try.ntmps19
        go_wp2_with fail
        refine t1.mono ?_
        rintro e w1 ⟨rfl, rfl⟩
        clear t1
        go_wp2_with fail
        go_ret2
        exact ⟨_, [], 6, rfl, HFin.out, owny_nil _ _, Below.refl _ _⟩
      · have hm2z : ¬ (8192 : Int) < (sz : Int) := by omega
        have Hlim : Hid (¬ (most < (sz : Int) ∨ 8192 < (sz : Int))) := ⟨by omega⟩
        have t2 := rtakeNum_any (.slice (some ⟨g, off, none⟩) n vc) b (a1 : Int) w (rdy_bs HV.out) hb
        have HOk2 : Hid ((tkNum b a1).2.2 = 0 → 0 ≤ (tkNum b a1).1 ∧ (tkNum b a1).1 ≤ 9007199254740991 ∧ 0 ≤ (tkNum b a1).2.1 ∧ (tkNum b a1).2.1 ≤ b.length) := ⟨fun h => by have := tkNum_ok b _ hb h; omega⟩
        obtain ⟨K2, HK2⟩ : ∃ x, Hid (tkNum b a1 = x) := ⟨_, ⟨rfl⟩⟩
        rw [HK2.out] at t2 HOk2
        obtain ⟨c, p, z⟩ := K2
        simp only at t2 HOk2
        rw [Hn.out] at HOk2
        clear hv HOk
        by_cases hz : z = 0
        · subst hz
          obtain ⟨hc0, hc1, hp0, hp1⟩ := HOk2.out rfl
          obtain ⟨cn, rfl⟩ := Int.eq_ofNat_of_zero_le hc0
          obtain ⟨p2, rfl⟩ := Int.eq_ofNat_of_zero_le hp0
          clear HOk2 hb
          by_cases hbad : 256 < cn ∨ (cn = 0 ∧ sz ≠ 0) ∨ (cn ≠ 0 ∧ sz = 0)
          · have HFin : Hid (PS ([], 4)) := ⟨by rw [← HPS.out]; exact TkS.e4 HK.out Hlim.out HK2.out hbad⟩
            rcases hbad with h1 | ⟨h1, h2⟩ | ⟨h1, h2⟩
            · have h1z : (256 : Int) < (cn : Int) := by omega
              go_enter Try.func19, Try.ntmps19
              go_wp2_with fail
              refine t1.mono ?_
              rintro e w1 ⟨rfl, rfl⟩
              clear t1
              go_wp2_with fail
              refine t2.mono ?_
              rintro e w1 ⟨rfl, rfl⟩
              clear t2
              go_wp2_with fail
              go_ret2
              exact ⟨_, [], 4, rfl, HFin.out, owny_nil _ _, Below.refl _ _⟩
            · subst h1
              have h2z : (0 : Int) < (sz : Int) := by omega
              go_enter Try.func19, Try.ntmps19
              go_wp2_with fail
              refine t1.mono ?_
              rintro e w1 ⟨rfl, rfl⟩
              clear t1
              go_wp2_with fail
              refine t2.mono ?_
              rintro e w1 ⟨rfl, rfl⟩
              clear t2
              go_wp2_with fail
              go_ret2
              exact ⟨_, [], 4, rfl, HFin.out, owny_nil _ _, Below.refl _ _⟩
            · subst h2
              have h1z : (0 : Int) < (cn : Int) := by omega
              have h1y : ((cn : Int) == 0) = false := by simp; omega
              have h1x : ¬ (256 : Int) < (cn : Int) ∨ (256 : Int) < (cn : Int) := by omega
              rcases h1x with h1x | h1x
              · go_enter Try.func19, Try.ntmps19
                go_wp2_with fail
                refine t1.mono ?_
                rintro e w1 ⟨rfl, rfl⟩
                clear t1
                go_wp2_with fail
                refine t2.mono ?_
                rintro e w1 ⟨rfl, rfl⟩
                clear t2
                go_wp2_with fail
                go_ret2
                exact ⟨_, [], 4, rfl, HFin.out, owny_nil _ _, Below.refl _ _⟩
              · go_enter Try.func19, Try.ntmps19
                go_wp2_with fail
                refine t1.mono ?_
                rintro e w1 ⟨rfl, rfl⟩
                clear t1
                go_wp2_with fail
                refine t2.mono ?_
                rintro e w1 ⟨rfl, rfl⟩
                clear t2
                go_wp2_with fail
                go_ret2
                exact ⟨_, [], 4, rfl, HFin.out, owny_nil _ _, Below.refl _ _⟩
          · have hb1 : ¬ (256 : Int) < (cn : Int) := by omega
            obtain ⟨T, HT⟩ : ∃ x, Hid (tkRows b cn p2 (-1) z0 = x) := ⟨_, ⟨rfl⟩⟩
            have HPr : Hid (∀ r, PS r = (if T.2.2 ≠ 0 then r = ([], T.2.2) else if hr T.1 = false then r = ([], 2) else Rs (wbt T.1) (b.drop T.2.1.toNat) sz 0 [] r)) := ⟨fun r => by rw [← HPS.out, TkS.e5 HK.out Hlim.out HK2.out hbad r, HT.out]⟩
            have hcn : cn ≤ 256 := by omega
            have hp2n : p2 ≤ n := by omega
            obtain ⟨q, Hq⟩ : ∃ q, Hid (w.heap.size = q) := ⟨_, ⟨rfl⟩⟩
            obtain ⟨w1, Hw1, HX1, HB1⟩ := al22 w z0
            have Hgw : Hid (g < w.heap.size) := ⟨World.block_lt_of_cell? _ _ (Hat.out w (Below.refl _ _) 0 (by omega))⟩
            rw [Hq.out] at Hw1 HX1 HB1 Hat Hgw
            have hcase : (cn = 0 ∧ sz = 0) ∨ (0 < cn ∧ 0 < sz) := by omega
            clear hbad HK HK2 Hlim HV HPS
            rcases hcase with ⟨c1, c2⟩ | ⟨c1, c2⟩
            · have h1 : ((cn : Int) == 0) = true := by simp [c1]
              have h2 : ¬ (0 : Int) < (sz : Int) := by omega
              have h3 : ¬ (0 : Int) < (cn : Int) := by omega
              have HC0 : Hid (cn = 0) := ⟨c1⟩
              have HZ0 : Hid (sz = 0) := ⟨c2⟩
              clear c1 c2
              go_enter Try.func19, Try.ntmps19
              go_wp2_with fail
              refine t1.mono ?_
              rintro e w2 ⟨rfl, rfl⟩
              clear t1
              go_wp2_with fail
              refine t2.mono ?_
              rintro e w2 ⟨rfl, rfl⟩
              clear t2
              go_upto_region 15 with (first | (refine wp_zero22 rfl rfl ?_) | (refine wp_new22 rfl rfl ?_; rw [Hq.out]) | (refine wp_put22 (f := z0) (g := z0) rfl (.tmp 12) (.tmp 67) rfl rfl rfl z0_len z0_len (by rw [← Hq.out]; exact heap_alloc_new w _) ?_; rw [Hw1.out]))
              clear h1 h2 h3
              go_loopg [7, 13, 14] cn (fun gg s7 s13 s14 wr => ∃ (i p : Nat) (last : Int) (f : List Int), i ≤ cn ∧ cn - i ≤ gg ∧ s14 = .int .i64 (i : Int) ∧ s7 = .int .i64 (p : Int) ∧ s13 = .int .i64 last ∧ p ≤ n ∧ Hid (f.length = 256) ∧ Hid (tkRows b (cn - i) p last f = T) ∧ Hid (Below q w wr) ∧ Hid (wr.heap[q]? = some (.cells (ia f) 22 (0, 0))))
              case atStart => exact ⟨0, p2, -1, z0, Nat.zero_le _, by omega, rfl, rfl, rfl, hp2n, ⟨z0_len⟩, HT, HB1, HX1⟩
              case round =>
                clear HT HB1 HX1
                obtain ⟨i, p, last, f, hi, hgg, rfl, rfl, rfl, hpn, HFl, HT, HB, HX⟩ := hrel
                rename World => wo
                by_cases hlt : i < cn
                · exact absurd hlt (by rw [HC0.out]; omega)
                · have HTe : Hid (T = (f, (p : Int), 0)) := ⟨by rw [← HT.out, show cn - i = 0 by omega]; rfl⟩
                  have hltz : ¬ (i : Int) < (cn : Int) := by omega
                  have HPf : Hid (∀ r, PS r = (if hr f = false then r = ([], 2) else Rs (wbt f) (b.drop p) sz 0 [] r)) := ⟨fun r => by rw [HPr.out, HTe.out, if_neg (by simp), Int.toNat_natCast]⟩
                  have t3 := rwords13 (w := wo) f HFl.out
                  obtain ⟨A, HA⟩ : ∃ A, Hid (ia f = A) := ⟨_, ⟨rfl⟩⟩
                  have HI : Hid ((Try.prog.info? 22).map (·.size) = some A.size) := ⟨by rw [← HA.out]; exact info22f HFl.out⟩
                  rw [HA.out] at HX t3
                  have hqo : q ≤ wo.heap.size := by rw [← Hq.out]; rw [← Hq.out] at HB; exact HB.out.size
                  clear HPr HT HTe
                  cases hroom : hr f with
                  | false =>
                    have HFin : Hid (PS ([], 2)) := ⟨by rw [HPf.out, hroom, if_pos rfl]⟩
                    rw [hroom] at t3
                    simp only [Bool.false_eq_true, if_false] at t3
                    clear hroom HPf
                    go_wp2_with (refine wp_load rfl 22 (.tmp 12) rfl q rfl A 22 (0, 0) _ HX.out Try.underlying22 rfl HI.out ?_)
                    refine t3.mono ?_
                    rintro e w4 ⟨rfl, hB4⟩
                    have HB4 : Hid (Below q w w4) := ⟨HB.out.trans (hB4.mono hqo)⟩
                    obtain ⟨s, Hs⟩ : ∃ q, Hid (w4.heap.size = q) := ⟨_, ⟨rfl⟩⟩
                    obtain ⟨w5, Hw5, HS5, HB5⟩ := al28 w4 e0
                    rw [Hs.out] at Hw5 HS5
                    have HB5q : Hid (Below q w w5) := ⟨HB4.out.trans (HB5.out.mono (Nat.le_trans hqo hB4.size))⟩
                    clear t3 hB4
                    go_wp2_with (first | (refine wp_new28 rfl rfl ?_; rw [Hs.out]) | (refine wp_put28 (f := e0) (g := e0) rfl (.tmp 15) (.tmp 109) rfl rfl rfl e0_len e0_len (by rw [← Hs.out]; exact heap_alloc_new w4 _) ?_; rw [Hw5.out]))
                    go_ret2
                    exact ⟨_, [], 2, rfl, HFin.out, owny_nil _ _, by rw [Hq.out]; exact HB5q.out⟩
                  | true =>
                    have Hroom := Hid.mk hroom
                    have HPw : Hid (∀ r, Rs (wbt f) (b.drop p) sz 0 [] r → PS r) := ⟨fun r h => by rw [HPf.out, hroom, if_neg (by decide)]; exact h⟩
                    rw [hroom] at t3
                    simp only [if_true] at t3
                    have Hwl : Hid ((ws f).length = 256) := ⟨wls_len f 61 0⟩
                    clear hroom HPf
                    go_wp2_with (refine wp_load rfl 22 (.tmp 12) rfl q rfl A 22 (0, 0) _ HX.out Try.underlying22 rfl HI.out ?_)
                    refine t3.mono ?_
                    rintro e w4 ⟨rfl, hB4⟩
                    have HB4 : Hid (Below q w w4) := ⟨HB.out.trans (hB4.mono hqo)⟩
                    obtain ⟨s, Hs⟩ : ∃ q, Hid (w4.heap.size = q) := ⟨_, ⟨rfl⟩⟩
                    obtain ⟨w5, Hw5, HS5, HB5⟩ := al28 w4 (ws f)
                    rw [Hs.out] at Hw5 HS5
                    have hqs : q ≤ s := by rw [← Hs.out]; exact Nat.le_trans hqo hB4.size
                    have HB5q : Hid (Below q w w5) := ⟨HB4.out.trans (HB5.out.mono (by rw [Hs.out]; exact hqs))⟩
                    have hs5 : s < w5.heap.size := (Array.getElem?_eq_some_iff.1 HS5.out).1
                    obtain ⟨ba, Hba⟩ : ∃ x, Hid (w5.heap.size = x) := ⟨_, ⟨rfl⟩⟩
                    obtain ⟨w6, Hw6⟩ : ∃ x, Hid (w5.alloc (.cells #[] 5) = x) := ⟨_, ⟨rfl⟩⟩
                    have HB56 : Hid (Below ba w5 w6) := ⟨by rw [← Hw6.out, ← Hba.out]; exact (Below.refl _ w5).alloc (Nat.le_refl _) _⟩
                    have HO6 : Hid (OwnY w6 ba (.slice (some ⟨ba, 0, none⟩) 0 0) []) := ⟨by rw [← Hw6.out, ← Hba.out]; exact owny_none w5⟩
                    rw [Hba.out] at hs5
                    have HSx : Hid (∀ wx, Below ba w5 wx → wx.heap[s]? = some (.cells (sa (ws f)) 28 (0, 0))) := ⟨fun wx h => (h.block s hs5).trans HS5.out⟩
                    have HBx : Hid (∀ wx, Below ba w5 wx → Below q w wx) := ⟨fun wx h => HB5q.out.trans (h.mono (by omega))⟩
                    have hp8 : IntKind.i64.wrap (8 * (p : Int)) = 8 * (p : Int) := IntWalk.i64_in _ ⟨by omega, by omega⟩
                    have hszb : sz ≤ 8192 := by omega
                    clear t3 hB4 hqo HX HB
                    go_upto_region 32 with (first | (refine wp_new28 rfl rfl ?_; rw [Hs.out]) | (refine wp_put28 (f := e0) (g := ws f) rfl (.tmp 15) (.tmp 109) rfl rfl rfl e0_len Hwl.out (by rw [← Hs.out]; exact heap_alloc_new w4 _) ?_; rw [Hw5.out]))
                    rw [Hba.out, Hw6.out]
                    go_loopg [17, 18, 19, 20, 21] (8 * (n - p) + 1) (fun gg s17 s18 s19 _s20 _s21 wr => ∃ (k a A : Nat) (v : Value) (out : List Int) (bs : List Nat), k ≤ sz ∧ a ≤ 8 * (n - p) ∧ 8 * (n - p) - a < gg ∧ v = s17 ∧ s18 = .string (txt bs) ∧ s19 = .int .i64 (A : Int) ∧ Hid (8 * p + a = A) ∧ Hid (bs.length ≤ a) ∧ Hid (out.length = k) ∧ Hid (∀ x ∈ bs, x < 2) ∧ Hid (OwnY wr ba v out) ∧ Hid (Below ba w5 wr) ∧ Hid (k < sz → ∀ i a' z res, Rw (wbt f) (b.drop p) bs a (i, a', z) → (z ≠ 0 → res = ([], z)) → (z = 0 → Rs (wbt f) (b.drop p) (sz - (k + 1)) a' (out ++ [(i : Int)]) res) → PS res) ∧ Hid (k = sz → ∀ res, Rs (wbt f) (b.drop p) 0 a out res → PS res))
                    case atStart =>
                      refine ⟨0, 0, 8 * p, _, [], [], Nat.zero_le _, Nat.zero_le _, by omega, rfl, rfl, congrArg (Value.int .i64) (by omega), ⟨rfl⟩, ⟨Nat.zero_le _⟩, ⟨rfl⟩, ⟨fun x hx => by cases hx⟩, HO6, HB56, ⟨fun h0 i a' z res h1 h2 h3 => HPw.out res ?_⟩, ⟨fun h0 res h1 => HPw.out res (by rw [← h0]; exact h1)⟩⟩
                      rw [show sz = (sz - (0 + 1)) + 1 by omega]
                      by_cases hz : z = 0
                      · subst hz
                        exact .step _ _ _ i a' res h1 (h3 rfl)
                      · rw [h2 hz]
                        exact .stop _ _ _ i a' z h1 hz
                    case round =>
                      clear HO6 HPw HB56
                      obtain ⟨k, a, A, v, out, bs, hk, ha, hgg, rfl, rfl, rfl, HA8, HBl, HLo, Hbs, HO, HB, HN1, HN0⟩ := hrel
                      rename World => wk
                      have hqw : ba ≤ wk.heap.size := by rw [← Hba.out]; rw [← Hba.out] at HB; exact HB.out.size
                      obtain ⟨oa, oc, e, _⟩ := HO.out.shape
                      subst e
                      rw [HLo.out] at HO
                      rw [HLo.out]
                      by_cases hlt : k < sz
                      · exact absurd hlt (by rw [HZ0.out]; omega)
                      · have hks : k = sz := by omega
                        have HNe : Hid (∀ res, Rs (wbt f) (b.drop p) 0 a out res → PS res) := ⟨HN0.out hks⟩
                        have hltz : ¬ (k : Int) < (sz : Int) := by omega
                        have HDl : Hid ((b.drop p).length = n - p) := ⟨by rw [List.length_drop, Hn.out]⟩
                        have HPd : Hid (PS (if isD (b.drop p) a then (out, 0) else ([], 4))) := ⟨HNe.out _ (.done a out)⟩
                        have HDt : Hid (isD (b.drop p) a = (decide (∀ i, i < (a + 7) / 8 * 8 → a ≤ i → bitAt (b.drop p) i = 0) && decide ((a + 7) / 8 = n - p))) := ⟨by unfold isD; rw [HDl.out]⟩
                        have hbq : q ≤ ba := by omega
                        have hA8 := HA8.out
                        clear HN1 HN0 HNe hks
                        go_upto_region 50 with fail
                        go_loopg [19] 8 (fun gg2 s19 wr => ∃ (j B : Nat), a ≤ j ∧ j ≤ (a + 7) / 8 * 8 ∧ (a + 7) / 8 * 8 - j < gg2 ∧ s19 = .int .i64 (B : Int) ∧ Hid (8 * p + j = B) ∧ Hid (∀ i, a ≤ i → i < j → bitAt (b.drop p) i = 0) ∧ Hid (wk = wr))
                        case atStart => exact ⟨a, A, Nat.le_refl _, by omega, by omega, rfl, HA8, ⟨fun i h1 h2 => by omega⟩, ⟨rfl⟩⟩
                        case round =>
                          rename World => wx
                          obtain ⟨j, B, hj1, hj2, hgg2, rfl, HB8, HZ, HW⟩ := hrel
                          have hw := HW.out
                          subst hw
                          clear HW
                          obtain ⟨X, HX⟩ : ∃ X, Hid (B / 8 = X) := ⟨_, ⟨rfl⟩⟩
                          obtain ⟨Y, HY⟩ : ∃ X, Hid (B % 8 = X) := ⟨_, ⟨rfl⟩⟩
                          have hX := HX.out
                          have hY := HY.out
                          have hB8 := HB8.out
                          have hwX : IntKind.i64.wrap ((B : Int) / 8) = (X : Int) := by rw [show (B : Int) / 8 = (X : Int) by omega]; exact IntWalk.i64_in _ ⟨by omega, by omega⟩
                          have hwY : IntKind.i64.wrap ((B : Int) % 8) = (Y : Int) := by rw [show (B : Int) % 8 = (Y : Int) by omega]; exact IntWalk.i64_in _ ⟨by omega, by omega⟩
                          have hY7 : Y < 8 := by omega
                          by_cases hY0 : Y = 0
                          · have hYz : ((Y : Int) != 0) = false := by simp [hY0]
                            have hYm : ((B : Int) % 8 != 0) = false := by simp; omega
                            have hje : j = (a + 7) / 8 * 8 := by omega
                            have HAll : Hid (∀ i, i < (a + 7) / 8 * 8 → a ≤ i → bitAt (b.drop p) i = 0) := ⟨fun i h1 h2 => HZ.out i h2 (by omega)⟩
                            by_cases hXe : X = n
                            · have hXz : ((X : Int) != (n : Int)) = false := by simp [hXe]
                              have HFin : Hid (PS (out, 0)) := ⟨by
                                have h1 := HPd.out
                                rw [HDt.out, decide_eq_true HAll.out, decide_eq_true (show (a + 7) / 8 = n - p by omega)] at h1
                                exact h1⟩
                              clear hX hY hB8 hY0 hje hXe HAll HPd HDt
                              go_wp2_with fail
                              go_ret2
                              exact ⟨_, out, 0, rfl, HFin.out, own_base HO.out (fun y hy => by have := (World.ownsRow.lt HO.out y hy).1; rw [Hq.out]; omega), by rw [Hq.out]; exact HBx.out wk HB.out⟩
                            · have hXz : ((X : Int) != (n : Int)) = true := by simp; omega
                              have HFin : Hid (PS ([], 4)) := ⟨by
                                have h1 := HPd.out
                                rw [HDt.out, decide_eq_false (show ¬ (a + 7) / 8 = n - p by omega), Bool.and_false] at h1
                                exact h1⟩
                              clear hX hY hB8 hY0 hje hXe HAll HPd HDt
                              go_wp2_with fail
                              go_ret2
                              exact ⟨_, [], 4, rfl, HFin.out, owny_nil _ _, by rw [Hq.out]; exact HBx.out wk HB.out⟩
                          · have hYz : ((Y : Int) != 0) = true := by simp; omega
                            have hYm : ((B : Int) % 8 != 0) = true := by simp; omega
                            have hsub : IntKind.i64.wrap (7 - (Y : Int)) = 7 - (Y : Int) := IntWalk.i64_in _ ⟨by omega, by omega⟩
                            have hs0 : ¬ (7 - (Y : Int) < 0) := by omega
                            have hb1w : IntKind.i64.wrap ((B : Int) + 1) = (B : Int) + 1 := IntWalk.i64_in _ ⟨by omega, by omega⟩
                            have hXn : X < n := by omega
                            have hXz : (X : Int) < (n : Int) := by omega
                            have hjlt : j < (a + 7) / 8 * 8 := by omega
                            have d1 := Hat.out wk (HBx.out wk HB.out) X hXn
                            have hc := HBy.out.get X
                            obtain ⟨c, Hc⟩ : ∃ c : Nat, Hid (b.getD X 0 = (c : Int)) := ⟨(b.getD X 0).toNat, ⟨by omega⟩⟩
                            rw [Hc.out] at d1 hc
                            have Hbit : Hid (c / 2 ^ (7 - Y) % 2 = bitAt (b.drop p) j) := ⟨by rw [bitAt_drop, HB8.out]; unfold bitAt; rw [HX.out, HY.out, Hc.out, Int.toNat_natCast]⟩
                            obtain ⟨bt, Hbt⟩ : ∃ x, Hid (bitAt (b.drop p) j = x) := ⟨_, ⟨rfl⟩⟩
                            have hbt2 : bt < 2 := by rw [← Hbt.out]; exact bitAt_bit _ _
                            rw [Hbt.out] at Hbit
                            have hbe : (((c : Int) / 2 ^ (7 - B % 8)).tmod 2 == 1) = decide (bt = 1) := by
                              rw [show ((c : Int) / 2 ^ (7 - B % 8)) = ((c / 2 ^ (7 - B % 8) : Nat) : Int) by simp, HY.out, Int.tmod_eq_emod_of_nonneg (Int.natCast_nonneg _)]
                              have h := Hbit.out
                              generalize c / 2 ^ (7 - Y) = z at h
                              rw [Bool.eq_iff_iff, beq_iff_eq, decide_eq_true_eq]
                              omega
                            clear hX hY hB8 hY0
                            have hbt01 : bt = 0 ∨ bt = 1 := by omega
                            rcases hbt01 with hb0 | hb0
                            · have hbe2 : (((c : Int) / 2 ^ (7 - B % 8)).tmod 2 == 1) = false := by rw [hbe, hb0]; rfl
                              have HZn : Hid (∀ i, a ≤ i → i < j + 1 → bitAt (b.drop p) i = 0) := ⟨fun i h1 h2 => by
                                by_cases e : i = j
                                · rw [e, Hbt.out, hb0]
                                · exact HZ.out i h1 (by omega)⟩
                              clear hbe hb0 HPd HDt
                              go_wp2_with fail
                              go_roundg ((a + 7) / 8 * 8 - j)
                              case measure => omega
                              case rel => exact ⟨j + 1, B + 1, by omega, by omega, by omega, by go_num, ⟨by have := HB8.out; omega⟩, HZn, ⟨rfl⟩⟩
                            · have hbe2 : (((c : Int) / 2 ^ (7 - B % 8)).tmod 2 == 1) = true := by rw [hbe, hb0]; rfl
                              have HFin : Hid (PS ([], 4)) := ⟨by
                                have h1 := HPd.out
                                rw [HDt.out, decide_eq_false (fun h => by
                                  have h2 := h j hjlt hj1
                                  rw [Hbt.out, hb0] at h2
                                  cases h2), Bool.false_and] at h1
                                exact h1⟩
                              clear hbe hb0 HPd HDt
                              go_wp2_with fail
                              go_ret2
                              exact ⟨_, [], 4, rfl, HFin.out, owny_nil _ _, by rw [Hq.out]; exact HBx.out wk HB.out⟩
            · have h1 : ((cn : Int) == 0) = false := by simp; omega
              have h2 : (0 : Int) < (sz : Int) := by omega
              have h3 : (0 : Int) < (cn : Int) := by omega
              have h4 : ((sz : Int) == 0) = false := by simp; omega
              clear c1 c2
              go_enter Try.func19, Try.ntmps19
              go_wp2_with fail
              refine t1.mono ?_
              rintro e w2 ⟨rfl, rfl⟩
              clear t1
              go_wp2_with fail
              refine t2.mono ?_
              rintro e w2 ⟨rfl, rfl⟩
              clear t2
              go_upto_region 15 with (first | (refine wp_zero22 rfl rfl ?_) | (refine wp_new22 rfl rfl ?_; rw [Hq.out]) | (refine wp_put22 (f := z0) (g := z0) rfl (.tmp 12) (.tmp 67) rfl rfl rfl z0_len z0_len (by rw [← Hq.out]; exact heap_alloc_new w _) ?_; rw [Hw1.out]))
              clear h1 h2 h3
              go_loopg [7, 13, 14] cn (fun gg s7 s13 s14 wr => ∃ (i p : Nat) (last : Int) (f : List Int), i ≤ cn ∧ cn - i ≤ gg ∧ s14 = .int .i64 (i : Int) ∧ s7 = .int .i64 (p : Int) ∧ s13 = .int .i64 last ∧ p ≤ n ∧ Hid (f.length = 256) ∧ Hid (tkRows b (cn - i) p last f = T) ∧ Hid (Below q w wr) ∧ Hid (wr.heap[q]? = some (.cells (ia f) 22 (0, 0))))
              case atStart => exact ⟨0, p2, -1, z0, Nat.zero_le _, by omega, rfl, rfl, rfl, hp2n, ⟨z0_len⟩, HT, HB1, HX1⟩
              case round =>
                clear HT HB1 HX1
                obtain ⟨i, p, last, f, hi, hgg, rfl, rfl, rfl, hpn, HFl, HT, HB, HX⟩ := hrel
                rename World => wo
                by_cases hlt : i < cn
                · have hltz : (i : Int) < (cn : Int) := by omega
                  have hp2w : IntKind.i64.wrap ((p : Int) + 2) = (p : Int) + 2 := IntWalk.i64_in _ ⟨by omega, by omega⟩
                  have HT1 : Hid (tkRows b ((cn - (i + 1)) + 1) p last f = T) := ⟨by rw [show cn - (i + 1) + 1 = cn - i by omega]; exact HT.out⟩
                  by_cases hsh : n < p + 2
                  · have hshz : (n : Int) < (p : Int) + 2 := by omega
                    have HTe : Hid (T = (z0, 0, 3)) := ⟨by
                      rw [← HT1.out, tkRows]
                      have : tkRow (b.drop p) last = (0, 0, 3) := by unfold tkRow; rw [if_pos (by rw [List.length_drop, Hn.out]; omega)]
                      rw [this, if_neg (by decide)]⟩
                    have HFin : Hid (PS ([], 3)) := ⟨by rw [HPr.out, HTe.out, if_pos (by decide)]⟩
                    go_wp2_with fail
                    go_ret2
                    exact ⟨_, [], 3, rfl, HFin.out, owny_nil _ _, by rw [Hq.out]; exact HB.out⟩
                  · have hshz : ¬ (n : Int) < (p : Int) + 2 := by omega
                    have hpz : (p : Int) < (n : Int) := by omega
                    have hp1z : (p : Int) + 1 < (n : Int) := by omega
                    have hp1w : IntKind.i64.wrap ((p : Int) + 1) = (p : Int) + 1 := IntWalk.i64_in _ ⟨by omega, by omega⟩
                    have d1 := Hat.out wo HB.out p (by omega)
                    have d2 := Hat.out wo HB.out (p + 1) (by omega)
                    have hx1 := HBy.out.get p
                    have hx2 := HBy.out.get (p + 1)
                    obtain ⟨x, Hx⟩ : ∃ x : Nat, Hid (b.getD p 0 = (x : Int)) := ⟨(b.getD p 0).toNat, ⟨by omega⟩⟩
                    obtain ⟨y, Hy⟩ : ∃ x : Nat, Hid (b.getD (p + 1) 0 = (x : Int)) := ⟨(b.getD (p + 1) 0).toNat, ⟨by omega⟩⟩
                    rw [Hx.out] at d1 hx1
                    rw [Hy.out] at d2 hx2
                    have hx256 : x < 256 := by omega
                    have hx256z : (x : Int) < 256 := by omega
                    have hxw : IntKind.i64.wrap (x : Int) = (x : Int) := IntWalk.i64_in _ ⟨by omega, by omega⟩
                    have hyw : IntKind.i64.wrap (y : Int) = (y : Int) := IntWalk.i64_in _ ⟨by omega, by omega⟩
                    have HD1 : Hid ((b.drop p).getD 0 0 = (x : Int) ∧ (b.drop p).getD 1 0 = (y : Int) ∧ ¬ (b.drop p).length < 2) := ⟨by
                      refine ⟨?_, ?_, by rw [List.length_drop, Hn.out]; omega⟩
                      · rw [← Hx.out]; simp [List.getD]
                      · rw [← Hy.out]; simp [List.getD]⟩
                    by_cases hla : (x : Int) ≤ last
                    · have HTe : Hid (T = (z0, 0, 4)) := ⟨by
                        rw [← HT1.out, tkRows]
                        have : tkRow (b.drop p) last = (0, 0, 4) := by unfold tkRow; rw [if_neg HD1.out.2.2, HD1.out.1, if_pos hla]
                        rw [this, if_neg (by decide)]⟩
                      have HFin : Hid (PS ([], 4)) := ⟨by rw [HPr.out, HTe.out, if_pos (by decide)]⟩
                      clear hx1 hx2
                      go_wp2_with fail
                      go_ret2
                      exact ⟨_, [], 4, rfl, HFin.out, owny_nil _ _, by rw [Hq.out]; exact HB.out⟩
                    · by_cases hy0 : y = 0
                      · subst hy0
                        have HTe : Hid (T = (z0, 0, 2)) := ⟨by
                          rw [← HT1.out, tkRows]
                          have : tkRow (b.drop p) last = (0, 0, 2) := by unfold tkRow; rw [if_neg HD1.out.2.2, HD1.out.1, HD1.out.2.1, if_neg hla, if_pos (show ((0 : Nat) : Int) = 0 from rfl)]
                          rw [this, if_neg (by decide)]⟩
                        have HFin : Hid (PS ([], 2)) := ⟨by rw [HPr.out, HTe.out, if_pos (by decide)]⟩
                        clear hx1 hx2
                        go_wp2_with fail
                        go_ret2
                        exact ⟨_, [], 2, rfl, HFin.out, owny_nil _ _, by rw [Hq.out]; exact HB.out⟩
                      · have hyb : ((y : Int) == 0) = false := by simp; omega
                        have HTn : Hid (tkRows b (cn - (i + 1)) (p + 2) (x : Int) (f.set x (y : Int)) = T) := ⟨by
                          rw [← HT1.out, tkRows]
                          have : tkRow (b.drop p) last = ((x : Int), (y : Int), 0) := by unfold tkRow; rw [if_neg HD1.out.2.2, HD1.out.1, HD1.out.2.1, if_neg hla, if_neg (by omega)]
                          rw [this, if_pos rfl, Int.toNat_natCast]⟩
                        have d3 : wo.cell? ⟨q, x, none⟩ = some (.int .i64 (f.getD x 0)) := by rw [cell_of_row _ _ _ _ _ _ HX.out]; exact ia_get (by rw [HFl.out]; exact hx256)
                        have d4 : wo.frozen? ⟨q, x, none⟩ = false := frozen_of_row _ _ _ _ _ HX.out
                        generalize f.getD x 0 = u at d3
                        clear hx1 hx2
                        go_wp2_with fail
                        go_roundg (cn - (i + 1))
                        case measure => omega
                        case rel =>
                          refine ⟨i + 1, p + 2, (x : Int), f.set x (y : Int), by omega, by omega, by go_num, by go_num, rfl, by omega, ⟨by rw [List.length_set]; exact HFl.out⟩, HTn, ⟨HB.out.setCell (p := ⟨q, x, none⟩) (Nat.le_refl q) _⟩, ⟨?_⟩⟩
                          rw [heap_setCell_same _ _ _ _ _ _ HX.out]
                          exact congrArg (fun a => some (Obj.cells a 22 (0, 0))) (ia_set f x (y : Int) (by rw [HFl.out]; exact hx256))
                · have HTe : Hid (T = (f, (p : Int), 0)) := ⟨by rw [← HT.out, show cn - i = 0 by omega]; rfl⟩
                  have hltz : ¬ (i : Int) < (cn : Int) := by omega
                  have HPf : Hid (∀ r, PS r = (if hr f = false then r = ([], 2) else Rs (wbt f) (b.drop p) sz 0 [] r)) := ⟨fun r => by rw [HPr.out, HTe.out, if_neg (by simp), Int.toNat_natCast]⟩
                  have t3 := rwords13 (w := wo) f HFl.out
                  obtain ⟨A, HA⟩ : ∃ A, Hid (ia f = A) := ⟨_, ⟨rfl⟩⟩
                  have HI : Hid ((Try.prog.info? 22).map (·.size) = some A.size) := ⟨by rw [← HA.out]; exact info22f HFl.out⟩
                  rw [HA.out] at HX t3
                  have hqo : q ≤ wo.heap.size := by rw [← Hq.out]; rw [← Hq.out] at HB; exact HB.out.size
                  clear HPr HT HTe
                  cases hroom : hr f with
                  | false =>
                    have HFin : Hid (PS ([], 2)) := ⟨by rw [HPf.out, hroom, if_pos rfl]⟩
                    rw [hroom] at t3
                    simp only [Bool.false_eq_true, if_false] at t3
                    clear hroom HPf
                    go_wp2_with (refine wp_load rfl 22 (.tmp 12) rfl q rfl A 22 (0, 0) _ HX.out Try.underlying22 rfl HI.out ?_)
                    refine t3.mono ?_
                    rintro e w4 ⟨rfl, hB4⟩
                    have HB4 : Hid (Below q w w4) := ⟨HB.out.trans (hB4.mono hqo)⟩
                    obtain ⟨s, Hs⟩ : ∃ q, Hid (w4.heap.size = q) := ⟨_, ⟨rfl⟩⟩
                    obtain ⟨w5, Hw5, HS5, HB5⟩ := al28 w4 e0
                    rw [Hs.out] at Hw5 HS5
                    have HB5q : Hid (Below q w w5) := ⟨HB4.out.trans (HB5.out.mono (Nat.le_trans hqo hB4.size))⟩
                    clear t3 hB4
                    go_wp2_with (first | (refine wp_new28 rfl rfl ?_; rw [Hs.out]) | (refine wp_put28 (f := e0) (g := e0) rfl (.tmp 15) (.tmp 109) rfl rfl rfl e0_len e0_len (by rw [← Hs.out]; exact heap_alloc_new w4 _) ?_; rw [Hw5.out]))
                    go_ret2
                    exact ⟨_, [], 2, rfl, HFin.out, owny_nil _ _, by rw [Hq.out]; exact HB5q.out⟩
                  | true =>
                    have Hroom := Hid.mk hroom
                    have HPw : Hid (∀ r, Rs (wbt f) (b.drop p) sz 0 [] r → PS r) := ⟨fun r h => by rw [HPf.out, hroom, if_neg (by decide)]; exact h⟩
                    rw [hroom] at t3
                    simp only [if_true] at t3
                    have Hwl : Hid ((ws f).length = 256) := ⟨wls_len f 61 0⟩
                    clear hroom HPf
                    go_wp2_with (refine wp_load rfl 22 (.tmp 12) rfl q rfl A 22 (0, 0) _ HX.out Try.underlying22 rfl HI.out ?_)
                    refine t3.mono ?_
                    rintro e w4 ⟨rfl, hB4⟩
                    have HB4 : Hid (Below q w w4) := ⟨HB.out.trans (hB4.mono hqo)⟩
                    obtain ⟨s, Hs⟩ : ∃ q, Hid (w4.heap.size = q) := ⟨_, ⟨rfl⟩⟩
                    obtain ⟨w5, Hw5, HS5, HB5⟩ := al28 w4 (ws f)
                    rw [Hs.out] at Hw5 HS5
                    have hqs : q ≤ s := by rw [← Hs.out]; exact Nat.le_trans hqo hB4.size
                    have HB5q : Hid (Below q w w5) := ⟨HB4.out.trans (HB5.out.mono (by rw [Hs.out]; exact hqs))⟩
                    have hs5 : s < w5.heap.size := (Array.getElem?_eq_some_iff.1 HS5.out).1
                    obtain ⟨ba, Hba⟩ : ∃ x, Hid (w5.heap.size = x) := ⟨_, ⟨rfl⟩⟩
                    obtain ⟨w6, Hw6⟩ : ∃ x, Hid (w5.alloc (.cells #[] 5) = x) := ⟨_, ⟨rfl⟩⟩
                    have HB56 : Hid (Below ba w5 w6) := ⟨by rw [← Hw6.out, ← Hba.out]; exact (Below.refl _ w5).alloc (Nat.le_refl _) _⟩
                    have HO6 : Hid (OwnY w6 ba (.slice (some ⟨ba, 0, none⟩) 0 0) []) := ⟨by rw [← Hw6.out, ← Hba.out]; exact owny_none w5⟩
                    rw [Hba.out] at hs5
                    have HSx : Hid (∀ wx, Below ba w5 wx → wx.heap[s]? = some (.cells (sa (ws f)) 28 (0, 0))) := ⟨fun wx h => (h.block s hs5).trans HS5.out⟩
                    have HBx : Hid (∀ wx, Below ba w5 wx → Below q w wx) := ⟨fun wx h => HB5q.out.trans (h.mono (by omega))⟩
                    have hp8 : IntKind.i64.wrap (8 * (p : Int)) = 8 * (p : Int) := IntWalk.i64_in _ ⟨by omega, by omega⟩
                    have hszb : sz ≤ 8192 := by omega
                    clear t3 hB4 hqo HX HB
                    go_upto_region 32 with (first | (refine wp_new28 rfl rfl ?_; rw [Hs.out]) | (refine wp_put28 (f := e0) (g := ws f) rfl (.tmp 15) (.tmp 109) rfl rfl rfl e0_len Hwl.out (by rw [← Hs.out]; exact heap_alloc_new w4 _) ?_; rw [Hw5.out]))
                    rw [Hba.out, Hw6.out]
                    go_loopg [17, 18, 19, 20, 21] (8 * (n - p) + 1) (fun gg s17 s18 s19 _s20 _s21 wr => ∃ (k a A : Nat) (v : Value) (out : List Int) (bs : List Nat), k ≤ sz ∧ a ≤ 8 * (n - p) ∧ 8 * (n - p) - a < gg ∧ v = s17 ∧ s18 = .string (txt bs) ∧ s19 = .int .i64 (A : Int) ∧ Hid (8 * p + a = A) ∧ Hid (bs.length ≤ a) ∧ Hid (out.length = k) ∧ Hid (∀ x ∈ bs, x < 2) ∧ Hid (OwnY wr ba v out) ∧ Hid (Below ba w5 wr) ∧ Hid (k < sz → ∀ i a' z res, Rw (wbt f) (b.drop p) bs a (i, a', z) → (z ≠ 0 → res = ([], z)) → (z = 0 → Rs (wbt f) (b.drop p) (sz - (k + 1)) a' (out ++ [(i : Int)]) res) → PS res) ∧ Hid (k = sz → ∀ res, Rs (wbt f) (b.drop p) 0 a out res → PS res))
                    case atStart =>
                      refine ⟨0, 0, 8 * p, _, [], [], Nat.zero_le _, Nat.zero_le _, by omega, rfl, rfl, congrArg (Value.int .i64) (by omega), ⟨rfl⟩, ⟨Nat.zero_le _⟩, ⟨rfl⟩, ⟨fun x hx => by cases hx⟩, HO6, HB56, ⟨fun h0 i a' z res h1 h2 h3 => HPw.out res ?_⟩, ⟨fun h0 res h1 => HPw.out res (by rw [← h0]; exact h1)⟩⟩
                      rw [show sz = (sz - (0 + 1)) + 1 by omega]
                      by_cases hz : z = 0
                      · subst hz
                        exact .step _ _ _ i a' res h1 (h3 rfl)
                      · rw [h2 hz]
                        exact .stop _ _ _ i a' z h1 hz
                    case round =>
                      clear HO6 HPw HB56
                      obtain ⟨k, a, A, v, out, bs, hk, ha, hgg, rfl, rfl, rfl, HA8, HBl, HLo, Hbs, HO, HB, HN1, HN0⟩ := hrel
                      rename World => wk
                      have hqw : ba ≤ wk.heap.size := by rw [← Hba.out]; rw [← Hba.out] at HB; exact HB.out.size
                      obtain ⟨oa, oc, e, _⟩ := HO.out.shape
                      subst e
                      rw [HLo.out] at HO
                      rw [HLo.out]
                      by_cases hlt : k < sz
                      · have hltz : (k : Int) < (sz : Int) := by omega
                        have HNx : Hid (∀ i a' z res, Rw (wbt f) (b.drop p) bs a (i, a', z) → (z ≠ 0 → res = ([], z)) → (z = 0 → Rs (wbt f) (b.drop p) (sz - (k + 1)) a' (out ++ [(i : Int)]) res) → PS res) := ⟨HN1.out hlt⟩
                        have HDl : Hid ((b.drop p).length = n - p) := ⟨by rw [List.length_drop, Hn.out]⟩
                        obtain ⟨X, HX⟩ : ∃ X, Hid (A / 8 = X) := ⟨_, ⟨rfl⟩⟩
                        obtain ⟨Y, HY⟩ : ∃ X, Hid (A % 8 = X) := ⟨_, ⟨rfl⟩⟩
                        have hX := HX.out
                        have hY := HY.out
                        have hA8 := HA8.out
                        have hwX : IntKind.i64.wrap ((A : Int) / 8) = (X : Int) := by rw [show (A : Int) / 8 = (X : Int) by omega]; exact IntWalk.i64_in _ ⟨by omega, by omega⟩
                        have hwY : IntKind.i64.wrap ((A : Int) % 8) = (Y : Int) := by rw [show (A : Int) % 8 = (Y : Int) by omega]; exact IntWalk.i64_in _ ⟨by omega, by omega⟩
                        have hY7 : Y < 8 := by omega
                        have hsub : IntKind.i64.wrap (7 - (Y : Int)) = 7 - (Y : Int) := IntWalk.i64_in _ ⟨by omega, by omega⟩
                        have hs0 : ¬ (7 - (Y : Int) < 0) := by omega
                        have ha1w : IntKind.i64.wrap ((A : Int) + 1) = (A : Int) + 1 := IntWalk.i64_in _ ⟨by omega, by omega⟩
                        clear HN1 HN0
                        by_cases hal : a < 8 * (n - p)
                        · have hXn : X < n := by omega
                          have hXz : (X : Int) < (n : Int) := by omega
                          have hXz2 : ¬ (n : Int) ≤ (X : Int) := by omega
                          have d1 := Hat.out wk (HBx.out wk HB.out) X hXn
                          have hc := HBy.out.get X
                          obtain ⟨c, Hc⟩ : ∃ c : Nat, Hid (b.getD X 0 = (c : Int)) := ⟨(b.getD X 0).toNat, ⟨by omega⟩⟩
                          rw [Hc.out] at d1 hc
                          have Hbit : Hid (c / 2 ^ (7 - Y) % 2 = bitAt (b.drop p) a) := ⟨by rw [bitAt_drop, HA8.out]; unfold bitAt; rw [HX.out, HY.out, Hc.out, Int.toNat_natCast]⟩
                          obtain ⟨bt, Hbt⟩ : ∃ x, Hid (bitAt (b.drop p) a = x) := ⟨_, ⟨rfl⟩⟩
                          have hbt2 : bt < 2 := by rw [← Hbt.out]; exact bitAt_bit _ _
                          rw [Hbt.out] at Hbit
                          clear hX hY hA8
                          go_upto_region 35 with fail
                          have hbe : (((c : Int) / 2 ^ (7 - A % 8)).tmod 2 == 1) = decide (bt = 1) := by
                            rw [show ((c : Int) / 2 ^ (7 - A % 8)) = ((c / 2 ^ (7 - A % 8) : Nat) : Int) by simp, HY.out, Int.tmod_eq_emod_of_nonneg (Int.natCast_nonneg _)]
                            have h := Hbit.out
                            generalize c / 2 ^ (7 - Y) = z at h
                            rw [Bool.eq_iff_iff, beq_iff_eq, decide_eq_true_eq]
                            omega
                          obtain ⟨S, HS⟩ : ∃ x, Hid (txt bs = x) := ⟨_, ⟨rfl⟩⟩
                          obtain ⟨bs1, Hb1⟩ : ∃ x, Hid (bs ++ [bt] = x) := ⟨_, ⟨rfl⟩⟩
                          obtain ⟨S1, HS1⟩ : ∃ x, Hid (txt bs1 = x) := ⟨_, ⟨rfl⟩⟩
                          obtain ⟨L, HL⟩ : ∃ x, Hid (bs.length = x) := ⟨_, ⟨rfl⟩⟩
                          have hSs : S.size = L := by rw [← HS.out, txt_size, HL.out]
                          have HB1l : Hid (bs1.length = L + 1) := ⟨by rw [← Hb1.out, List.length_append, HL.out]; rfl⟩
                          have HS1s : S1.size = L + 1 := by rw [← HS1.out, txt_size, HB1l.out]
                          have hL8 : L ≤ 8000000 := by have h1 := HBl.out; rw [HL.out] at h1; omega
                          have Hbs1 : Hid (∀ x ∈ bs1, x < 2) := ⟨fun x hx => by
                            rw [← Hb1.out] at hx
                            rcases List.mem_append.1 hx with h | h
                            · exact Hbs.out x h
                            · simp at h; subst h; exact hbt2⟩
                          have Hbt' : Hid (bs ++ [bitAt (b.drop p) a] = bs1) := ⟨by rw [Hbt.out]; exact Hb1.out⟩
                          have HNf : Hid ((∀ j, j < 256 → ¬ bs1 <+: wbt f j) → PS ([], 4)) := ⟨fun h => HNx.out 0 (a + 1) 4 _ (.form _ _ (by rw [HDl.out]; exact hal) (fun j hj => by rw [Hbt'.out]; exact h j hj)) (fun _ => rfl) (fun h => absurd h (by decide))⟩
                          have HNm : Hid ((∃ j, j < 256 ∧ bs1 <+: wbt f j) → (∀ j, j < 256 → wbt f j ≠ bs1) → ∀ i a' z res, Rw (wbt f) (b.drop p) bs1 (a + 1) (i, a', z) → (z ≠ 0 → res = ([], z)) → (z = 0 → Rs (wbt f) (b.drop p) (sz - (k + 1)) a' (out ++ [(i : Int)]) res) → PS res) := ⟨fun h1 h2 i a' z res h3 h4 h5 => HNx.out i a' z res (.more _ _ _ (by rw [HDl.out]; exact hal) (by rw [Hbt'.out]; exact h1) (by rw [Hbt'.out]; exact h2) (by rw [Hbt'.out]; exact h3)) h4 h5⟩
                          have HNh : Hid (∀ i, i < 256 → wbt f i = bs1 → ∀ res, Rs (wbt f) (b.drop p) (sz - (k + 1)) (a + 1) (out ++ [(i : Int)]) res → PS res) := ⟨fun i hi e res h => HNx.out i (a + 1) 0 res (.hit _ _ i (by rw [HDl.out]; exact hal) hi (by rw [Hbt'.out]; exact e)) (fun h => absurd rfl h) (fun _ => h)⟩
                          have HSc : Hid (∀ j, j < 256 → wk.cell? ⟨s, j, none⟩ = some (.string (txt (wbt f j)))) := ⟨fun j hj => by
                            rw [cell_of_row _ _ _ _ _ _ (HSx.out wk HB.out), sa_get (by rw [Hwl.out]; exact hj), ws_txt Hroom.out hj]⟩
                          clear HNx Hbt'
                          rw [HS.out]
                          have hbt01 : bt = 0 ∨ bt = 1 := by omega
                          rcases hbt01 with hb0 | hb0
                          · have hbe2 : (((c : Int) / 2 ^ (7 - A % 8)).tmod 2 == 1) = false := by rw [hbe, hb0]; rfl
                            have HN : Hid (S ++ { data := #[48] } = S1) := ⟨by rw [← HS.out, txt_add0, ← HS1.out, ← Hb1.out, hb0]⟩
                            clear hbe hb0
                            go_upto_region 41 with fail
                            rw [HN.out]
                            clear hbe2 d1
                            go_loopg [17, 18, 20, 21] 256 (fun gg2 s17 s18 s20 s21 wr => ∃ (i : Nat) (fd : Bool), i ≤ 256 ∧ 256 - i ≤ gg2 ∧ s21 = .int .i64 (i : Int) ∧ s20 = .bool fd ∧ s17 = .slice oa k oc ∧ s18 = .string S1 ∧ Hid (wk = wr) ∧ Hid (fd = true → ∃ j, j < 256 ∧ bs1 <+: wbt f j) ∧ Hid (fd = false → ∀ j, j < i → ¬ bs1 <+: wbt f j) ∧ Hid (∀ j, j < i → wbt f j ≠ bs1))
                            case atStart => exact ⟨0, false, Nat.zero_le _, by omega, rfl, rfl, rfl, rfl, ⟨rfl⟩, ⟨fun h => by cases h⟩, ⟨fun _ j hj => by omega⟩, ⟨fun j hj => by omega⟩⟩
                            case round =>
                              rename World => wx
                              obtain ⟨i, fd, hi, hgg2, rfl, rfl, rfl, rfl, HW, HF1, HF2, HF3⟩ := hrel
                              have hw := HW.out
                              subst hw
                              clear HW
                              by_cases hit : i < 256
                              · have hitz : (i : Int) < 256 := by omega
                                have hib : (i : Int) % 256 = (i : Int) := by omega
                                have e1 := HSc.out i hit
                                have hsz := txt_size (wbt f i)
                                have t4 := begins39 (w := wk) bs1 (wbt f i) Hbs1.out (fun x hx => wbt_bin f i x hx)
                                have Hlen : Hid ((wbt f i).length ≤ 60) := ⟨wbt_few Hroom.out hit⟩
                                obtain ⟨U, HU⟩ : ∃ x, Hid (txt (wbt f i) = x) := ⟨_, ⟨rfl⟩⟩
                                obtain ⟨N, HNn⟩ : ∃ x, Hid ((wbt f i).length = x) := ⟨_, ⟨rfl⟩⟩
                                rw [HU.out] at e1 hsz
                                rw [HNn.out] at hsz
                                rw [HU.out, HS1.out] at t4
                                have hN60 : N ≤ 60 := by rw [← HNn.out]; exact Hlen.out
                                by_cases hN0 : N = 0
                                · have hNz : ¬ (0 : Int) < (N : Int) := by omega
                                  have he : wbt f i = [] := List.length_eq_zero_iff.1 (by rw [HNn.out]; exact hN0)
                                  have hne : bs1 ≠ [] := fun e => by have h1 := HB1l.out; rw [e] at h1; simp at h1
                                  have HG2 : Hid (fd = false → ∀ j, j < i + 1 → ¬ bs1 <+: wbt f j) := ⟨fun h j hj hp => by
                                    by_cases e : j = i
                                    · rw [e, he] at hp; exact hne (List.prefix_nil.1 hp)
                                    · exact HF2.out h j (by omega) hp⟩
                                  have HG3 : Hid (∀ j, j < i + 1 → wbt f j ≠ bs1) := ⟨fun j hj ej => by
                                    by_cases e : j = i
                                    · rw [e, he] at ej; exact hne ej.symm
                                    · exact HF3.out j (by omega) ej⟩
                                  clear he hne t4 hN0
                                  go_wp2_with fail
                                  go_roundg (256 - (i + 1))
                                  case measure => omega
                                  case rel => exact ⟨i + 1, fd, by omega, by omega, by go_num, rfl, rfl, rfl, ⟨rfl⟩, HF1, HG2, HG3⟩
                                · have hNz : (0 : Int) < (N : Int) := by omega
                                  clear hN0
                                  by_cases hpre : bs1 <+: wbt f i
                                  · rw [decide_eq_true hpre] at t4
                                    have Hpre := Hid.mk hpre
                                    clear hpre
                                    by_cases hln : L + 1 = N
                                    · have hlnz : ((L : Int) + 1 == (N : Int)) = true := by simp; omega
                                      have Heq : Hid (wbt f i = bs1) := ⟨(Hpre.out.eq_of_length (by rw [HB1l.out, HNn.out]; exact hln)).symm⟩
                                      go_wp2_with (first
                                        | (go_at_call 39; refine t4.mono ?_; rintro e w8 ⟨rfl, rfl⟩; clear t4)
                                        | (at_builtin; refine wp_appY1 (y := (i : Int)) (xs := out) rfl (.tmp 166) (.tmp 169) rfl rfl HO.out rfl (by have := HLo.out; omega) hqw ?_; intro v8 w8 hO8 hG8 hV8))
                                      have HB8 : Hid (Below ba w5 w8) := ⟨HB.out.trans (hG8.below hqw (fun y hy => (World.ownsRow.lt HO.out y (mem_ob.1 hy)).1))⟩
                                      have HO8 : Hid (OwnY w8 ba v8 (out ++ [(i : Int)])) := ⟨hO8⟩
                                      have HM := Hid.mk (HNh.out i hit Heq.out)
                                      clear hO8 hG8 hV8
                                      go_roundg (8 * (n - p) - a)
                                      case measure => omega
                                      case rel =>
                                        refine ⟨k + 1, a + 1, A + 1, v8, out ++ [(i : Int)], [], by omega, by omega, by omega, rfl, rfl, by go_num, ⟨by have := HA8.out; omega⟩, ⟨Nat.zero_le _⟩, ⟨by rw [List.length_append, HLo.out]; rfl⟩, ⟨fun x hx => by cases hx⟩, HO8, HB8, ⟨fun h0 i' a' z res h1 h2 h3 => HM.out res ?_⟩, ⟨fun h0 res h1 => HM.out res (by rw [show sz - (k + 1) = 0 by omega]; exact h1)⟩⟩
                                        rw [show sz - (k + 1) = (sz - (k + 1 + 1)) + 1 by omega]
                                        by_cases hz : z = 0
                                        · subst hz
                                          exact .step _ _ _ i' a' res h1 (h3 rfl)
                                        · rw [h2 hz]
                                          exact .stop _ _ _ i' a' z h1 hz
                                    · have hlnz : ((L : Int) + 1 == (N : Int)) = false := by simp; omega
                                      have HG1 : Hid (∃ j, j < 256 ∧ bs1 <+: wbt f j) := ⟨⟨i, hit, Hpre.out⟩⟩
                                      have HG3 : Hid (∀ j, j < i + 1 → wbt f j ≠ bs1) := ⟨fun j hj ej => by
                                        by_cases e : j = i
                                        · rw [e] at ej
                                          have h1 := congrArg List.length ej
                                          rw [HB1l.out, HNn.out] at h1
                                          exact hln h1.symm
                                        · exact HF3.out j (by omega) ej⟩
                                      clear hln
                                      go_wp2_with (go_at_call 39; refine t4.mono ?_; rintro e w8 ⟨rfl, rfl⟩; clear t4)
                                      go_roundg (256 - (i + 1))
                                      case measure => omega
                                      case rel => exact ⟨i + 1, true, by omega, by omega, by go_num, rfl, rfl, rfl, ⟨rfl⟩, ⟨fun _ => HG1.out⟩, ⟨fun h => by cases h⟩, HG3⟩
                                  · rw [decide_eq_false hpre] at t4
                                    have HG2 : Hid (fd = false → ∀ j, j < i + 1 → ¬ bs1 <+: wbt f j) := ⟨fun h j hj hp => by
                                      by_cases e : j = i
                                      · rw [e] at hp; exact hpre hp
                                      · exact HF2.out h j (by omega) hp⟩
                                    have HG3 : Hid (∀ j, j < i + 1 → wbt f j ≠ bs1) := ⟨fun j hj ej => by
                                      by_cases e : j = i
                                      · rw [e] at ej; exact hpre (by rw [ej]; exact List.prefix_refl _)
                                      · exact HF3.out j (by omega) ej⟩
                                    clear hpre
                                    go_wp2_with (go_at_call 39; refine t4.mono ?_; rintro e w8 ⟨rfl, rfl⟩; clear t4)
                                    go_roundg (256 - (i + 1))
                                    case measure => omega
                                    case rel => exact ⟨i + 1, fd, by omega, by omega, by go_num, rfl, rfl, rfl, ⟨rfl⟩, HF1, HG2, HG3⟩
                              · have hi256 : i = 256 := by omega
                                rw [hi256] at HF2 HF3 ⊢
                                clear hi256 hit hgg2 hi
                                cases fd with
                                | true =>
                                  have HM : Hid (∀ i a' z res, Rw (wbt f) (b.drop p) bs1 (a + 1) (i, a', z) → (z ≠ 0 → res = ([], z)) → (z = 0 → Rs (wbt f) (b.drop p) (sz - (k + 1)) a' (out ++ [(i : Int)]) res) → PS res) := ⟨HNm.out (HF1.out rfl) HF3.out⟩
                                  go_wp2_with fail
                                  go_roundg (8 * (n - p) - a)
                                  case measure => omega
                                  case rel => exact ⟨k, a + 1, A + 1, _, out, bs1, by omega, by omega, by omega, rfl, by rw [HS1.out], by go_num, ⟨by have := HA8.out; omega⟩, ⟨by rw [HB1l.out, ← HL.out]; have := HBl.out; omega⟩, HLo, Hbs1, HO, HB, ⟨fun _ => HM.out⟩, ⟨fun h => by omega⟩⟩
                                | false =>
                                  have HFin : Hid (PS ([], 4)) := ⟨HNf.out (HF2.out rfl)⟩
                                  go_wp2_with fail
                                  go_ret2
                                  exact ⟨_, [], 4, rfl, HFin.out, owny_nil _ _, by rw [Hq.out]; exact HBx.out wk HB.out⟩
                          · have hbe2 : (((c : Int) / 2 ^ (7 - A % 8)).tmod 2 == 1) = true := by rw [hbe, hb0]; rfl
                            have HN : Hid (S ++ { data := #[49] } = S1) := ⟨by rw [← HS.out, txt_add1, ← HS1.out, ← Hb1.out, hb0]⟩
                            clear hbe hb0
                            go_upto_region 41 with fail
                            rw [HN.out]
                            clear hbe2 d1
                            go_loopg [17, 18, 20, 21] 256 (fun gg2 s17 s18 s20 s21 wr => ∃ (i : Nat) (fd : Bool), i ≤ 256 ∧ 256 - i ≤ gg2 ∧ s21 = .int .i64 (i : Int) ∧ s20 = .bool fd ∧ s17 = .slice oa k oc ∧ s18 = .string S1 ∧ Hid (wk = wr) ∧ Hid (fd = true → ∃ j, j < 256 ∧ bs1 <+: wbt f j) ∧ Hid (fd = false → ∀ j, j < i → ¬ bs1 <+: wbt f j) ∧ Hid (∀ j, j < i → wbt f j ≠ bs1))
                            case atStart => exact ⟨0, false, Nat.zero_le _, by omega, rfl, rfl, rfl, rfl, ⟨rfl⟩, ⟨fun h => by cases h⟩, ⟨fun _ j hj => by omega⟩, ⟨fun j hj => by omega⟩⟩
                            case round =>
                              rename World => wx
                              obtain ⟨i, fd, hi, hgg2, rfl, rfl, rfl, rfl, HW, HF1, HF2, HF3⟩ := hrel
                              have hw := HW.out
                              subst hw
                              clear HW
                              by_cases hit : i < 256
                              · have hitz : (i : Int) < 256 := by omega
                                have hib : (i : Int) % 256 = (i : Int) := by omega
                                have e1 := HSc.out i hit
                                have hsz := txt_size (wbt f i)
                                have t4 := begins39 (w := wk) bs1 (wbt f i) Hbs1.out (fun x hx => wbt_bin f i x hx)
                                have Hlen : Hid ((wbt f i).length ≤ 60) := ⟨wbt_few Hroom.out hit⟩
                                obtain ⟨U, HU⟩ : ∃ x, Hid (txt (wbt f i) = x) := ⟨_, ⟨rfl⟩⟩
                                obtain ⟨N, HNn⟩ : ∃ x, Hid ((wbt f i).length = x) := ⟨_, ⟨rfl⟩⟩
                                rw [HU.out] at e1 hsz
                                rw [HNn.out] at hsz
                                rw [HU.out, HS1.out] at t4
                                have hN60 : N ≤ 60 := by rw [← HNn.out]; exact Hlen.out
                                by_cases hN0 : N = 0
                                · have hNz : ¬ (0 : Int) < (N : Int) := by omega
                                  have he : wbt f i = [] := List.length_eq_zero_iff.1 (by rw [HNn.out]; exact hN0)
                                  have hne : bs1 ≠ [] := fun e => by have h1 := HB1l.out; rw [e] at h1; simp at h1
                                  have HG2 : Hid (fd = false → ∀ j, j < i + 1 → ¬ bs1 <+: wbt f j) := ⟨fun h j hj hp => by
                                    by_cases e : j = i
                                    · rw [e, he] at hp; exact hne (List.prefix_nil.1 hp)
                                    · exact HF2.out h j (by omega) hp⟩
                                  have HG3 : Hid (∀ j, j < i + 1 → wbt f j ≠ bs1) := ⟨fun j hj ej => by
                                    by_cases e : j = i
                                    · rw [e, he] at ej; exact hne ej.symm
                                    · exact HF3.out j (by omega) ej⟩
                                  clear he hne t4 hN0
                                  go_wp2_with fail
                                  go_roundg (256 - (i + 1))
                                  case measure => omega
                                  case rel => exact ⟨i + 1, fd, by omega, by omega, by go_num, rfl, rfl, rfl, ⟨rfl⟩, HF1, HG2, HG3⟩
                                · have hNz : (0 : Int) < (N : Int) := by omega
                                  clear hN0
                                  by_cases hpre : bs1 <+: wbt f i
                                  · rw [decide_eq_true hpre] at t4
                                    have Hpre := Hid.mk hpre
                                    clear hpre
                                    by_cases hln : L + 1 = N
                                    · have hlnz : ((L : Int) + 1 == (N : Int)) = true := by simp; omega
                                      have Heq : Hid (wbt f i = bs1) := ⟨(Hpre.out.eq_of_length (by rw [HB1l.out, HNn.out]; exact hln)).symm⟩
                                      go_wp2_with (first
                                        | (go_at_call 39; refine t4.mono ?_; rintro e w8 ⟨rfl, rfl⟩; clear t4)
                                        | (at_builtin; refine wp_appY1 (y := (i : Int)) (xs := out) rfl (.tmp 166) (.tmp 169) rfl rfl HO.out rfl (by have := HLo.out; omega) hqw ?_; intro v8 w8 hO8 hG8 hV8))
                                      have HB8 : Hid (Below ba w5 w8) := ⟨HB.out.trans (hG8.below hqw (fun y hy => (World.ownsRow.lt HO.out y (mem_ob.1 hy)).1))⟩
                                      have HO8 : Hid (OwnY w8 ba v8 (out ++ [(i : Int)])) := ⟨hO8⟩
                                      have HM := Hid.mk (HNh.out i hit Heq.out)
                                      clear hO8 hG8 hV8
                                      go_roundg (8 * (n - p) - a)
                                      case measure => omega
                                      case rel =>
                                        refine ⟨k + 1, a + 1, A + 1, v8, out ++ [(i : Int)], [], by omega, by omega, by omega, rfl, rfl, by go_num, ⟨by have := HA8.out; omega⟩, ⟨Nat.zero_le _⟩, ⟨by rw [List.length_append, HLo.out]; rfl⟩, ⟨fun x hx => by cases hx⟩, HO8, HB8, ⟨fun h0 i' a' z res h1 h2 h3 => HM.out res ?_⟩, ⟨fun h0 res h1 => HM.out res (by rw [show sz - (k + 1) = 0 by omega]; exact h1)⟩⟩
                                        rw [show sz - (k + 1) = (sz - (k + 1 + 1)) + 1 by omega]
                                        by_cases hz : z = 0
                                        · subst hz
                                          exact .step _ _ _ i' a' res h1 (h3 rfl)
                                        · rw [h2 hz]
                                          exact .stop _ _ _ i' a' z h1 hz
                                    · have hlnz : ((L : Int) + 1 == (N : Int)) = false := by simp; omega
                                      have HG1 : Hid (∃ j, j < 256 ∧ bs1 <+: wbt f j) := ⟨⟨i, hit, Hpre.out⟩⟩
                                      have HG3 : Hid (∀ j, j < i + 1 → wbt f j ≠ bs1) := ⟨fun j hj ej => by
                                        by_cases e : j = i
                                        · rw [e] at ej
                                          have h1 := congrArg List.length ej
                                          rw [HB1l.out, HNn.out] at h1
                                          exact hln h1.symm
                                        · exact HF3.out j (by omega) ej⟩
                                      clear hln
                                      go_wp2_with (go_at_call 39; refine t4.mono ?_; rintro e w8 ⟨rfl, rfl⟩; clear t4)
                                      go_roundg (256 - (i + 1))
                                      case measure => omega
                                      case rel => exact ⟨i + 1, true, by omega, by omega, by go_num, rfl, rfl, rfl, ⟨rfl⟩, ⟨fun _ => HG1.out⟩, ⟨fun h => by cases h⟩, HG3⟩
                                  · rw [decide_eq_false hpre] at t4
                                    have HG2 : Hid (fd = false → ∀ j, j < i + 1 → ¬ bs1 <+: wbt f j) := ⟨fun h j hj hp => by
                                      by_cases e : j = i
                                      · rw [e] at hp; exact hpre hp
                                      · exact HF2.out h j (by omega) hp⟩
                                    have HG3 : Hid (∀ j, j < i + 1 → wbt f j ≠ bs1) := ⟨fun j hj ej => by
                                      by_cases e : j = i
                                      · rw [e] at ej; exact hpre (by rw [ej]; exact List.prefix_refl _)
                                      · exact HF3.out j (by omega) ej⟩
                                    clear hpre
                                    go_wp2_with (go_at_call 39; refine t4.mono ?_; rintro e w8 ⟨rfl, rfl⟩; clear t4)
                                    go_roundg (256 - (i + 1))
                                    case measure => omega
                                    case rel => exact ⟨i + 1, fd, by omega, by omega, by go_num, rfl, rfl, rfl, ⟨rfl⟩, HF1, HG2, HG3⟩
                              · have hi256 : i = 256 := by omega
                                rw [hi256] at HF2 HF3 ⊢
                                clear hi256 hit hgg2 hi
                                cases fd with
                                | true =>
                                  have HM : Hid (∀ i a' z res, Rw (wbt f) (b.drop p) bs1 (a + 1) (i, a', z) → (z ≠ 0 → res = ([], z)) → (z = 0 → Rs (wbt f) (b.drop p) (sz - (k + 1)) a' (out ++ [(i : Int)]) res) → PS res) := ⟨HNm.out (HF1.out rfl) HF3.out⟩
                                  go_wp2_with fail
                                  go_roundg (8 * (n - p) - a)
                                  case measure => omega
                                  case rel => exact ⟨k, a + 1, A + 1, _, out, bs1, by omega, by omega, by omega, rfl, by rw [HS1.out], by go_num, ⟨by have := HA8.out; omega⟩, ⟨by rw [HB1l.out, ← HL.out]; have := HBl.out; omega⟩, HLo, Hbs1, HO, HB, ⟨fun _ => HM.out⟩, ⟨fun h => by omega⟩⟩
                                | false =>
                                  have HFin : Hid (PS ([], 4)) := ⟨HNf.out (HF2.out rfl)⟩
                                  go_wp2_with fail
                                  go_ret2
                                  exact ⟨_, [], 4, rfl, HFin.out, owny_nil _ _, by rw [Hq.out]; exact HBx.out wk HB.out⟩
                        · have hXn : X = n := by omega
                          have HFin : Hid (PS ([], 3)) := ⟨HNx.out 0 a 3 _ (.short _ _ (by rw [HDl.out]; omega)) (fun _ => rfl) (fun h => absurd h (by decide))⟩
                          have hXz2 : (n : Int) ≤ (X : Int) := by omega
                          clear hX hY hA8 HNx
                          go_wp2_with fail
                          go_ret2
                          exact ⟨_, [], 3, rfl, HFin.out, owny_nil _ _, by rw [Hq.out]; exact HBx.out wk HB.out⟩
                      · have hks : k = sz := by omega
                        have HNe : Hid (∀ res, Rs (wbt f) (b.drop p) 0 a out res → PS res) := ⟨HN0.out hks⟩
                        have hltz : ¬ (k : Int) < (sz : Int) := by omega
                        have HDl : Hid ((b.drop p).length = n - p) := ⟨by rw [List.length_drop, Hn.out]⟩
                        have HPd : Hid (PS (if isD (b.drop p) a then (out, 0) else ([], 4))) := ⟨HNe.out _ (.done a out)⟩
                        have HDt : Hid (isD (b.drop p) a = (decide (∀ i, i < (a + 7) / 8 * 8 → a ≤ i → bitAt (b.drop p) i = 0) && decide ((a + 7) / 8 = n - p))) := ⟨by unfold isD; rw [HDl.out]⟩
                        have hbq : q ≤ ba := by omega
                        have hA8 := HA8.out
                        clear HN1 HN0 HNe hks
                        go_upto_region 50 with fail
                        go_loopg [19] 8 (fun gg2 s19 wr => ∃ (j B : Nat), a ≤ j ∧ j ≤ (a + 7) / 8 * 8 ∧ (a + 7) / 8 * 8 - j < gg2 ∧ s19 = .int .i64 (B : Int) ∧ Hid (8 * p + j = B) ∧ Hid (∀ i, a ≤ i → i < j → bitAt (b.drop p) i = 0) ∧ Hid (wk = wr))
                        case atStart => exact ⟨a, A, Nat.le_refl _, by omega, by omega, rfl, HA8, ⟨fun i h1 h2 => by omega⟩, ⟨rfl⟩⟩
                        case round =>
                          rename World => wx
                          obtain ⟨j, B, hj1, hj2, hgg2, rfl, HB8, HZ, HW⟩ := hrel
                          have hw := HW.out
                          subst hw
                          clear HW
                          obtain ⟨X, HX⟩ : ∃ X, Hid (B / 8 = X) := ⟨_, ⟨rfl⟩⟩
                          obtain ⟨Y, HY⟩ : ∃ X, Hid (B % 8 = X) := ⟨_, ⟨rfl⟩⟩
                          have hX := HX.out
                          have hY := HY.out
                          have hB8 := HB8.out
                          have hwX : IntKind.i64.wrap ((B : Int) / 8) = (X : Int) := by rw [show (B : Int) / 8 = (X : Int) by omega]; exact IntWalk.i64_in _ ⟨by omega, by omega⟩
                          have hwY : IntKind.i64.wrap ((B : Int) % 8) = (Y : Int) := by rw [show (B : Int) % 8 = (Y : Int) by omega]; exact IntWalk.i64_in _ ⟨by omega, by omega⟩
                          have hY7 : Y < 8 := by omega
                          by_cases hY0 : Y = 0
                          · have hYz : ((Y : Int) != 0) = false := by simp [hY0]
                            have hYm : ((B : Int) % 8 != 0) = false := by simp; omega
                            have hje : j = (a + 7) / 8 * 8 := by omega
                            have HAll : Hid (∀ i, i < (a + 7) / 8 * 8 → a ≤ i → bitAt (b.drop p) i = 0) := ⟨fun i h1 h2 => HZ.out i h2 (by omega)⟩
                            by_cases hXe : X = n
                            · have hXz : ((X : Int) != (n : Int)) = false := by simp [hXe]
                              have HFin : Hid (PS (out, 0)) := ⟨by
                                have h1 := HPd.out
                                rw [HDt.out, decide_eq_true HAll.out, decide_eq_true (show (a + 7) / 8 = n - p by omega)] at h1
                                exact h1⟩
                              clear hX hY hB8 hY0 hje hXe HAll HPd HDt
                              go_wp2_with fail
                              go_ret2
                              exact ⟨_, out, 0, rfl, HFin.out, own_base HO.out (fun y hy => by have := (World.ownsRow.lt HO.out y hy).1; rw [Hq.out]; omega), by rw [Hq.out]; exact HBx.out wk HB.out⟩
                            · have hXz : ((X : Int) != (n : Int)) = true := by simp; omega
                              have HFin : Hid (PS ([], 4)) := ⟨by
                                have h1 := HPd.out
                                rw [HDt.out, decide_eq_false (show ¬ (a + 7) / 8 = n - p by omega), Bool.and_false] at h1
                                exact h1⟩
                              clear hX hY hB8 hY0 hje hXe HAll HPd HDt
                              go_wp2_with fail
                              go_ret2
                              exact ⟨_, [], 4, rfl, HFin.out, owny_nil _ _, by rw [Hq.out]; exact HBx.out wk HB.out⟩
                          · have hYz : ((Y : Int) != 0) = true := by simp; omega
                            have hYm : ((B : Int) % 8 != 0) = true := by simp; omega
                            have hsub : IntKind.i64.wrap (7 - (Y : Int)) = 7 - (Y : Int) := IntWalk.i64_in _ ⟨by omega, by omega⟩
                            have hs0 : ¬ (7 - (Y : Int) < 0) := by omega
                            have hb1w : IntKind.i64.wrap ((B : Int) + 1) = (B : Int) + 1 := IntWalk.i64_in _ ⟨by omega, by omega⟩
                            have hXn : X < n := by omega
                            have hXz : (X : Int) < (n : Int) := by omega
                            have hjlt : j < (a + 7) / 8 * 8 := by omega
                            have d1 := Hat.out wk (HBx.out wk HB.out) X hXn
                            have hc := HBy.out.get X
                            obtain ⟨c, Hc⟩ : ∃ c : Nat, Hid (b.getD X 0 = (c : Int)) := ⟨(b.getD X 0).toNat, ⟨by omega⟩⟩
                            rw [Hc.out] at d1 hc
                            have Hbit : Hid (c / 2 ^ (7 - Y) % 2 = bitAt (b.drop p) j) := ⟨by rw [bitAt_drop, HB8.out]; unfold bitAt; rw [HX.out, HY.out, Hc.out, Int.toNat_natCast]⟩
                            obtain ⟨bt, Hbt⟩ : ∃ x, Hid (bitAt (b.drop p) j = x) := ⟨_, ⟨rfl⟩⟩
                            have hbt2 : bt < 2 := by rw [← Hbt.out]; exact bitAt_bit _ _
                            rw [Hbt.out] at Hbit
                            have hbe : (((c : Int) / 2 ^ (7 - B % 8)).tmod 2 == 1) = decide (bt = 1) := by
                              rw [show ((c : Int) / 2 ^ (7 - B % 8)) = ((c / 2 ^ (7 - B % 8) : Nat) : Int) by simp, HY.out, Int.tmod_eq_emod_of_nonneg (Int.natCast_nonneg _)]
                              have h := Hbit.out
                              generalize c / 2 ^ (7 - Y) = z at h
                              rw [Bool.eq_iff_iff, beq_iff_eq, decide_eq_true_eq]
                              omega
                            clear hX hY hB8 hY0
                            have hbt01 : bt = 0 ∨ bt = 1 := by omega
                            rcases hbt01 with hb0 | hb0
                            · have hbe2 : (((c : Int) / 2 ^ (7 - B % 8)).tmod 2 == 1) = false := by rw [hbe, hb0]; rfl
                              have HZn : Hid (∀ i, a ≤ i → i < j + 1 → bitAt (b.drop p) i = 0) := ⟨fun i h1 h2 => by
                                by_cases e : i = j
                                · rw [e, Hbt.out, hb0]
                                · exact HZ.out i h1 (by omega)⟩
                              clear hbe hb0 HPd HDt
                              go_wp2_with fail
                              go_roundg ((a + 7) / 8 * 8 - j)
                              case measure => omega
                              case rel => exact ⟨j + 1, B + 1, by omega, by omega, by omega, by go_num, ⟨by have := HB8.out; omega⟩, HZn, ⟨rfl⟩⟩
                            · have hbe2 : (((c : Int) / 2 ^ (7 - B % 8)).tmod 2 == 1) = true := by rw [hbe, hb0]; rfl
                              have HFin : Hid (PS ([], 4)) := ⟨by
                                have h1 := HPd.out
                                rw [HDt.out, decide_eq_false (fun h => by
                                  have h2 := h j hjlt hj1
                                  rw [Hbt.out, hb0] at h2
                                  cases h2), Bool.false_and] at h1
                                exact h1⟩
                              clear hbe hb0 HPd HDt
                              go_wp2_with fail
                              go_ret2
                              exact ⟨_, [], 4, rfl, HFin.out, owny_nil _ _, by rw [Hq.out]; exact HBx.out wk HB.out⟩
        · have hzb : (z != 0) = true := by simpa using hz
          have HFin : Hid (PS ([], z)) := ⟨by rw [← HPS.out]; exact TkS.e3 HK.out Hlim.out HK2.out hz⟩
          clear hb hz HOk2
          go_enter Try.func19, Try.ntmps19
          go_wp2_with fail
          refine t1.mono ?_
          rintro e w1 ⟨rfl, rfl⟩
          clear t1
          go_wp2_with fail
          refine t2.mono ?_
          rintro e w1 ⟨rfl, rfl⟩
          clear t2
          go_wp2_with fail
          go_ret2
          exact ⟨_, [], z, rfl, HFin.out, owny_nil _ _, Below.refl _ _⟩
  · have hzb : (z != 0) = true := by simpa using hz
    have HFin : Hid (PS ([], z)) := ⟨by rw [← HPS.out]; exact TkS.e1 HK.out hz⟩
    clear hv hb HOk hz
    go_enter Try.func19, Try.ntmps19
    go_wp2_with fail
    refine t1.mono ?_
    rintro e w1 ⟨rfl, rfl⟩
    clear t1
    go_wp2_with fail
    go_ret2
    exact ⟨_, [], z, rfl, HFin.out, owny_nil _ _, Below.refl _ _⟩
end
end Go.Proofs.Ytfecngncapenjaa
