/- The walk of CodeBack. -/
import Derived.Test.YtfecngncapenjaaGe
import Derived.Test.YtfecngncapenjaaV3
namespace Go.Proofs.Ytfecngncapenjaa
open Go.RowKit Oct Go.Lib

theorem bs_rdy8 {w : World} {v : Value} {l : List Int} (h : Bs w v l) : RdY w v l := by
  obtain ⟨a, cap, e, h1, h2, h3, h4⟩ := h
  exact ⟨a, cap, by rw [yv_len]; exact e, by rw [yv_len]; exact h1, h2, h3, fun x hx i hi => by rw [yv_len] at hi; exact (h4 x hx i hi).trans (yv_get l hi).symm⟩
/-- What Put tells is not long. -/
theorem PutS.few {p out : List Int} (hb : By p) (hl : p.length ≤ 8192) (h : PutS p out) : out.length ≤ 300000 := by
  obtain ⟨g, hL, rfl⟩ := h
  have hG := hL.good (T0_fine (cnt_len p) (cnt_bad hb hl))
  have h1 := wst_len (pbits g p) (hdB g p.length, 0)
  have h2 := pbits_len hG.low p
  have h3 := hdB_len g p.length
  simp only at h1
  omega
theorem wput_by {s : WSt} (h : WI s) : By s.1 := h.by'
theorem PutS.by' {p out : List Int} (hb : By p) (hl : p.length ≤ 8192) (h : PutS p out) : By out := by
  obtain ⟨g, hL, rfl⟩ := h
  have hG := hL.good (T0_fine (cnt_len p) (cnt_bad hb hl))
  have h0 : WI (hdB g p.length, 0) := ⟨Nat.zero_le _, hdB_by hG.low p.length, fun h => absurd rfl h⟩
  exact (h0.all (pbits_bin g p)).by'
section
variable {w : World}
set_option maxHeartbeats 16000000 in
set_option maxRecDepth 100000 in
theorem back_core (v : Value) (p : List Int) (hv : RdY w v p) (hb : By p) : Calls Try.prog 8 #[v] w fun e w' => e = .returned (.bool true) ∧ Below w.heap.size w w' := by
  have HV := Hid.mk hv
  have HBy := Hid.mk hb
  by_cases hl : 8192 < p.length
  · have t1 := put16_no v p hv hl
    have t3 := live11 (w := w)
    obtain ⟨a, c, e, _⟩ := hv.shape
    subst e
    obtain ⟨n, Hn⟩ : ∃ x, Hid (p.length = x) := ⟨_, ⟨rfl⟩⟩
    rw [Hn.out] at t1 hl ⊢
    have hlz : (8192 : Int) < (n : Int) := by omega
    clear hv hb
    go_enter Try.func8, Try.ntmps8
    go_wp2_with fail
    refine t1.mono ?_
    rintro e w1 ⟨rfl, rfl⟩
    clear t1
    go_wp2_with fail
    refine t3.mono ?_
    rintro e w2 ⟨rfl, hB2⟩
    have HB2 := Hid.mk hB2
    clear t3 hB2
    go_wp2_with fail
    go_ret
    exact ⟨rfl, HB2.out⟩
  · have hl' : p.length ≤ 8192 := by omega
    have t1 := put16_ok v p hv hb hl'
    have HVx : Hid (∀ wx, Below w.heap.size w wx → RdY wx v p) := ⟨fun wx h => Rd.far HV.out (Chg.ofBelow (X := []) h) (by simp)⟩
    obtain ⟨a, c, e, hnc, hcm, _⟩ := hv.shape
    subst e
    obtain ⟨n, Hn⟩ : ∃ x, Hid (p.length = x) := ⟨_, ⟨rfl⟩⟩
    rw [Hn.out] at t1 hl hl' HVx ⊢
    have hlz : ¬ (8192 : Int) < (n : Int) := by omega
    have Hl : Hid (p.length ≤ 8192) := ⟨by rw [Hn.out]; exact hl'⟩
    clear hv hb hl
    go_enter Try.func8, Try.ntmps8
    go_wp2_with fail
    refine t1.mono ?_
    rintro e w1 ⟨v1, out, rfl, hO1, hP1, hB1⟩
    have HO1 := Hid.mk hO1
    have HB1 := Hid.mk hB1
    have HTk := Hid.mk (take_put HBy.out Hl.out hP1)
    have Hfew := Hid.mk (hP1.few HBy.out Hl.out)
    have Hby := Hid.mk (hP1.by' HBy.out Hl.out)
    clear t1 hO1 hP1 hB1
    rw [Hn.out] at HTk
    have t2 := take18 (w := w1) v1 out (n : Int) HO1.out.rd Hby.out (Nat.le_trans Hfew.out (by decide))
    obtain ⟨a1, c1, e1, _⟩ := HO1.out.shape
    subst e1
    obtain ⟨n1, Hn1⟩ : ∃ x, Hid (out.length = x) := ⟨_, ⟨rfl⟩⟩
    rw [Hn1.out] at HO1 t2 ⊢
    go_wp2_with fail
    refine t2.mono ?_
    rintro e w2 ⟨v2, q, z, rfl, hT2, hO2, hB2⟩
    have eq := hT2.det HTk.out.1
    simp only [Prod.mk.injEq] at eq
    obtain ⟨rfl, rfl⟩ := eq
    have HO2 := Hid.mk hO2
    have HB12 := Hid.mk hB2
    have HB2 : Hid (Below w.heap.size w w2) := ⟨HB1.out.trans (hB2.mono HB1.out.size)⟩
    have HO12 : Hid (OwnY w2 w.heap.size (.slice a1 n1 c1) out) := ⟨HO1.out.far' hB2⟩
    clear t2 hT2 hO2 hB2
    obtain ⟨m1, Hm1⟩ : ∃ x : Int, Hid ((n : Int) - 1 = x) := ⟨_, ⟨rfl⟩⟩
    have hm1 := Hm1.out
    rw [Hm1.out] at HTk
    have t3 := take18 (w := w2) (.slice a1 n1 c1) out m1 HO12.out.rd Hby.out (Nat.le_trans Hfew.out (by decide))
    obtain ⟨a2, c2, e2, _⟩ := HO2.out.shape
    subst e2
    rw [Hn.out] at HO2 ⊢
    go_wp2_with fail
    refine t3.mono ?_
    rintro e w3 ⟨v3, q3, z3, rfl, hT3, hO3, hB3⟩
    have eq := hT3.det HTk.out.2
    simp only [Prod.mk.injEq] at eq
    obtain ⟨rfl, rfl⟩ := eq
    have HB23 := Hid.mk hB3
    have HB3 : Hid (Below w.heap.size w w3) := ⟨HB2.out.trans (hB3.mono HB2.out.size)⟩
    obtain ⟨a3, c3, e3, _⟩ := hO3.shape
    subst e3
    have t4 := live11 (w := w3)
    obtain ⟨T, HT⟩ : ∃ T, Hid (strOfNums q = T) := ⟨_, ⟨rfl⟩⟩
    clear t3 hT3 hO3 hB3 hm1
    go_wp2_with fail
    refine t4.mono ?_
    rintro e w4 ⟨rfl, hB4⟩
    have HB4 : Hid (Below w.heap.size w w4) := ⟨HB3.out.trans (hB4.mono HB3.out.size)⟩
    have d1 := run_str (w := w4) Try.bt (rdy_bs (OwnY.rd ((HO2.out.far' HB23.out).far' hB4))) 9 Try.underlying9
    have d2 := run_str (w := w4) Try.bt (rdy_bs (HVx.out w4 HB4.out)) 9 Try.underlying9
    rw [HT.out] at d1 d2
    clear t4 hB4
    go_wp2_with fail
    go_ret
    exact ⟨rfl, HB4.out⟩
end
theorem walk_codeBack (v : Value) (bs : List Int) (W : World) (hb : Bs W v bs) (by0 : ∀ x ∈ bs, 0 ≤ x ∧ x < 256) (_l0 : bs.length ≤ 140737488351232) : Calls Try.prog 8 #[v] W fun e w' => e = .returned (.bool true) ∧ Below W.heap.size W w' := back_core v bs (bs_rdy8 hb) by0
end Go.Proofs.Ytfecngncapenjaa
