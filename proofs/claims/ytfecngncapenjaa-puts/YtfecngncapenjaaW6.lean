/- The walk of CodePuts. -/
import Derived.Test.YtfecngncapenjaaP5
import Derived.Test.YtfecngncapenjaaV3
import Derived.Lib.MinMax
namespace Go.Proofs.Ytfecngncapenjaa
open Go.RowKit Oct Go.Lib

theorem bs_rdy {w : World} {v : Value} {l : List Int} (h : Bs w v l) : RdY w v l := by
  obtain ⟨a, cap, e, h1, h2, h3, h4⟩ := h
  exact ⟨a, cap, by rw [yv_len]; exact e, by rw [yv_len]; exact h1, h2, h3, fun x hx i hi => by rw [yv_len] at hi; exact (h4 x hx i hi).trans (yv_get l hi).symm⟩
theorem PutS.det {p a b : List Int} (hb : By p) (hl : p.length ≤ 8192) (h : PutS p a) (k : PutS p b) : a = b := by
  obtain ⟨g, h1, rfl⟩ := h
  obtain ⟨g', h2, rfl⟩ := k
  rw [h1.det (T0_fine (cnt_len p) (cnt_bad hb hl)) h2]
theorem rdy_take {w : World} {a : Option Addr} {n c m : Nat} {l : List Int} (h : RdY w (.slice a n c) l) (hn : l.length = n) (hm : m ≤ n) : RdY w (.slice a m c) (l.take m) := by
  obtain ⟨a', c', e, h1, h2, h3, h4⟩ := h
  simp only [Value.slice.injEq] at e
  obtain ⟨rfl, -, rfl⟩ := e
  have hl : (l.take m).length = m := by rw [List.length_take, hn]; omega
  rw [yv_len] at h1
  refine ⟨a, c, by rw [yv_len, hl], by rw [yv_len, hl]; omega, h2, h3, fun x hx i hi => ?_⟩
  rw [yv_len, hl] at hi
  rw [h4 x hx i (by rw [yv_len, hn]; omega)]
  simp only [yv, List.getElem?_map, List.getElem?_take, if_pos hi]
section
variable {w : World}
set_option maxHeartbeats 16000000 in
set_option maxRecDepth 100000 in
theorem puts_core (a : Option Addr) (n c m : Nat) (l : List Int) (hv : RdY w (.slice a n c) l) (hn : l.length = n) (hb : By l) (hm : min n 2000 = m) : Calls Try.prog 6 #[.slice a n c] w fun e w' => e = .returned (.bool true) ∧ Below w.heap.size w w' := by
  have hmz : min (n : Int) (2000 : Int) = (m : Int) := by omega
  have HR : Hid (RdY w (.slice a m c) (l.take m)) := ⟨rdy_take hv hn (by omega)⟩
  obtain ⟨a', c', e, hnc, hcm, hnone⟩ := hv.shape
  rw [hn] at e hnc
  simp only [Value.slice.injEq] at e
  obtain ⟨rfl, -, rfl⟩ := e
  have HBy : Hid (By (l.take m)) := ⟨fun x hx => hb x (List.mem_of_mem_take hx)⟩
  obtain ⟨S, HS⟩ : ∃ S, Hid (l.take m = S) := ⟨_, ⟨rfl⟩⟩
  have HSl : Hid (S.length = m) := ⟨by rw [← HS.out, List.length_take, hn]; omega⟩
  have hm2 : m ≤ 2000 := by omega
  have hmc : m ≤ c := by omega
  have hmcz : (m : Int) ≤ (c : Int) := by omega
  have hcx : c ≤ 9223372036854775807 := hcm
  rw [HS.out] at HR HBy
  obtain ⟨q, Hq⟩ : ∃ q, Hid (w.heap.size = q) := ⟨_, ⟨rfl⟩⟩
  obtain ⟨w1, Hw1⟩ : ∃ x, Hid (w.alloc (.cells #[] 5) = x) := ⟨_, ⟨rfl⟩⟩
  have HB1 : Hid (Below q w w1) := ⟨by rw [← Hw1.out, ← Hq.out]; exact (Below.refl _ _).alloc (Nat.le_refl _) _⟩
  have HO1 : Hid (OwnY w1 q (.slice (some ⟨q, 0, none⟩) 0 0) []) := ⟨by rw [← Hw1.out, ← Hq.out]; exact owny_none w⟩
  have HRx : Hid (∀ wx, Below q w wx → RdY wx (.slice a m c) S) := ⟨fun wx h => Rd.far HR.out (Chg.ofBelow (X := []) (by rw [Hq.out]; exact h)) (by simp)⟩
  have hs1 : q ≤ w1.heap.size := by rw [← Hq.out]; rw [← Hq.out] at HB1; exact HB1.out.size
  have HR1 := Hid.mk (HRx.out w1 HB1.out)
  cases a with
  | none =>
    have hc0 := hnone rfl
    subst hc0
    obtain rfl : m = 0 := by omega
    obtain rfl : n = 0 := by omega
    have hm0 : min (0 : Int) 2000 = 0 := by decide
    clear hv hn hb hm hnone
    go_enter Try.func6, Try.ntmps6
    have HRx : Hid (∀ wx, Below q w wx → RdY wx (.slice none 0 0) S) := ⟨HRx.out⟩
    go_upto_region 2 with fail
    go_upto_region 3 with (at_builtin; rw [Hq.out, Hw1.out]; refine wp_appY (xs := []) (ys := S) rfl (.tmp 13) (.tmp 14) rfl rfl HO1.out rfl HR1.out (by have := HSl.out; simp; omega) hs1 ?_; intro v3 w3 hO3 hG3 hV3)
    rw [List.nil_append] at hO3
    have HO3 := Hid.mk hO3
    have HB3 : Hid (Below q w w3) := ⟨HB1.out.trans (hG3.below hs1 (fun g hg => (World.ownsRow.lt HO1.out g (mem_ob.1 hg)).1))⟩
    have hs3 : q ≤ w3.heap.size := Nat.le_trans hs1 hG3.size
    clear hO3 hG3 hV3
    have t1 := put16_ok (w := w3) v3 S HO3.out.rd HBy.out (by have := HSl.out; omega)
    obtain ⟨a3, c3, e3, _⟩ := HO3.out.shape
    subst e3
    rw [HSl.out] at t1 HO3 ⊢
    go_wp2_with fail
    refine t1.mono ?_
    rintro e w4 ⟨v4, out, rfl, hO4, hP4, hB4⟩
    have HO4 := Hid.mk hO4
    have HP4 := Hid.mk hP4
    have HB34 := Hid.mk hB4
    have HB4 : Hid (Below q w w4) := ⟨HB3.out.trans (hB4.mono hs3)⟩
    have hs4 : q ≤ w4.heap.size := Nat.le_trans hs3 hB4.size
    have t2 := rput17_ok (w := w4) (.slice none 0 0) S (HRx.out w4 HB4.out) HBy.out (by have := HSl.out; omega)
    clear t1 hO4 hP4 hB4
    obtain ⟨a4, c4, e4, _⟩ := HO4.out.shape
    subst e4
    obtain ⟨n4, Hn4⟩ : ∃ x, Hid (out.length = x) := ⟨_, ⟨rfl⟩⟩
    rw [Hn4.out] at HO4 ⊢
    go_wp2_with fail
    refine t2.mono ?_
    rintro e w5 ⟨v5, out5, rfl, hO5, hP5, hB5⟩
    have eo := hP5.det HBy.out (by have := HSl.out; omega) HP4.out
    subst eo
    have HO5 := Hid.mk hO5
    have HB5 : Hid (Below q w w5) := ⟨HB4.out.trans (hB5.mono hs4)⟩
    have HB45 := Hid.mk hB5
    have hs5 : q ≤ w5.heap.size := Nat.le_trans hs4 hB5.size
    clear t2 hO5 hP5 hB5
    obtain ⟨a5, c5, e5, _⟩ := HO5.out.shape
    subst e5
    rw [Hn4.out] at HO5 ⊢
    have t3 := live11 (w := w5)
    obtain ⟨T, HT⟩ : ∃ T, Hid (strOfNums out5 = T) := ⟨_, ⟨rfl⟩⟩
    obtain ⟨U, HU⟩ : ∃ T, Hid (strOfNums S = T) := ⟨_, ⟨rfl⟩⟩
    go_wp2_with fail
    refine t3.mono ?_
    rintro e w6 ⟨rfl, hB6⟩
    have HB6 : Hid (Below q w w6) := ⟨HB5.out.trans (hB6.mono hs5)⟩
    have c1 := run_str (w := w6) Try.bt (rdy_bs (OwnY.rd ((HO4.out.far' HB45.out).far' hB6))) 9 Try.underlying9
    have c2 := run_str (w := w6) Try.bt (rdy_bs (OwnY.rd (HO5.out.far' hB6))) 9 Try.underlying9
    have c3' := run_str (w := w6) Try.bt (rdy_bs (OwnY.rd (((HO3.out.far' HB34.out).far' HB45.out).far' hB6))) 9 Try.underlying9
    have c4' := run_str (w := w6) Try.bt (rdy_bs (HRx.out w6 HB6.out)) 9 Try.underlying9
    rw [HT.out] at c1 c2
    rw [HU.out] at c3' c4'
    clear t3 hB6
    go_wp2_with fail
    go_ret
    exact ⟨rfl, by rw [Hq.out]; exact HB6.out⟩
  | some ad =>
    clear hv hn hb hm hnone
    go_enter Try.func6, Try.ntmps6
    have HRx : Hid (∀ wx, Below q w wx → RdY wx (.slice (some ad) m c) S) := ⟨HRx.out⟩
    go_upto_region 2 with fail
    go_upto_region 3 with (at_builtin; rw [Hq.out, Hw1.out]; refine wp_appY (xs := []) (ys := S) rfl (.tmp 13) (.tmp 14) rfl rfl HO1.out rfl HR1.out (by have := HSl.out; simp; omega) hs1 ?_; intro v3 w3 hO3 hG3 hV3)
    rw [List.nil_append] at hO3
    have HO3 := Hid.mk hO3
    have HB3 : Hid (Below q w w3) := ⟨HB1.out.trans (hG3.below hs1 (fun g hg => (World.ownsRow.lt HO1.out g (mem_ob.1 hg)).1))⟩
    have hs3 : q ≤ w3.heap.size := Nat.le_trans hs1 hG3.size
    clear hO3 hG3 hV3
    have t1 := put16_ok (w := w3) v3 S HO3.out.rd HBy.out (by have := HSl.out; omega)
    obtain ⟨a3, c3, e3, _⟩ := HO3.out.shape
    subst e3
    rw [HSl.out] at t1 HO3 ⊢
    go_wp2_with fail
    refine t1.mono ?_
    rintro e w4 ⟨v4, out, rfl, hO4, hP4, hB4⟩
    have HO4 := Hid.mk hO4
    have HP4 := Hid.mk hP4
    have HB34 := Hid.mk hB4
    have HB4 : Hid (Below q w w4) := ⟨HB3.out.trans (hB4.mono hs3)⟩
    have hs4 : q ≤ w4.heap.size := Nat.le_trans hs3 hB4.size
    have t2 := rput17_ok (w := w4) (.slice (some ad) m c) S (HRx.out w4 HB4.out) HBy.out (by have := HSl.out; omega)
    clear t1 hO4 hP4 hB4
    obtain ⟨a4, c4, e4, _⟩ := HO4.out.shape
    subst e4
    obtain ⟨n4, Hn4⟩ : ∃ x, Hid (out.length = x) := ⟨_, ⟨rfl⟩⟩
    rw [Hn4.out] at HO4 ⊢
    go_wp2_with fail
    refine t2.mono ?_
    rintro e w5 ⟨v5, out5, rfl, hO5, hP5, hB5⟩
    have eo := hP5.det HBy.out (by have := HSl.out; omega) HP4.out
    subst eo
    have HO5 := Hid.mk hO5
    have HB5 : Hid (Below q w w5) := ⟨HB4.out.trans (hB5.mono hs4)⟩
    have HB45 := Hid.mk hB5
    have hs5 : q ≤ w5.heap.size := Nat.le_trans hs4 hB5.size
    clear t2 hO5 hP5 hB5
    obtain ⟨a5, c5, e5, _⟩ := HO5.out.shape
    subst e5
    rw [Hn4.out] at HO5 ⊢
    have t3 := live11 (w := w5)
    obtain ⟨T, HT⟩ : ∃ T, Hid (strOfNums out5 = T) := ⟨_, ⟨rfl⟩⟩
    obtain ⟨U, HU⟩ : ∃ T, Hid (strOfNums S = T) := ⟨_, ⟨rfl⟩⟩
    go_wp2_with fail
    refine t3.mono ?_
    rintro e w6 ⟨rfl, hB6⟩
    have HB6 : Hid (Below q w w6) := ⟨HB5.out.trans (hB6.mono hs5)⟩
    have c1 := run_str (w := w6) Try.bt (rdy_bs (OwnY.rd ((HO4.out.far' HB45.out).far' hB6))) 9 Try.underlying9
    have c2 := run_str (w := w6) Try.bt (rdy_bs (OwnY.rd (HO5.out.far' hB6))) 9 Try.underlying9
    have c3' := run_str (w := w6) Try.bt (rdy_bs (OwnY.rd (((HO3.out.far' HB34.out).far' HB45.out).far' hB6))) 9 Try.underlying9
    have c4' := run_str (w := w6) Try.bt (rdy_bs (HRx.out w6 HB6.out)) 9 Try.underlying9
    rw [HT.out] at c1 c2
    rw [HU.out] at c3' c4'
    clear t3 hB6
    go_wp2_with fail
    go_ret
    exact ⟨rfl, by rw [Hq.out]; exact HB6.out⟩
end
theorem walk_codePuts (v : Value) (bs : List Int) (W : World) (hb : Bs W v bs) (by0 : ∀ x ∈ bs, 0 ≤ x ∧ x < 256) (_l0 : bs.length ≤ 140737488351232) : Calls Try.prog 6 #[v] W fun e w' => e = .returned (.bool true) ∧ Below W.heap.size W w' := by
  have hv := bs_rdy hb
  obtain ⟨a, c, rfl, _⟩ := hv.shape
  exact puts_core a bs.length c _ bs hv rfl by0 rfl
end Go.Proofs.Ytfecngncapenjaa
