/- The walk of CodeTakes. -/
import Derived.Test.YtfecngncapenjaaBC
import Derived.Test.YtfecngncapenjaaV3
import Derived.Lib.MinMax
namespace Go.Proofs.Ytfecngncapenjaa
open Go.RowKit Oct Go.Lib

theorem bs_rdy7 {w : World} {v : Value} {l : List Int} (h : Bs w v l) : RdY w v l := by
  obtain ⟨a, cap, e, h1, h2, h3, h4⟩ := h
  exact ⟨a, cap, by rw [yv_len]; exact e, by rw [yv_len]; exact h1, h2, h3, fun x hx i hi => by rw [yv_len] at hi; exact (h4 x hx i hi).trans (yv_get l hi).symm⟩
theorem rdy_take7 {w : World} {a : Option Addr} {n c m : Nat} {l : List Int} (h : RdY w (.slice a n c) l) (hn : l.length = n) (hm : m ≤ n) : RdY w (.slice a m c) (l.take m) := by
  obtain ⟨a', c', e, h1, h2, h3, h4⟩ := h
  simp only [Value.slice.injEq] at e
  obtain ⟨rfl, -, rfl⟩ := e
  have hl : (l.take m).length = m := by rw [List.length_take, hn]; omega
  rw [yv_len] at h1
  refine ⟨a, c, by rw [yv_len, hl], by rw [yv_len, hl]; omega, h2, h3, fun x hx i hi => ?_⟩
  rw [yv_len, hl] at hi
  rw [h4 x hx i (by rw [yv_len, hn]; omega)]
  simp only [yv, List.getElem?_map, List.getElem?_take, if_pos hi]
theorem TkS.det7 {b : List Int} {most : Int} {r r' : List Int × Int} (h : TkS b most r) (h' : TkS b most r') : r = r' := by
  unfold TkS at h h'
  by_cases h1 : (tkSize b most).2.2 ≠ 0
  · rw [if_pos h1] at h h'; rw [h, h']
  · rw [if_neg h1] at h h'
    have hl := tkTable_len b (tkSize b most).2.1.toNat (tkSize b most).1.toNat
    generalize tkTable b (tkSize b most).2.1.toNat (tkSize b most).1.toNat = K at h h' hl
    by_cases h2 : K.2.2 ≠ 0
    · rw [if_pos h2] at h h'; rw [h, h']
    · rw [if_neg h2] at h h'
      cases h3 : hr K.1 with
      | false => rw [h3, if_pos rfl] at h h'; rw [h, h']
      | true =>
        rw [h3, if_neg (by decide)] at h h'
        exact h.det (fun i k hi hk hik hne => wbt_apart hl h3 hi hk hik hne) h'
section
variable {w : World}
set_option maxHeartbeats 16000000 in
set_option maxRecDepth 100000 in
theorem takes_core (a : Option Addr) (n c m : Nat) (l : List Int) (most : Int) (hv : RdY w (.slice a n c) l) (hn : l.length = n) (hb : By l) (hm : min n 3000 = m) : Calls Try.prog 7 #[.slice a n c, .int .i64 most] w fun e w' => e = .returned (.bool true) ∧ Below w.heap.size w w' := by
  have hmz : min (n : Int) (3000 : Int) = (m : Int) := by omega
  have HR : Hid (RdY w (.slice a m c) (l.take m)) := ⟨rdy_take7 hv hn (by omega)⟩
  obtain ⟨a', c', e, hnc, hcm, hnone⟩ := hv.shape
  rw [hn] at e hnc
  simp only [Value.slice.injEq] at e
  obtain ⟨rfl, -, rfl⟩ := e
  have HBy : Hid (By (l.take m)) := ⟨fun x hx => hb x (List.mem_of_mem_take hx)⟩
  obtain ⟨S, HS⟩ : ∃ S, Hid (l.take m = S) := ⟨_, ⟨rfl⟩⟩
  have HSl : Hid (S.length = m) := ⟨by rw [← HS.out, List.length_take, hn]; omega⟩
  have hm2 : m ≤ 3000 := by omega
  have hmc : m ≤ c := by omega
  have hmcz : (m : Int) ≤ (c : Int) := by omega
  have hcx : c ≤ 9223372036854775807 := hcm
  rw [HS.out] at HR HBy
  have HRx : Hid (∀ wx, Below w.heap.size w wx → RdY wx (.slice a m c) S) := ⟨fun wx h => Rd.far HR.out (Chg.ofBelow (X := []) h) (by simp)⟩
  have Hlm : Hid (S.length ≤ 1000000) := ⟨by rw [HSl.out]; omega⟩
  cases a with
  | none =>
    have hc0 := hnone rfl
    subst hc0
    obtain rfl : m = 0 := by omega
    obtain rfl : n = 0 := by omega
    have hm0 : min (0 : Int) 3000 = 0 := by decide
    clear hv hn hb hm hnone
    go_enter Try.func7, Try.ntmps7
    have HRx : Hid (∀ wx, Below w.heap.size w wx → RdY wx (.slice none 0 0) S) := ⟨HRx.out⟩
    have t1 := take18 (w := w) (.slice none 0 0) S most (HRx.out w (Below.refl _ _)) HBy.out Hlm.out
    go_wp2_with fail
    refine t1.mono ?_
    rintro e w4 ⟨v4, out, z, rfl, hT4, hO4, hB4⟩
    have HO4 := Hid.mk hO4
    have HT4 := Hid.mk hT4
    have HB4 : Hid (Below w.heap.size w w4) := ⟨hB4⟩
    have t2 := rtake19 (w := w4) (.slice none 0 0) S most (HRx.out w4 HB4.out) HBy.out Hlm.out
    clear t1 hO4 hT4 hB4
    obtain ⟨a4, c4, e4, _⟩ := HO4.out.shape
    subst e4
    obtain ⟨n4, Hn4⟩ : ∃ x, Hid (out.length = x) := ⟨_, ⟨rfl⟩⟩
    rw [Hn4.out] at HO4 ⊢
    go_wp2_with fail
    refine t2.mono ?_
    rintro e w5 ⟨v5, out5, z5, rfl, hT5, hO5, hB5⟩
    have eo := hT5.det7 HT4.out
    simp only [Prod.mk.injEq] at eo
    obtain ⟨rfl, rfl⟩ := eo
    have HO5 := Hid.mk hO5
    have HB45 := Hid.mk hB5
    have HB5 : Hid (Below w.heap.size w w5) := ⟨HB4.out.trans (hB5.mono HB4.out.size)⟩
    clear t2 hO5 hT5 hB5
    obtain ⟨a5, c5, e5, _⟩ := HO5.out.shape
    subst e5
    rw [Hn4.out] at HO5 ⊢
    have t3 := live11 (w := w5)
    obtain ⟨T, HT⟩ : ∃ T, Hid (strOfNums out5 = T) := ⟨_, ⟨rfl⟩⟩
    have hzz : (z5 == z5) = true := beq_self_eq_true z5
    go_wp2_with fail
    refine t3.mono ?_
    rintro e w6 ⟨rfl, hB6⟩
    have HB6 : Hid (Below w.heap.size w w6) := ⟨HB5.out.trans (hB6.mono HB5.out.size)⟩
    have c1 := run_str (w := w6) Try.bt (rdy_bs (OwnY.rd ((HO4.out.far' HB45.out).far' hB6))) 9 Try.underlying9
    have c2 := run_str (w := w6) Try.bt (rdy_bs (OwnY.rd (HO5.out.far' hB6))) 9 Try.underlying9
    rw [HT.out] at c1 c2
    clear t3 hB6
    go_wp2_with fail
    go_ret
    exact ⟨rfl, HB6.out⟩
  | some ad =>
    clear hv hn hb hm hnone
    go_enter Try.func7, Try.ntmps7
    have HRx : Hid (∀ wx, Below w.heap.size w wx → RdY wx (.slice (some ad) m c) S) := ⟨HRx.out⟩
    have t1 := take18 (w := w) (.slice (some ad) m c) S most (HRx.out w (Below.refl _ _)) HBy.out Hlm.out
    go_wp2_with fail
    refine t1.mono ?_
    rintro e w4 ⟨v4, out, z, rfl, hT4, hO4, hB4⟩
    have HO4 := Hid.mk hO4
    have HT4 := Hid.mk hT4
    have HB4 : Hid (Below w.heap.size w w4) := ⟨hB4⟩
    have t2 := rtake19 (w := w4) (.slice (some ad) m c) S most (HRx.out w4 HB4.out) HBy.out Hlm.out
    clear t1 hO4 hT4 hB4
    obtain ⟨a4, c4, e4, _⟩ := HO4.out.shape
    subst e4
    obtain ⟨n4, Hn4⟩ : ∃ x, Hid (out.length = x) := ⟨_, ⟨rfl⟩⟩
    rw [Hn4.out] at HO4 ⊢
    go_wp2_with fail
    refine t2.mono ?_
    rintro e w5 ⟨v5, out5, z5, rfl, hT5, hO5, hB5⟩
    have eo := hT5.det7 HT4.out
    simp only [Prod.mk.injEq] at eo
    obtain ⟨rfl, rfl⟩ := eo
    have HO5 := Hid.mk hO5
    have HB45 := Hid.mk hB5
    have HB5 : Hid (Below w.heap.size w w5) := ⟨HB4.out.trans (hB5.mono HB4.out.size)⟩
    clear t2 hO5 hT5 hB5
    obtain ⟨a5, c5, e5, _⟩ := HO5.out.shape
    subst e5
    rw [Hn4.out] at HO5 ⊢
    have t3 := live11 (w := w5)
    obtain ⟨T, HT⟩ : ∃ T, Hid (strOfNums out5 = T) := ⟨_, ⟨rfl⟩⟩
    have hzz : (z5 == z5) = true := beq_self_eq_true z5
    go_wp2_with fail
    refine t3.mono ?_
    rintro e w6 ⟨rfl, hB6⟩
    have HB6 : Hid (Below w.heap.size w w6) := ⟨HB5.out.trans (hB6.mono HB5.out.size)⟩
    have c1 := run_str (w := w6) Try.bt (rdy_bs (OwnY.rd ((HO4.out.far' HB45.out).far' hB6))) 9 Try.underlying9
    have c2 := run_str (w := w6) Try.bt (rdy_bs (OwnY.rd (HO5.out.far' hB6))) 9 Try.underlying9
    rw [HT.out] at c1 c2
    clear t3 hB6
    go_wp2_with fail
    go_ret
    exact ⟨rfl, HB6.out⟩
end
theorem walk_codeTakes (v : Value) (bs : List Int) (i : Int) (W : World) (hb : Bs W v bs) (by0 : ∀ x ∈ bs, 0 ≤ x ∧ x < 256) (_l0 : bs.length ≤ 140737488351232) (_w1 : (Lit.int .i64 i).wf = true) :
    Calls Try.prog 7 #[v, .int .i64 i] W fun e w' => e = .returned (.bool true) ∧ Below W.heap.size W w' := by
  have hv := bs_rdy7 hb
  obtain ⟨a, c, rfl, _⟩ := hv.shape
  exact takes_core a bs.length c _ bs i hv rfl by0 rfl
end Go.Proofs.Ytfecngncapenjaa
