/- WirePuts: both Puts answer the same. -/
import Derived.Test.YthohpbppfihoiaaW1
namespace Go.Proofs.Ythohpbppfihoiaa
open Go.RowKit Go.Lib

/-- What Put tells of a note. -/
def putN (n : Nt) : List Int × Int := if chkN n = 0 then (pB n.s n.nm n.g.toNat n.i.toNat n.H n.P n.bs, 0) else ([], chkN n)
theorem pB_nat {n : Nt} (h : chkN n = 0) : pB n.s n.nm n.g n.i n.H n.P n.bs = pB n.s n.nm n.g.toNat n.i.toNat n.H n.P n.bs := by
  have R := right_of (show chk n.s n.nm n.g n.i n.H n.P n.bs.length = 0 from h)
  have hg : 0 ≤ n.g := by
    cases hm : (nmd n.s).1 with
    | true => exact (R.file hm).2.1
    | false => have := (R.nofile hm).2; omega
  rw [Int.toNat_of_nonneg hg, Int.toNat_of_nonneg R.i.1]
section
variable {w : World}
theorem put_any (n : Nt) (ha pa ba : Option Addr) (hc pc bc : Nat) (hH : RdE he 2 h0 w (.slice ha n.H.length hc) n.H) (hP : RdE pe 33 p0 w (.slice pa n.P.length pc) n.P) (hb : Oct.Bs w (.slice ba n.bs.length bc) n.bs) (h32 : ∀ p ∈ n.P, p.1.length = 32) :
    Calls Try.prog 10 #[.agg (na n.s n.nm n.g n.i (.slice ha n.H.length hc) (.slice pa n.P.length pc) (.slice ba n.bs.length bc))] w fun e w' => ∃ v, e = .returned (.tuple #[v, .int .i64 (putN n).2]) ∧ OwnY w' w.heap.size v (putN n).1 ∧ Below w.heap.size w w' := by
  by_cases h : chkN n = 0
  · unfold putN
    rw [if_pos h, ← pB_nat h]
    exact put_ok n.s n.nm n.g n.i ha pa ba n.H.length hc n.P.length pc n.bs.length bc n.H n.P n.bs hH rfl hP rfl hb rfl h32 h
  · unfold putN
    rw [if_neg h]
    refine (put_no n.s n.nm n.g n.i ha pa ba n.H.length hc n.P.length pc n.bs.length bc n.H n.P hH rfl hP rfl h32 h).mono ?_
    rintro e w' ⟨rfl, hB⟩
    exact ⟨_, rfl, owny_nil _ _, hB⟩
theorem rput_any (n : Nt) (ha pa ba : Option Addr) (hc pc bc : Nat) (hH : RdE he 2 h0 w (.slice ha n.H.length hc) n.H) (hP : RdE pe 33 p0 w (.slice pa n.P.length pc) n.P) (hb : Oct.Bs w (.slice ba n.bs.length bc) n.bs) (h32 : ∀ p ∈ n.P, p.1.length = 32) (h256 : ∀ z ∈ n.bs, 0 ≤ z ∧ z < 256) :
    Calls Try.prog 11 #[.agg (na n.s n.nm n.g n.i (.slice ha n.H.length hc) (.slice pa n.P.length pc) (.slice ba n.bs.length bc))] w fun e w' => ∃ v, e = .returned (.tuple #[v, .int .i64 (putN n).2]) ∧ OwnY w' w.heap.size v (putN n).1 ∧ Below w.heap.size w w' := by
  by_cases h : chkN n = 0
  · unfold putN
    rw [if_pos h, ← pB_nat h]
    exact rput_ok n.s n.nm n.g n.i ha pa ba n.H.length hc n.P.length pc n.bs.length bc n.H n.P n.bs hH rfl hP rfl hb rfl h32 h256 h
  · unfold putN
    rw [if_neg h]
    refine (rput_no n.s n.nm n.g n.i ha pa ba n.H.length hc n.P.length pc n.bs.length bc n.H n.P hH rfl hP rfl h).mono ?_
    rintro e w' ⟨rfl, hB⟩
    exact ⟨_, rfl, owny_nil _ _, hB⟩
set_option maxHeartbeats 8000000 in
set_option maxRecDepth 100000 in
theorem walk_wirePuts (v : Value) (n : Nt) (W : World) (hb : NoteV W v n) : Calls Try.prog 4 #[v] W fun e w' => e = .returned (.bool true) ∧ Below W.heap.size W w' := by
  obtain ⟨ha, hc, pa, pc, ba, bc, rfl, hH, hP, hY⟩ := hb.ex
  have h32 : ∀ p ∈ n.P, p.1.length = 32 := fun p hp => (hb.pt p hp).1
  have h256 := hb.by'
  obtain ⟨q, Hq⟩ : ∃ q, Hid (W.heap.size = q) := ⟨_, ⟨rfl⟩⟩
  obtain ⟨A, HA⟩ : ∃ x, Hid (na n.s n.nm n.g n.i (.slice ha n.H.length hc) (.slice pa n.P.length pc) (.slice ba n.bs.length bc) = x) := ⟨_, ⟨rfl⟩⟩
  obtain ⟨w1, Hw1⟩ : ∃ x, Hid (W.alloc (.cells A 27) = x) := ⟨_, ⟨rfl⟩⟩
  have HB1 : Hid (Below W.heap.size W w1) := ⟨by rw [← Hw1.out]; exact (Below.refl _ W).alloc (Nat.le_refl _) _⟩
  have HX1 : Hid (w1.heap[q]? = some (.cells A 27 (0, 0))) := ⟨by rw [← Hw1.out, ← Hq.out]; exact heap_alloc_new W _⟩
  have hq : q < w1.heap.size := (Array.getElem?_eq_some_iff.1 HX1.out).1
  have HIA : Hid ((Try.prog.info? 27).map (·.size) = some A.size) := ⟨by rw [← HA.out]; exact info27⟩
  have HHx : Hid (∀ wx, Below w1.heap.size w1 wx → RdE he 2 h0 wx (.slice ha n.H.length hc) n.H) := ⟨fun wx h => hH.far (Chg.ofBelow (X := []) (HB1.out.trans (h.mono HB1.out.size))) (by simp)⟩
  have HPx : Hid (∀ wx, Below w1.heap.size w1 wx → RdE pe 33 p0 wx (.slice pa n.P.length pc) n.P) := ⟨fun wx h => hP.far (Chg.ofBelow (X := []) (HB1.out.trans (h.mono HB1.out.size))) (by simp)⟩
  have HYx : Hid (∀ wx, Below w1.heap.size w1 wx → Oct.Bs wx (.slice ba n.bs.length bc) n.bs) := ⟨fun wx h => hY.below (HB1.out.trans (h.mono HB1.out.size))⟩
  have tp := put_any (w := w1) n ha pa ba hc pc bc (HHx.out w1 (Below.refl _ _)) (HPx.out w1 (Below.refl _ _)) (HYx.out w1 (Below.refl _ _)) h32
  have tr : ∀ wx, Below w1.heap.size w1 wx → Calls Try.prog 11 #[.agg A] wx fun e w' => ∃ v, e = .returned (.tuple #[v, .int .i64 (putN n).2]) ∧ OwnY w' wx.heap.size v (putN n).1 ∧ Below wx.heap.size wx w' := fun wx h => by
    rw [← HA.out]; exact rput_any n ha pa ba hc pc bc (HHx.out wx h) (HPx.out wx h) (HYx.out wx h) h32 h256
  obtain ⟨⟨L, c⟩, HL⟩ : ∃ r, Hid (putN n = r) := ⟨_, ⟨rfl⟩⟩
  rw [HL.out] at tp tr
  simp only at tp tr
  rw [HA.out] at tp ⊢
  have hcc : (c == c) = true := by simp
  obtain ⟨S, HS⟩ : ∃ S, Hid (strOfNums L = S) := ⟨_, ⟨rfl⟩⟩
  clear hb hH hP hY h32 h256
  go_enter Try.func4, Try.ntmps4
  go_upto_region 1 with (refine wp_box rfl 27 (.tmp 0) rfl A rfl ?_; rw [Hw1.out, Hq.out])
  go_wp2_with (refine wp_load rfl 27 (.tmp 1) rfl q rfl A 27 (0, 0) _ HX1.out Try.underlying27 rfl HIA.out ?_)
  refine tp.mono ?_
  rintro e w2 ⟨v2, rfl, hO2, hB2⟩
  have HO2 := Hid.mk hO2
  have HB2 : Hid (Below w1.heap.size w1 w2) := ⟨hB2⟩
  have HX2 : Hid (w2.heap[q]? = some (.cells A 27 (0, 0))) := ⟨(hB2.block q hq).trans HX1.out⟩
  clear tp hO2 hB2
  go_upto_region 2 with fail
  go_wp2_with (refine wp_load rfl 27 (.tmp 1) rfl q rfl A 27 (0, 0) _ HX2.out Try.underlying27 rfl HIA.out ?_)
  refine (tr w2 HB2.out).mono ?_
  rintro e w3 ⟨v3, rfl, hO3, hB3⟩
  have HO3 := Hid.mk hO3
  have HB3 : Hid (Below w1.heap.size w1 w3) := ⟨HB2.out.trans (hB3.mono HB2.out.size)⟩
  have HB23 := Hid.mk hB3
  clear tr hO3 hB3
  go_wp2_with fail
  refine (live7 (w := w3)).mono ?_
  rintro e w4 ⟨rfl, hB4⟩
  have HB4 := Hid.mk hB4
  obtain ⟨a2, c2, e2, _⟩ := OwnY.shape HO2.out
  subst e2
  obtain ⟨a3, c3, e3, _⟩ := OwnY.shape HO3.out
  subst e3
  have hv2 : (convert 25 9 (.slice a2 L.length c2)).run Try.prog w4 = .ok (.string S) w4 := by rw [← HS.out]; exact bs_str ((Oct.OwnB.bs HO2.out).below (HB23.out.trans (HB4.out.mono HB23.out.size)))
  have hv3 : (convert 25 9 (.slice a3 L.length c3)).run Try.prog w4 = .ok (.string S) w4 := by rw [← HS.out]; exact bs_str ((Oct.OwnB.bs HO3.out).below HB4.out)
  clear hB4
  go_wp2_with fail
  go_ret
  exact ⟨by simp, HB1.out.trans ((HB3.out.trans (HB4.out.mono HB3.out.size)).mono HB1.out.size)⟩
end
end Go.Proofs.Ythohpbppfihoiaa
