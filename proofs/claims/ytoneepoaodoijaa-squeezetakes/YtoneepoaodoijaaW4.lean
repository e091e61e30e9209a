/- The walks of SqueezeTakes, SqueezeBack. -/
import Derived.Test.YtoneepoaodoijaaL1
namespace Go.Proofs.Ytoneepoaodoijaa
open Go.RowKit Go.Lib Go.Shelf Oct

theorem wf_i64 {i : Int} (h : (Lit.int .i64 i).wf = true) : -9223372036854775808 ≤ i ∧ i ≤ 9223372036854775807 := bounds_i64 h
set_option maxHeartbeats 2000000 in
set_option maxRecDepth 100000 in
theorem walk_squeezeTakes (v : Value) (bs : List Int) (i : Int) (W : World) (hb : Bs W v bs) (by0 : ∀ x ∈ bs, 0 ≤ x ∧ x < 256) (l0 : bs.length ≤ 140737488351232) (w1 : (Lit.int .i64 i).wf = true) :
    Calls Try.prog 4 #[v, .int .i64 i] W fun e w' => e = .returned (.bool true) ∧ Below W.heap.size W w' := by
  have hi := wf_i64 w1
  have t1 := take12 (w := W) v bs i (bs_rdy hb) by0 hi
  have HB := Hid.mk hb
  have HBy := Hid.mk by0
  obtain ⟨a, cap, rfl, _⟩ := (bs_rdy hb).shape
  obtain ⟨n, Hn⟩ : ∃ n, Hid (bs.length = n) := ⟨_, ⟨rfl⟩⟩
  rw [Hn.out] at HB t1 ⊢
  clear hb by0
  go_enter Try.func4, Try.ntmps4
  go_wp2_with fail
  refine t1.mono ?_
  rintro e w1 ⟨⟨a1, n1, c1, z1, p1, rfl, hT1, hO1⟩, hb1⟩
  have hr : RdY w1 (.slice a n cap) bs := (bs_rdy HB.out).stay (fun _ k _ o ho => (hb1.block k (Array.getElem?_eq_some_iff.1 ho).1).trans ho)
  have t2 := rtake13 (w := w1) (.slice a n cap) bs i hr HBy.out hi (by omega)
  have HO1 := Hid.mk hO1
  have HT1 := Hid.mk hT1
  have HB1 := Hid.mk hb1
  clear t1 hr hO1 hT1 hb1
  go_wp2_with fail
  refine t2.mono ?_
  rintro e w2 ⟨⟨a2, n2, c2, z2, p2, rfl, hT2, hO2⟩, hb2⟩
  obtain ⟨rfl, rfl⟩ := TkR.one HBy.out HT1.out hT2
  have HO2 := Hid.mk hO2
  have HB2 : Hid (Below W.heap.size W w2) := ⟨HB1.out.trans (hb2.mono HB1.out.size)⟩
  have HO1' : Hid (OwnY w2 W.heap.size (.slice a1 n1 c1) p1) := ⟨HO1.out.kc (n := 0) (Kg.below hb2)⟩
  have t3 := live11 (w := w2)
  clear t2 hT2 hO2 hb2
  go_wp2_with fail
  refine t3.mono ?_
  rintro e w3 ⟨rfl, hb3⟩
  have s1 := run_str Try.bt (rdy_bs (HO1'.out.kc (n := 0) (Kg.below hb3)).rd) 9 Try.underlying9
  have s2 := run_str Try.bt (rdy_bs (HO2.out.kc (n := 0) (Kg.below hb3)).rd) 9 Try.underlying9
  have HB3 : Hid (Below W.heap.size W w3) := ⟨HB2.out.trans (hb3.mono HB2.out.size)⟩
  clear t3 hb3
  go_wp2
  go_ret
  exact ⟨by simp, HB3.out⟩
set_option maxHeartbeats 2000000 in
set_option maxRecDepth 100000 in
theorem walk_squeezeBack (v : Value) (bs : List Int) (W : World) (hb : Bs W v bs) (by0 : ∀ x ∈ bs, 0 ≤ x ∧ x < 256) (_l0 : bs.length ≤ 140737488351232) :
    Calls Try.prog 5 #[v] W fun e w' => e = .returned (.bool true) ∧ Below W.heap.size W w' := by
  have t1 := put9 (w := W) v bs (bs_rdy hb) by0
  have HB := Hid.mk hb
  have HBy : Hid (By bs) := ⟨by0⟩
  obtain ⟨a, cap, rfl, _⟩ := (bs_rdy hb).shape
  obtain ⟨n, Hn⟩ : ∃ n, Hid (bs.length = n) := ⟨_, ⟨rfl⟩⟩
  rw [Hn.out] at HB t1 ⊢
  clear hb by0
  go_enter Try.func5, Try.ntmps5
  go_wp2_with fail
  refine t1.mono ?_
  rintro e w1 ⟨⟨a1, n1, c1, z1, L, rfl, hO1, hL⟩, hb1⟩
  have hn1 : n1 = L.length := by obtain ⟨_, _, e, _⟩ := hO1.shape; simp only [Value.slice.injEq] at e; exact e.2.1
  have HO1 := Hid.mk hO1
  have HB1 := Hid.mk hb1
  rw [Hn.out] at hL
  clear t1 hO1 hb1
  rcases hL with ⟨h8, rfl, rfl⟩ | ⟨h8, hL, rfl⟩
  · obtain rfl : n1 = 0 := hn1
    have hz : (8192 : Int) < (n : Int) := by omega
    have t3 := live11 (w := w1)
    go_wp2_with fail
    refine t3.mono ?_
    rintro e w3 ⟨rfl, hb3⟩
    have HB3 : Hid (Below W.heap.size W w3) := ⟨HB1.out.trans (hb3.mono HB1.out.size)⟩
    clear t3 hb3
    go_wp2
    go_ret
    exact ⟨rfl, HB3.out⟩
  · have hz : ¬ (8192 : Int) < (n : Int) := by omega
    have HL : Hid (L = sqz bs) := ⟨hL⟩
    have hbyL : By L := by rw [HL.out]; exact sqz_by HBy.out
    have HByL := Hid.mk hbyL
    have t2 := take12 (w := w1) (.slice a1 n1 c1) L (n : Int) HO1.out.rd hbyL ⟨by omega, by omega⟩
    have hw : IntKind.i64.wrap ((n : Int) - 1) = (n : Int) - 1 := IntWalk.i64_in _ ⟨by omega, by omega⟩
    clear hL hn1 hbyL
    go_wp2_with fail
    refine t2.mono ?_
    rintro e w2 ⟨⟨a2, n2, c2, z2, p2, rfl, hT2, hO2⟩, hb2⟩
    rw [show min (n : Int) 8192 = ((bs.length : Nat) : Int) by rw [Hn.out]; omega, HL.out] at hT2
    obtain ⟨rfl, rfl⟩ := TkR.one (by rw [← HL.out]; exact HByL.out) hT2 (sqz_back HBy.out)
    have HO2 := Hid.mk hO2
    have HO1' : Hid (OwnY w2 W.heap.size (.slice a1 n1 c1) L) := ⟨HO1.out.kc (n := 0) (Kg.below hb2)⟩
    have HB2 : Hid (Below W.heap.size W w2) := ⟨HB1.out.trans (hb2.mono HB1.out.size)⟩
    have t3 := take12 (w := w2) (.slice a1 n1 c1) L ((n : Int) - 1) HO1'.out.rd HByL.out ⟨by omega, by omega⟩
    clear t2 hT2 hO2 hb2
    go_wp2_with fail
    refine t3.mono ?_
    rintro e w3 ⟨⟨a3, n3, c3, z3, p3, rfl, hT3, hO3⟩, hb3⟩
    rw [show min ((n : Int) - 1) 8192 = ((p2.length : Nat) : Int) - 1 by rw [Hn.out]; omega, HL.out] at hT3
    obtain ⟨rfl, rfl⟩ := TkR.one (by rw [← HL.out]; exact HByL.out) hT3 (sqz_less HBy.out)
    have HO3 : Hid (OwnY w3 w1.heap.size (.slice a2 n2 c2) p2) := ⟨HO2.out.kc (n := 0) (Kg.below hb3)⟩
    have HB3 : Hid (Below W.heap.size W w3) := ⟨HB2.out.trans (hb3.mono HB2.out.size)⟩
    have t4 := live11 (w := w3)
    clear t3 hT3 hO3 hb3
    go_wp2_with fail
    refine t4.mono ?_
    rintro e w4 ⟨rfl, hb4⟩
    have HB4 : Hid (Below W.heap.size W w4) := ⟨HB3.out.trans (hb4.mono HB3.out.size)⟩
    have s1 := run_str Try.bt (rdy_bs (HO3.out.kc (n := 0) (Kg.below hb4)).rd) 9 Try.underlying9
    have s2 := run_str Try.bt (HB.out.below HB4.out) 9 Try.underlying9
    clear t4 hb4
    go_wp2
    go_ret
    exact ⟨by simp, HB4.out⟩
end Go.Proofs.Ytoneepoaodoijaa
