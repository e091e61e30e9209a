/- SlotSeen: texts that do not fit; the walk. -/
import Derived.Test.YtgjjjkokmgdmjaaDoorS21
namespace Go.Proofs.YtgjjjkokmgdmjaaDoor
open Go.RowKit
section
variable {w : World}
set_option maxHeartbeats 4000000 in
set_option maxRecDepth 100000 in
theorem seen_long (aa ab : Option Addr) (na nb ca cb A : Nat) (ys : Array Value) (hV : Vars w) (hl : 100 < na ∨ 100 < nb) :
    Calls Tryd.prog 4 #[.slice aa na ca, .slice ab nb cb, .int .u8 (A : Int), .agg ys] w fun e w' => e = .returned (.bool true) ∧ Below w.heap.size w w' := by
  have HV : Hid (Vars w) := ⟨hV⟩
  clear hV
  obtain ⟨qb, Hqb⟩ : ∃ q, Hid (w.heap.size = q) := ⟨_, ⟨rfl⟩⟩
  obtain ⟨w1, Hw1⟩ : ∃ x, Hid (w.alloc (.cells ys 42) = x) := ⟨_, ⟨rfl⟩⟩
  have HB1 : Hid (Below w.heap.size w w1) := ⟨by rw [← Hw1.out]; exact (Below.refl _ w).alloc (Nat.le_refl _) _⟩
  have t1 := Dk.newdisk_any 2 w1 (by decide) (by decide)
  go_enter Tryd.func4, Tryd.ntmps4
  go_upto_region 1 with fail
  rw [Hw1.out]
  first | rw [Hqb.out] | skip
  go_upto_region 4 with (go_at_call 6; refine t1.mono ?_; rintro e w2 hN; obtain ⟨p, g, bm, rfl, hA2, hb2⟩ := hN; clear t1)
  have HB12 : Hid (Below w1.heap.size w1 w2) := ⟨hb2⟩
  have HB2 : Hid (Below w.heap.size w w2) := ⟨HB1.out.trans (HB12.out.mono HB1.out.size)⟩
  have t2 := open_good (bs := 0) hA2 (opn_new 2 0 (by decide))
  clear hA2 hb2
  go_upto_region 7 with (go_at_call 7; refine t2.mono ?_; rintro e w3 ⟨rfl, hC3, hb3⟩; clear t2)
  have HB3 : Hid (Below w.heap.size w w3) := ⟨HB2.out.trans (hb3.mono HB2.out.size)⟩
  clear hC3 hb3
  have tl := live_any (w := w3) (Dg.NibsAt.below HV.out HB3.out)
  by_cases ha : 100 < na
  · have ha' : (100 : Int) < (na : Int) := by omega
    clear hl ha
    go_wp2_with (go_at_call 11; refine tl.mono ?_; rintro e w4 ⟨rfl, hb4⟩; clear tl; have HB4 : Hid (Below w3.heap.size w3 w4) := ⟨hb4⟩; clear hb4)
    go_ret
    exact ⟨rfl, HB3.out.trans (HB4.out.mono HB3.out.size)⟩
  · have ha' : ¬ (100 : Int) < (na : Int) := by omega
    have hb' : (100 : Int) < (nb : Int) := by omega
    clear hl ha
    go_wp2_with (go_at_call 11; refine tl.mono ?_; rintro e w4 ⟨rfl, hb4⟩; clear tl; have HB4 : Hid (Below w3.heap.size w3 w4) := ⟨hb4⟩; clear hb4)
    go_ret
    exact ⟨rfl, HB3.out.trans (HB4.out.mono HB3.out.size)⟩
end
theorem u8_in' {z : Int} (h : (Lit.int .u8 z).wf = true) : 0 ≤ z ∧ z < 256 := by
  have em : IntKind.max .u8 = 255 := by decide
  have en : IntKind.min .u8 = 0 := by decide
  simp only [Lit.wf, em, en, Bool.and_eq_true, decide_eq_true_eq] at h
  omega
theorem walk_slotSeen (v : Value) (a : List Int) (u : Value) (b : List Int) (A : Int) (y : Value) (by' : Nat → Nat) (w : World) (hV : Vars w) (ha : Oc.Bs w v a ∧ Dk.Byt a) (hb : Oc.Bs w u b ∧ Dk.Byt b) (hA : (Lit.int .u8 A).wf = true)
    (hy : y = .agg #[.int .u8 (by' 0 : Int), .int .u8 (by' 1 : Int), .int .u8 (by' 2 : Int), .int .u8 (by' 3 : Int)] ∧ ∀ j, by' j < 256) : Calls Tryd.prog 4 #[v, u, .int .u8 A, y] w fun e w' => e = .returned (.bool true) ∧ Below w.heap.size w w' := by
  obtain ⟨h0, h1⟩ := u8_in' hA
  obtain ⟨A, rfl⟩ := Int.eq_ofNat_of_zero_le h0
  obtain ⟨rfl, hby⟩ := hy
  obtain ⟨ha, hya⟩ := ha
  obtain ⟨hb, hyb⟩ := hb
  have ha' := ha
  have hb' := hb
  obtain ⟨aa, ca, rfl, _⟩ := ha'
  obtain ⟨ab, cb, rfl, _⟩ := hb'
  by_cases hl : 100 < a.length ∨ 100 < b.length
  · exact seen_long aa ab _ _ ca cb A _ hV hl
  · exact seen_core a b A (A % 116) (min 4 (116 - A % 116)) by' aa ab _ _ ca cb hV ha hb hya hyb rfl rfl (by omega) rfl rfl hby (by omega) (by omega)
end Go.Proofs.YtgjjjkokmgdmjaaDoor
