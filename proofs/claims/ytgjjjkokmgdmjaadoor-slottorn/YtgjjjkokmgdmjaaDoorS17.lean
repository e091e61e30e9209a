/- The law's live. -/
import Derived.Test.YtgjjjkokmgdmjaaDoorS16
import Derived.Lib.SlBytesConst
namespace Go.Proofs.YtgjjjkokmgdmjaaDoor
open Go.RowKit
theorem lit_bs (w : World) (z : Int) : Oc.Bs (w.alloc (.cells #[.int .u8 z] 5 (1, 2))) (.slice (some ⟨w.heap.size, 0, none⟩) 1 1) [z] := by
  refine ⟨_, 1, rfl, Nat.le_refl _, by decide, by simp, fun x hx i hi => ?_⟩
  cases hx
  have : i = 0 := by simpa using hi
  subst this
  rw [Oc.add_plain, cell_of_row _ _ _ _ _ _ (heap_alloc_new w _)]
  rfl
theorem At.mono {w : World} {p g bm base base' : Nat} {d : Dk.Dk} (h : Dk.At w p g bm base d) (hb : base' ≤ base) : Dk.At w p g bm base' d := by
  obtain ⟨cap, tc, n, D, h⟩ := h
  exact ⟨cap, tc, n, D, { h with bp := ⟨Nat.le_trans hb h.bp.1, Nat.le_trans hb h.bp.2.1, Nat.le_trans hb h.bp.2.2⟩ }⟩
theorem At.bp {w : World} {p g bm base : Nat} {d : Dk.Dk} (h : Dk.At w p g bm base d) : base ≤ p ∧ base ≤ g ∧ base ≤ bm := by
  obtain ⟨cap, tc, n, D, h⟩ := h
  exact h.bp
theorem CellAt.chg {w w' : World} {q p g bm base : Nat} {bs lf : Int} {d : Dk.Dk} (h : CellAt w q p bs lf) (ha : Dk.At w p g bm base d) (hc : Dk.Chg [p, g, bm] w w') : CellAt w' q p bs lf :=
  (hc.block q (Array.getElem?_eq_some_iff.1 h).1 (by have := CellAt.ne h ha; simp; omega)).trans h
theorem opn_new (n : Nat) (b : Nat) (h : b + 2 ≤ n) : opn (Dk.newD n) (b : Int) = 0 := by
  unfold opn
  have e : (Dk.newD n).S.length = n := by simp [Dk.newD]
  rw [e, if_neg (by simp [Dk.newD]), if_neg (by omega)]
set_option maxHeartbeats 8000000 in
set_option maxRecDepth 100000 in
theorem live_any {w : World} (hV : Vars w) : Calls Tryd.prog 11 #[] w fun e w' => e = .returned (.bool true) ∧ Below w.heap.size w w' := by
  have HV : Hid (Vars w) := ⟨hV⟩
  clear hV
  have t1 := Dk.newdisk_any 2 w (by decide) (by decide)
  have kc := fun (w : World) (C : Array Value) (n c : Nat) => Lib.run_convert_bytes_const (P := Tryd.prog) w 23 5 C n c Tryd.underlying23 Tryd.underlying5
  have estr : strOfNums [97] = { data := #[97] } := by rfl
  have HG : Hid (gt (sc0 (Dk.newD 2) 0) (sc0 (Dk.newD 2) (0 + 1)) = (9, [])) := ⟨by rw [sc0_new, sc0_new]; exact gt_zz⟩
  have HG1 : Hid (gt (sc0 lv1 0) (sc0 lv1 (0 + 1)) = (0, [97])) := ⟨lv_g⟩
  have HC1 : Hid (cn2 (sc0 lv1 0) (sc0 lv1 (0 + 1)) = (0, 1, [97])) := ⟨lv_c⟩
  go_enter Tryd.func11, Tryd.ntmps11
  go_upto_region 4 with (go_at_call 6; refine t1.mono ?_; rintro e w1 hN; obtain ⟨p, g, bm, rfl, hA1, hb1⟩ := hN; clear t1)
  have HB1 : Hid (Below w.heap.size w w1) := ⟨hb1⟩
  have HA1 : Hid (Dk.At w1 p g bm w.heap.size (Dk.newD 2)) := ⟨hA1⟩
  have t2 := open_good (bs := 0) hA1 (opn_new 2 0 (by decide))
  clear hA1 hb1
  go_upto_region 7 with (go_at_call 7; refine t2.mono ?_; rintro e w2 ⟨rfl, hC2, hb2⟩; clear t2)
  obtain ⟨q, Hq⟩ : ∃ q, Hid (w1.heap.size = q) := ⟨_, ⟨rfl⟩⟩
  rw [Hq.out] at hC2 ⊢
  have HB12 : Hid (Below w1.heap.size w1 w2) := ⟨hb2⟩
  have HC2 : Hid (CellAt w2 q p ((0 : Nat) : Int) (Dk.newD 2).life) := ⟨hC2⟩
  have HB2 : Hid (Below w.heap.size w w2) := ⟨HB1.out.trans (HB12.out.mono HB1.out.size)⟩
  have HA2 : Hid (Dk.At w2 p g bm w.heap.size (Dk.newD 2)) := ⟨HA1.out.below HB12.out⟩
  clear hC2 hb2
  have t3 := get_any HA2.out HC2.out rfl (by decide) (Dg.NibsAt.below HV.out HB2.out)
  rw [HG.out] at t3
  go_upto_region 8 with (go_at_call 16; refine t3.mono ?_; rintro e w3 ⟨v3, rfl, hO3, hb3⟩; clear t3; obtain ⟨a3, c3, rfl⟩ := Oc.OwnB.slice hO3; clear hO3)
  have HB23 : Hid (Below w2.heap.size w2 w3) := ⟨hb3⟩
  clear hb3
  obtain ⟨w4, Hw4⟩ : ∃ x, Hid (w3.alloc (.cells #[.int .u8 97] 5 (1, 2)) = x) := ⟨_, ⟨rfl⟩⟩
  have HL4 : Hid (Oc.Bs w4 (.slice (some ⟨w3.heap.size, 0, none⟩) 1 1) [97]) := ⟨by rw [← Hw4.out]; exact lit_bs w3 97⟩
  have HB34 : Hid (Below w3.heap.size w3 w4) := ⟨by rw [← Hw4.out]; exact (Below.refl _ w3).alloc (Nat.le_refl _) _⟩
  have HB24 : Hid (Below w2.heap.size w2 w4) := ⟨HB23.out.trans (HB34.out.mono HB23.out.size)⟩
  have HB4 : Hid (Below w.heap.size w w4) := ⟨HB2.out.trans (HB24.out.mono HB2.out.size)⟩
  have HA4 : Hid (Dk.At w4 p g bm w.heap.size (Dk.newD 2)) := ⟨HA2.out.below HB24.out⟩
  have HC4 : Hid (CellAt w4 q p ((0 : Nat) : Int) (Dk.newD 2).life) := ⟨CellAt.below HC2.out HB24.out⟩
  have t4 := set_any HA4.out HC4.out rfl (by decide) (Dg.NibsAt.below HV.out HB4.out) _ [97] HL4.out (fun x hx => by simp at hx; omega)
  rw [lv_st.1] at t4
  go_upto_region 9 with (go_at_call 8; rw [Hw4.out]; refine t4.mono ?_; rintro e w5 ⟨rfl, hA5, hc5⟩; clear t4)
  have HA5 : Hid (Dk.At w5 p g bm w.heap.size lv1) := ⟨hA5⟩
  have HB5 : Hid (Below w.heap.size w w5) := ⟨HB4.out.trans (hc5.below HB4.out.size (fun x hx => by have := At.bp HA5.out; simp at hx; omega))⟩
  have HC5 : Hid (CellAt w5 q p ((0 : Nat) : Int) lv1.life) := ⟨by rw [lv_d.2.1]; exact CellAt.chg HC4.out HA4.out hc5⟩
  clear hA5 hc5
  have t5 := get_any HA5.out HC5.out lv_d.1 lv_d.2.2 (Dg.NibsAt.below HV.out HB5.out)
  rw [HG1.out] at t5
  go_upto_region 10 with (go_at_call 16; refine t5.mono ?_; rintro e w6 ⟨v6, rfl, hO6, hb6⟩; clear t5; obtain ⟨a6, c6, rfl⟩ := Oc.OwnB.slice hO6)
  have HB56 : Hid (Below w5.heap.size w5 w6) := ⟨hb6⟩
  have HB6 : Hid (Below w.heap.size w w6) := ⟨HB5.out.trans (HB56.out.mono HB5.out.size)⟩
  have s6 := Oc.run_str Tryd.bt (Oc.OwnB.bs hO6) 9 Tryd.underlying9
  rw [estr, show ([97] : List Int).length = 1 from rfl] at s6
  have t6 := mark_any (HA5.out.below HB56.out) (CellAt.below HC5.out HB56.out) lv_d.1 lv_d.2.2 (Dg.NibsAt.below HV.out HB6.out)
  rw [HC1.out] at t6
  clear hO6 hb6
  go_wp2_with (go_at_call 17; refine t6.mono ?_; rintro e w7 ⟨rfl, hb7⟩; clear t6; have HB7 : Hid (Below w6.heap.size w6 w7) := ⟨hb7⟩; clear hb7)
  go_ret
  exact ⟨rfl, HB6.out.trans (HB7.out.mono HB6.out.size)⟩
end Go.Proofs.YtgjjjkokmgdmjaaDoor
