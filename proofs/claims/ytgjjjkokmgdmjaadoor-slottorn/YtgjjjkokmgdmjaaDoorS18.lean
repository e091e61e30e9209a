/- The walk of SlotNone. -/
import Derived.Test.YtgjjjkokmgdmjaaDoorS17
namespace Go.Proofs.YtgjjjkokmgdmjaaDoor
open Go.RowKit
theorem nil_t (w : World) : ∀ w', Below w.heap.size w w' → Calls Tryd.prog 34 #[.pointer none] w' fun e w'' => e = .returned (.int .i64 1) ∧ Below w'.heap.size w' w'' := fun w' _ =>
  cready_nil.mono fun e w'' ⟨he, hw⟩ => ⟨he, by rw [← hw]; exact Below.refl _ _⟩
theorem rdy_t {w : World} {q p g bm base : Nat} {bs lf : Int} {d : Dk.Dk} (h : Dk.At w p g bm base d) (hc : CellAt w q p bs lf) : ∀ w', Below w.heap.size w w' → Calls Tryd.prog 34 #[.pointer (some ⟨q, 0, none⟩)] w' fun e w'' => e = .returned (.int .i64 (rdy d lf)) ∧ Below w'.heap.size w' w'' := fun w' hB =>
  (cready_any (h.below hB) (CellAt.below hc hB)).mono fun e w'' ⟨he, hw⟩ => ⟨he, by rw [← hw]; exact (Below.refl _ _).drew⟩
theorem ks_nil (w : World) : Dk.Ks w (.slice none 0 0) [] := ⟨none, 0, rfl, fun j hj => by simp at hj⟩
def cr0 : Dk.Cr := ⟨[], -1, 0⟩
def nn1 : Dk.Dk := Dk.crD (Dk.newD 2) cr0
theorem nn_r : rdy nn1 0 = 14 := by
  have e : nn1.life = 1 := by
    show wrap64 (0 + 1) = 1
    exact IntWalk.wrap64_in _ ⟨by decide, by decide⟩
  unfold rdy
  rw [e, if_neg (by decide)]
set_option maxHeartbeats 8000000 in
set_option maxRecDepth 100000 in
theorem walk_slotNone (n : Int) (v : Value) (b : List Int) (w : World) (hV : Vars w) (_ : (Lit.int .i64 n).wf = true) (hb : Oc.Bs w v b ∧ Dk.Byt b) : Calls Tryd.prog 5 #[.int .i64 n, v] w fun e w' => e = .returned (.bool true) ∧ Below w.heap.size w w' := by
  have HV : Hid (Vars w) := ⟨hV⟩
  obtain ⟨a0, c0, rfl, _⟩ := hb.1
  clear hV hb
  obtain ⟨N0, hN0⟩ : ∃ N0, b.length = N0 := ⟨_, rfl⟩
  rw [hN0]
  clear hN0
  have t1 := get_bad (.pointer none) 1 (by decide) (nil_t w)
  go_enter Tryd.func5, Tryd.ntmps5
  go_upto_region 3 with (go_at_call 16; refine t1.mono ?_; rintro e w1 ⟨rfl, hb1⟩; clear t1)
  have HB1 : Hid (Below w.heap.size w w1) := ⟨hb1⟩
  clear hb1
  have t2 := open_nil (w := w1) n
  go_upto_region 4 with (go_at_call 7; refine t2.mono ?_; rintro e w2 ⟨rfl, e2⟩; subst e2; clear t2)
  have t3 := Dk.newdisk_any 2 w1 (by decide) (by decide)
  go_upto_region 7 with (go_at_call 6; refine t3.mono ?_; rintro e w3 hN; obtain ⟨p, g, bm, rfl, hA3, hb3⟩ := hN; clear t3)
  have HB13 : Hid (Below w1.heap.size w1 w3) := ⟨hb3⟩
  have HA3 : Hid (Dk.At w3 p g bm w1.heap.size (Dk.newD 2)) := ⟨hA3⟩
  have HB3 : Hid (Below w.heap.size w w3) := ⟨HB1.out.trans (HB13.out.mono HB1.out.size)⟩
  have t4 := open_good (bs := 0) hA3 (opn_new 2 0 (by decide))
  clear hA3 hb3
  go_upto_region 8 with (go_at_call 7; refine t4.mono ?_; rintro e w4 ⟨rfl, hC4, hb4⟩; clear t4)
  obtain ⟨q, Hq⟩ : ∃ q, Hid (w3.heap.size = q) := ⟨_, ⟨rfl⟩⟩
  rw [Hq.out] at hC4 ⊢
  have HB34 : Hid (Below w3.heap.size w3 w4) := ⟨hb4⟩
  have HC4 : Hid (CellAt w4 q p 0 0) := ⟨hC4⟩
  have HB4 : Hid (Below w.heap.size w w4) := ⟨HB3.out.trans (HB34.out.mono HB3.out.size)⟩
  have HA4 : Hid (Dk.At w4 p g bm w1.heap.size (Dk.newD 2)) := ⟨HA3.out.below HB34.out⟩
  clear hC4 hb4
  have t5 := Dk.crash_any HA4.out (.slice none 0 0) [] (-1) 0 (ks_nil w4) (fun q hq => by simp [Value.ownBlock] at hq)
  go_upto_region 9 with (go_at_call 10; refine t5.mono ?_; rintro e w5 ⟨rfl, hA5, hc5⟩; clear t5)
  have HA5 : Hid (Dk.At w5 p g bm w1.heap.size nn1) := ⟨hA5⟩
  have HC5 : Hid (CellAt w5 q p 0 0) := ⟨CellAt.chg HC4.out HA4.out hc5⟩
  have HB5 : Hid (Below w.heap.size w w5) := ⟨HB4.out.trans (hc5.below HB4.out.size (fun x hx => by have h1 := At.bp HA5.out; have h2 := HB1.out.size; simp at hx; omega))⟩
  clear hA5 hc5
  have t6 := get_bad _ _ (by rw [nn_r]; decide) (rdy_t HA5.out HC5.out)
  rw [nn_r] at t6
  go_upto_region 10 with (go_at_call 16; refine t6.mono ?_; rintro e w6 ⟨rfl, hb6⟩; clear t6)
  have HB56 : Hid (Below w5.heap.size w5 w6) := ⟨hb6⟩
  have HB6 : Hid (Below w.heap.size w w6) := ⟨HB5.out.trans (HB56.out.mono HB5.out.size)⟩
  have HA6 : Hid (Dk.At w6 p g bm w1.heap.size nn1) := ⟨HA5.out.below HB56.out⟩
  have HC6 : Hid (CellAt w6 q p 0 0) := ⟨CellAt.below HC5.out HB56.out⟩
  clear hb6
  have t7 := live_any (w := w6) (Dg.NibsAt.below HV.out HB6.out)
  go_wp2_with (first
    | (go_at_call 11; refine t7.mono ?_; rintro e w7 ⟨rfl, hb7⟩; clear t7; have HB67 : Hid (Below w6.heap.size w6 w7) := ⟨hb7⟩; clear hb7; have t8 := set_bad (w := w7) (.pointer none) (.slice a0 N0 c0) 1 (by decide) (nil_t w7))
    | (go_at_call 8; refine t8.mono ?_; rintro e w8 ⟨rfl, hb8⟩; clear t8; have HB78 : Hid (Below w7.heap.size w7 w8) := ⟨hb8⟩; clear hb8; have t9 := mark_bad (w := w8) (.pointer none) 1 (by decide) (nil_t w8))
    | (go_at_call 17; refine t9.mono ?_; rintro e w9 ⟨rfl, hb9⟩; clear t9; have HB89 : Hid (Below w8.heap.size w8 w9) := ⟨hb9⟩; clear hb9; have HB69 : Hid (Below w6.heap.size w6 w9) := ⟨HB67.out.trans ((HB78.out.trans (HB89.out.mono HB78.out.size)).mono HB67.out.size)⟩; have t10 := set_bad _ (.slice a0 N0 c0) _ (by rw [nn_r]; decide) (rdy_t (HA6.out.below HB69.out) (CellAt.below HC6.out HB69.out)); rw [nn_r] at t10)
    | (go_at_call 8; refine t10.mono ?_; rintro e w10 ⟨rfl, hb10⟩; clear t10; have HB910 : Hid (Below w9.heap.size w9 w10) := ⟨hb10⟩; clear hb10; have HB610 : Hid (Below w6.heap.size w6 w10) := ⟨HB69.out.trans (HB910.out.mono HB69.out.size)⟩; have t11 := mark_bad _ _ (by rw [nn_r]; decide) (rdy_t (HA6.out.below HB610.out) (CellAt.below HC6.out HB610.out)))
    | (go_at_call 17; refine t11.mono ?_; rintro e w11 ⟨rfl, hb11⟩; clear t11; have HB1011 : Hid (Below w10.heap.size w10 w11) := ⟨hb11⟩; clear hb11))
  go_ret
  exact ⟨rfl, HB6.out.trans ((HB610.out.trans (HB1011.out.mono HB610.out.size)).mono HB6.out.size)⟩
end Go.Proofs.YtgjjjkokmgdmjaaDoor
