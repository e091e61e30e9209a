/- The law's live; DiskNew. -/
import Derived.Test.YtmcikhdfpmkpnaaD16
import Derived.Lib.SlBytesConst
namespace Go.Proofs.Ytmcikhdfpmkpnaa
open Go.RowKit Go.Maps Go.Sort Go.Shelf

def lv1 : Dk := wrD (newD 2) 0 [97]
def lv2 : Dk := wrD lv1 0 [98]
def lv3 : Dk := crD lv2 ⟨[true], -1, 0⟩
theorem lv_e0 : wrE (newD 2) 0 1 = 0 := by decide
theorem lv_e1 : wrE lv1 0 1 = 0 := by decide
theorem lv_d : (dlI lv2.S).length = 1 := by decide
theorem lv_r : rdE lv3 0 = 0 := by decide
theorem lv_b : rdB lv3 0 = fil [98] := by rfl
theorem lv_l : lv3.life = 1 := by
  show wrap64 (0 + 1) = 1
  exact IntWalk.wrap64_in _ ⟨by decide, by decide⟩

theorem lv_f : (fil [98]).length = 128 := by simp [fil]
theorem lv_0 : (fil [98]).getD 0 0 = 98 := rfl
theorem lit_bs (w : World) (z : Int) (hz : 0 ≤ z ∧ z < 256) : Bs (w.alloc (.cells #[.int .u8 z] 5 (1, 2))) (.slice (some ⟨w.heap.size, 0, none⟩) 1 1) [z] := by
  refine ⟨_, 1, rfl, Nat.le_refl _, by decide, by simp, fun x hx i hi => ?_, fun x hx => ?_⟩
  · cases hx
    have : i = 0 := by simpa using hi
    subst this
    rw [add_plain, cell_of_row _ _ _ _ _ _ (heap_alloc_new w _)]
    rfl
  · simp at hx; subst hx; exact hz
theorem lit_ks (w : World) : Ks (w.alloc (.cells #[.bool true] 4)) (.slice (some ⟨w.heap.size, 0, none⟩) 1 1) [true] := by
  refine ⟨_, 1, rfl, fun j hj => ⟨w.heap.size, 0, rfl, ?_⟩⟩
  have : j = 0 := by simpa using hj
  subst this
  exact k_new w (.bool true) 4

theorem OwnB.shape {w : World} {base : Nat} {v : Value} {xs : List Int} (h : OwnB w base v xs) : ∃ ao cap, v = .slice ao xs.length cap ∧ ∀ j, j < xs.length → ∃ g, ao = some ⟨g, 0, none⟩ ∧ base ≤ g ∧ w.cell? ⟨g, j, none⟩ = some (.int .u8 (xs.getD j 0)) := by
  rcases h.2 with ⟨rfl, h0⟩ | ⟨g, cap, cur, rfl, hb, hh, h1, h2, h3, h4⟩
  · exact ⟨none, 0, by rw [h0], fun j hj => by omega⟩
  · refine ⟨_, cap, rfl, fun j hj => ⟨g, rfl, hb, ?_⟩⟩
    have e2 : (cur.toList.take (xs.length * 1))[j]? = (xs.map (Value.int .u8))[j]? := by rw [h4]
    rw [List.getElem?_take, if_pos (by omega)] at e2
    simp [World.cell?, hh, List.getD_eq_getElem?_getD, List.getElem?_eq_getElem hj] at e2 ⊢
    exact e2
theorem At.mono {w : World} {p g bm base base' : Nat} {d : Dk} (h : At w p g bm base d) (hb : base' ≤ base) : At w p g bm base' d := by
  obtain ⟨cap, tc, n, D, h⟩ := h
  exact ⟨cap, tc, n, D, { h with bp := ⟨Nat.le_trans hb h.bp.1, Nat.le_trans hb h.bp.2.1, Nat.le_trans hb h.bp.2.2⟩ }⟩
theorem At.bp {w : World} {p g bm base : Nat} {d : Dk} (h : At w p g bm base d) : base ≤ p ∧ base ≤ g ∧ base ≤ bm := by
  obtain ⟨cap, tc, n, D, h⟩ := h
  exact h.bp

set_option maxHeartbeats 2000000 in
set_option maxRecDepth 100000 in
theorem live_any (w : World) : Calls Try.prog 10 #[] w fun e w' => e = .returned (.bool true) ∧ Below w.heap.size w w' := by
  have t1 := newdisk_any 2 w (by decide) (by decide)
  have kc := fun (w : World) (C : Array Value) (n c : Nat) => Lib.run_convert_bytes_const (P := Try.prog) w 37 5 C n c Try.underlying37 Try.underlying5
  go_enter Try.func10, Try.ntmps10
  go_wp2_with (first
    | (go_at_call 9; refine t1.mono ?_; rintro e w1 hN; obtain ⟨p, g, bm, rfl, hA1, hb1⟩ := hN; clear t1; have t2 := write_any (hA1.below ((Below.refl _ w1).alloc (Nat.le_refl _) (.cells #[.int .u8 97] 5 (1, 2)))) 0 _ [97] (lit_bs w1 97 (by omega)); rw [show ([97] : List Int).length = 1 from rfl, lv_e0] at t2; have tok : True := trivial)
    | (go_at_call 19; have _t := tok; refine t2.mono ?_; rintro e w2 ⟨rfl, hA2, hc2⟩; clear tok t2; have t3 := write_any (d := lv1) (At.below hA2 ((Below.refl _ w2).alloc (Nat.le_refl _) (.cells #[.int .u8 98] 5 (1, 2)))) 0 _ [98] (lit_bs w2 98 (by omega)); rw [show ([98] : List Int).length = 1 from rfl, lv_e1] at t3)
    | (go_at_call 19; refine t3.mono ?_; rintro e w3 ⟨rfl, hA3, hc3⟩; clear t3; have t4 := dirty_any (d := lv2) hA3)
    | (go_at_call 14; refine t4.mono ?_; rintro e w4 ⟨v4, rfl, hv4, hb4⟩; clear t4; obtain ⟨ao4, cp4, rfl, _⟩ := hv4.shape; clear hv4; rw [lv_d]; have t5 := crash_any (d := lv2) (At.below (At.below hA3 hb4) ((Below.refl _ w4).alloc (Nat.le_refl _) (.cells #[.bool true] 4))) _ [true] (-1) 0 (lit_ks w4) (fun q hq => by have l3 := (At.below (At.below hA3 hb4) (Below.refl _ w4)).lt; simp [Value.ownBlock] at hq; omega))
    | (go_at_call 17; refine t5.mono ?_; rintro e w5 ⟨rfl, hA5, hc5⟩; clear t5; have t6 := read_any (d := lv3) hA5 0; rw [lv_r, lv_b] at t6)
    | (go_at_call 21; refine t6.mono ?_; rintro e w6 ⟨v6, rfl, hv6, hb6⟩; clear t6; obtain ⟨ao6, cp6, rfl, hc6⟩ := OwnB.shape hv6; clear hv6; rw [lv_f] at hc6 ⊢; obtain ⟨g6, rfl, _, k6⟩ := hc6 0 (by decide); rw [lv_0] at k6; clear hc6; have t7 := life_any (d := lv3) (At.below hA5 hb6); rw [lv_l] at t7)
    | (go_at_call 12; refine t7.mono ?_; rintro e w7 ⟨rfl, rfl⟩; clear t7))
  go_ret
  refine ⟨rfl, ?_⟩
  have q1 : Below w.heap.size w (w1.alloc (.cells #[.int .u8 97] 5 (1, 2))) := hb1.alloc hb1.size _
  have bp := hA1.bp
  have q2 : Below w.heap.size w w2 := q1.trans (hc2.below q1.size (fun x hx => by simp at hx; omega))
  have q3 : Below w.heap.size w (w2.alloc (.cells #[.int .u8 98] 5 (1, 2))) := q2.alloc q2.size _
  have q4 : Below w.heap.size w w3 := q3.trans (hc3.below q3.size (fun x hx => by simp at hx; omega))
  have q5 : Below w.heap.size w w4 := q4.trans (hb4.mono q4.size)
  have q6 : Below w.heap.size w (w4.alloc (.cells #[.bool true] 4)) := q5.alloc q5.size _
  have q7 : Below w.heap.size w w5 := q6.trans (hc5.below q6.size (fun x hx => by simp at hx; omega))
  exact q7.trans (hb6.mono q7.size)
end Go.Proofs.Ytmcikhdfpmkpnaa
