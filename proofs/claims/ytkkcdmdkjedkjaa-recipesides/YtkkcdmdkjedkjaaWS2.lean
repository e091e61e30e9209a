/- RecipeSides: the law's walk, to its end. -/
import Derived.Test.YtkkcdmdkjedkjaaWS1
namespace Go.Proofs.Ytkkcdmdkjedkjaa
open Go.RowKit Go.Lib

section
variable {w : World}
set_option maxHeartbeats 4000000 in
set_option maxRecDepth 100000 in
theorem recipeSides_bad (v : Value) (L : List Rf) (x y z : Int) (h : RdR w v L) (hL : L.length ≤ 10000000000000) (hz : ¬ chk L = 0) : Calls Try.prog 5 #[v, .int .u16 x, .int .u16 y, .int .u16 z] w fun e w' => e = .returned (.bool true) ∧ Below w.heap.size w w' := by
  have t1 := new_bad v L h hL hz
  obtain ⟨a, c, rfl, _⟩ := h.shape
  have A12 : ∀ w1, Below w.heap.size w w1 → Calls Try.prog 12 #[] w1 fun e w2 => e = .returned (.bool true) ∧ Below w.heap.size w w2 := fun w1 hb => live_at hb
  generalize chk L = C at t1 hz
  generalize L.length = m at t1 ⊢
  clear h
  go_enter Try.func5, Try.ntmps5
  go_wp2_with (first
    | (go_at_call 9; refine t1.mono ?_; rintro e w2 ⟨rfl, hb2⟩)
    | (go_at_call 12; refine (A12 _ (by assumption)).mono ?_; rintro e w5 ⟨rfl, hb5⟩))
  go_ret
  exact ⟨rfl, by assumption⟩
set_option maxHeartbeats 16000000 in
set_option maxRecDepth 100000 in
theorem recipeSides_good (v : Value) (L : List Rf) (x y z : Nat) (hx : x < 65536) (hy : y < 65536) (hz : z < 65536) (h : RdR w v L) (hR : Rt L) : Calls Try.prog 5 #[v, .int .u16 (x : Int), .int .u16 (y : Int), .int .u16 (z : Int)] w fun e w' => e = .returned (.bool true) ∧ Below w.heap.size w w' := by
  have t1 := new_any v L h hR
  have H := Hid.mk h
  have HR := Hid.mk hR
  have hsum := lens_sum hR
  obtain ⟨av, c, rfl, _⟩ := h.shape
  obtain ⟨m, Hm⟩ : ∃ n, Hid (L.length = n) := ⟨_, ⟨rfl⟩⟩
  rw [Hm.out] at H t1 ⊢
  obtain ⟨Z, HZ⟩ : ∃ Z, Hid ((lens L).sum = Z) := ⟨_, ⟨rfl⟩⟩
  rw [HZ.out] at hsum
  obtain ⟨a, Ha⟩ : ∃ a, Hid (x % (Z + 1) = a) := ⟨_, ⟨rfl⟩⟩
  have haZ : a ≤ Z := by rw [← Ha.out]; have := Nat.mod_lt x (show 0 < Z + 1 by omega); omega
  obtain ⟨b, Hb⟩ : ∃ b, Hid (y % (Z - a + 1) = b) := ⟨_, ⟨rfl⟩⟩
  have hbZ : a + b ≤ Z := by rw [← Hb.out]; have := Nat.mod_lt y (show 0 < Z - a + 1 by omega); omega
  have hA1 : (x : Int) % ((Z : Int) + 1) = (a : Int) := by rw [← Ha.out]; simp
  have hA2 : (x : Int).tmod ((Z : Int) + 1) = (a : Int) := by rw [Int.tmod_eq_emod_of_nonneg (by omega)]; exact hA1
  have hB1 : (y : Int) % ((Z : Int) - a + 1) = (b : Int) := by rw [← Hb.out, show ((Z : Int) - a + 1) = ((Z - a + 1 : Nat) : Int) by omega]; simp
  have hB2 : (y : Int).tmod ((Z : Int) - a + 1) = (b : Int) := by rw [Int.tmod_eq_emod_of_nonneg (by omega)]; exact hB1
  have hz1 : ¬ (Z : Int) + 1 = 0 := by omega
  have hz2 : ¬ (Z : Int) - a + 1 = 0 := by omega
  clear h hR
  go_enter Try.func5, Try.ntmps5
  go_upto_region 2 with (go_at_call 9; refine t1.mono ?_; rintro e w2 ⟨p, rfl, hR2, hb2⟩)
  have HB2 := Hid.mk hb2
  have HV2 : Hid (RdR w2 (.slice av m c) L) := ⟨H.out.below hb2⟩
  have HR2 := Hid.mk hR2
  have A13 : ∀ w1, Below w2.heap.size w2 w1 → Calls Try.prog 13 #[.pointer (some ⟨p, 0, none⟩)] w1 fun e w3 => e = .returned (.int .i64 (Z : Int)) ∧ Below w2.heap.size w2 w3 := fun w1 hb => by have := size_at HR2.out HR.out.few hb; rw [HZ.out] at this; exact this
  have hb20 : Below w2.heap.size w2 w2 := Below.refl _ _
  clear t1 hb2 hR2
  go_upto_region 6 with (go_at_call 13; refine (A13 _ (by assumption)).mono ?_; rintro e w3 ⟨rfl, hb3⟩)
  have HB3 := Hid.mk hb3
  have HTL : Hid (∀ f g : Int, (Rp.pcs (lens L) 0 f g).length ≤ 256) := ⟨fun f g => by have := Rp.pcs_len (lens L) 0 f g; rw [lens_len] at this; have := HR.out.few; omega⟩
  have HTT : Hid (∀ f g : Int, (Rp.tld (Rp.pcs (lens L) 0 f g)).length ≤ 131072) := ⟨fun f g => by rw [tld_len, HZ.out]; omega⟩
  have HPP : Hid (∀ f g : Int, ∀ q ∈ Rp.pcs (lens L) 0 f g, Rp.pok (lens L) q) := ⟨fun f g => pcs_pok _ _ _⟩
  have Hsd := Hid.mk (tld_sides (lens L) a b z)
  have Hl1 : Hid ((Rp.tld (Rp.pcs (lens L) 0 (a : Nat) ((a : Int) + b))).length = b) := ⟨by rw [tld_len, HZ.out]; omega⟩
  have Hl3 : Hid ((Rp.tld (Rp.pcs (lens L) 0 (a : Nat) ((a : Int) + ((b + z : Nat) : Int)))).length = min (b + z) (Z - a)) := ⟨by rw [tld_len, HZ.out]; omega⟩
  have Hri := Hid.mk (Rp.pcs_rise (lens L) 0 (a : Nat) ((a : Int) + ((b + z : Nat) : Int)))
  have C1 : ∀ w1, Below w2.heap.size w2 w1 → Calls Try.prog 20 #[.pointer (some ⟨p, 0, none⟩), .int .i64 (a : Int), .int .i64 (b : Int)] w1 fun e w4 => ∃ v, e = .returned (.tuple #[v, .int .i64 0]) ∧ RdE pv 3 ⟨0, 0, 0⟩ w4 v (Rp.pcs (lens L) 0 (a : Nat) ((a : Int) + b)) ∧ Below w1.heap.size w1 w4 := fun w1 hb => cut2_at a b (by rw [HZ.out]; omega) (by omega) HR2.out HR.out hb
  have C2 : ∀ w1, Below w2.heap.size w2 w1 → Calls Try.prog 20 #[.pointer (some ⟨p, 0, none⟩), .int .i64 ((a : Int) + b), .int .i64 (z : Int)] w1 fun e w4 => ∃ v, e = .returned (.tuple #[v, .int .i64 0]) ∧ RdE pv 3 ⟨0, 0, 0⟩ w4 v (Rp.pcs (lens L) 0 ((a + b : Nat) : Int) (((a + b : Nat) : Int) + z)) ∧ Below w1.heap.size w1 w4 := fun w1 hb => by have := cut2_at (a + b) z (by rw [HZ.out]; omega) (by omega) HR2.out HR.out hb; rw [show ((a : Int) + b) = ((a + b : Nat) : Int) by omega]; exact this
  have C3 : ∀ w1, Below w2.heap.size w2 w1 → Calls Try.prog 20 #[.pointer (some ⟨p, 0, none⟩), .int .i64 (a : Int), .int .i64 ((b : Int) + z)] w1 fun e w4 => ∃ v, e = .returned (.tuple #[v, .int .i64 0]) ∧ RdE pv 3 ⟨0, 0, 0⟩ w4 v (Rp.pcs (lens L) 0 (a : Nat) ((a : Int) + ((b + z : Nat) : Int))) ∧ Below w1.heap.size w1 w4 := fun w1 hb => by have := cut2_at a (b + z) (by rw [HZ.out]; omega) (by omega) HR2.out HR.out hb; rw [show ((b : Int) + z) = ((b + z : Nat) : Int) by omega]; exact this
  have HT1 := Hid.mk (HTL.out (a : Nat) ((a : Int) + b))
  have HT2 := Hid.mk (HTL.out ((a + b : Nat) : Int) (((a + b : Nat) : Int) + z))
  have HT3 := Hid.mk (HTL.out (a : Nat) ((a : Int) + ((b + z : Nat) : Int)))
  have HU1 := Hid.mk (HTT.out (a : Nat) ((a : Int) + b))
  have HU2 := Hid.mk (HTT.out ((a + b : Nat) : Int) (((a + b : Nat) : Int) + z))
  have HU3 := Hid.mk (HTT.out (a : Nat) ((a : Int) + ((b + z : Nat) : Int)))
  have HP1 := Hid.mk (HPP.out (a : Nat) ((a : Int) + b))
  have HP2 := Hid.mk (HPP.out ((a + b : Nat) : Int) (((a + b : Nat) : Int) + z))
  have HP3 := Hid.mk (HPP.out (a : Nat) ((a : Int) + ((b + z : Nat) : Int)))
  generalize Rp.pcs (lens L) 0 (a : Nat) ((a : Int) + b) = T1 at C1 HT1 HU1 HP1 Hsd Hl1
  generalize Rp.pcs (lens L) 0 ((a + b : Nat) : Int) (((a + b : Nat) : Int) + z) = T2 at C2 HT2 HU2 HP2 Hsd
  generalize Rp.pcs (lens L) 0 (a : Nat) ((a : Int) + ((b + z : Nat) : Int)) = T3 at C3 HT3 HU3 HP3 Hsd Hl3 Hri
  go_upto_region 7 with (go_at_call 20; refine (C1 _ HB3.out).mono ?_; rintro e w4 ⟨v4, rfl, hx4, hc4⟩)
  obtain ⟨ea4, ec4, ee4, _⟩ := hx4.shape
  subst ee4
  have HX4 := Hid.mk hx4
  have HB4 : Hid (Below w2.heap.size w2 w4) := ⟨HB3.out.trans (hc4.mono HB3.out.size)⟩
  have HC4 := Hid.mk hc4
  obtain ⟨k4, Hk4⟩ : ∃ k, Hid (T1.length = k) := ⟨_, ⟨rfl⟩⟩
  rw [Hk4.out] at HX4 ⊢
  clear hx4 hc4
  go_upto_region 8 with (go_at_call 20; refine (C2 _ HB4.out).mono ?_; rintro e w5 ⟨v5, rfl, hx5, hc5⟩)
  obtain ⟨ea5, ec5, ee5, _⟩ := hx5.shape
  subst ee5
  have HX5 := Hid.mk hx5
  have HB5 : Hid (Below w2.heap.size w2 w5) := ⟨HB4.out.trans (hc5.mono HB4.out.size)⟩
  have HC5 := Hid.mk hc5
  obtain ⟨k5, Hk5⟩ : ∃ k, Hid (T2.length = k) := ⟨_, ⟨rfl⟩⟩
  rw [Hk5.out] at HX5 ⊢
  clear hx5 hc5
  go_upto_region 9 with (go_at_call 20; refine (C3 _ HB5.out).mono ?_; rintro e w6 ⟨v6, rfl, hx6, hc6⟩)
  obtain ⟨ea6, ec6, ee6, _⟩ := hx6.shape
  subst ee6
  have HX6 := Hid.mk hx6
  have HB6 : Hid (Below w2.heap.size w2 w6) := ⟨HB5.out.trans (hc6.mono HB5.out.size)⟩
  have HC6 := Hid.mk hc6
  obtain ⟨k6, Hk6⟩ : ∃ k, Hid (T3.length = k) := ⟨_, ⟨rfl⟩⟩
  rw [Hk6.out] at HX6 ⊢
  clear hx6 hc6
  have HXa : Hid (RdE pv 3 ⟨0, 0, 0⟩ w6 (.slice ea4 k4 ec4) T1) := ⟨((HX4.out.far (Chg.ofBelow (X := []) HC5.out) (by simp)).far (Chg.ofBelow (X := []) HC6.out) (by simp))⟩
  have D1 := told_at (w := w2) (w1 := w6) HV2.out HR.out HXa.out HP1.out HT1.out HU1.out HB6.out
  go_upto_region 12 with (go_at_call 23; refine D1.mono ?_; rintro e w7 ⟨v7, rfl, hx7, hc7⟩)
  obtain ⟨ea7, ec7, ee7, _⟩ := hx7.shape
  subst ee7
  have HX7 := Hid.mk hx7
  have HB7 : Hid (Below w2.heap.size w2 w7) := ⟨HB6.out.trans (hc7.mono HB6.out.size)⟩
  have HC7 := Hid.mk hc7
  rw [Hl1.out] at HX7 ⊢
  clear hx7 hc7 D1
  have HXb : Hid (RdE pv 3 ⟨0, 0, 0⟩ w7 (.slice ea5 k5 ec5) T2) := ⟨((HX5.out.far (Chg.ofBelow (X := []) HC6.out) (by simp)).far (Chg.ofBelow (X := []) HC7.out) (by simp))⟩
  have D2 := told_at (w := w2) (w1 := w7) HV2.out HR.out HXb.out HP2.out HT2.out HU2.out HB7.out
  go_upto_region 13 with (go_at_call 23; refine D2.mono ?_; rintro e w8 ⟨v8, rfl, hx8, hc8⟩)
  obtain ⟨ea8, ec8, ee8, _⟩ := hx8.shape
  subst ee8
  have HX8 := Hid.mk hx8
  have HB8 : Hid (Below w2.heap.size w2 w8) := ⟨HB7.out.trans (hc8.mono HB7.out.size)⟩
  have HC8 := Hid.mk hc8
  obtain ⟨lq, Hlq⟩ : ∃ k, Hid ((Rp.tld T2).length = k) := ⟨_, ⟨rfl⟩⟩
  rw [Hlq.out] at HX8 ⊢
  clear hx8 hc8 D2
  have HXc : Hid (RdE pv 3 ⟨0, 0, 0⟩ w8 (.slice ea6 k6 ec6) T3) := ⟨((HX6.out.far (Chg.ofBelow (X := []) HC7.out) (by simp)).far (Chg.ofBelow (X := []) HC8.out) (by simp))⟩
  have D3 := told_at (w := w2) (w1 := w8) HV2.out HR.out HXc.out HP3.out HT3.out HU3.out HB8.out
  go_upto_region 14 with (go_at_call 23; refine D3.mono ?_; rintro e w9 ⟨v9, rfl, hx9, hc9⟩)
  obtain ⟨ea9, ec9, ee9, _⟩ := hx9.shape
  subst ee9
  have HX9 := Hid.mk hx9
  have HB9 : Hid (Below w2.heap.size w2 w9) := ⟨HB8.out.trans (hc9.mono HB8.out.size)⟩
  have HC9 := Hid.mk hc9
  obtain ⟨la, Hla⟩ : ∃ k, Hid ((Rp.tld T3).length = k) := ⟨_, ⟨rfl⟩⟩
  rw [Hla.out] at HX9 ⊢
  clear hx9 hc9 D3
  have Hsum : Hid (la = b + lq) := ⟨by rw [← Hla.out, Hsd.out, List.length_append, Hl1.out, Hlq.out]⟩
  have e := Hsum.out
  subst e
  have HA : Hid (∀ i, i < b + lq → (Rp.tld T3).getD i (0, 0) = if i < b then (Rp.tld T1).getD i (0, 0) else (Rp.tld T2).getD (i - b) (0, 0)) := ⟨fun i hi => by
    rw [Hsd.out]
    by_cases h : i < b
    · rw [if_pos h]; simp only [List.getD]; rw [List.getElem?_append_left (by rw [Hl1.out]; exact h)]
    · rw [if_neg h]; simp only [List.getD]; rw [List.getElem?_append_right (by rw [Hl1.out]; omega), Hl1.out]⟩
  have HXp : Hid (RdE tv 2 (0, 0) w9 (.slice ea7 b ec7) (Rp.tld T1)) := ⟨(HX7.out.far (Chg.ofBelow (X := []) HC8.out) (by simp)).far (Chg.ofBelow (X := []) HC9.out) (by simp)⟩
  have HXq : Hid (RdE tv 2 (0, 0) w9 (.slice ea8 lq ec8) (Rp.tld T2)) := ⟨HX8.out.far (Chg.ofBelow (X := []) HC9.out) (by simp)⟩
  have HXz : Hid (RdE pv 3 ⟨0, 0, 0⟩ w9 (.slice ea6 k6 ec6) T3) := ⟨HXc.out.far (Chg.ofBelow (X := []) HC9.out) (by simp)⟩
  have hbb : b ≤ 131072 := by omega
  have hlqb : b + lq ≤ 131072 := by rw [← Hla.out]; exact HU3.out
  have hq := ne47
  have hg := guard47
  clear A13 C1 C2 C3 hA1 hA2 hB1 hB2 hz1 hz2
  go_wp2_with fail
  go_loopg [25] (b + lq) (fun gg s25 wr => ∃ i : Nat, i ≤ b + lq ∧ b + lq - i ≤ gg ∧ s25 = .int .i64 (i : Int) ∧ Hid (Below w9.heap.size w9 wr))
  case atStart => exact ⟨0, Nat.zero_le _, by omega, rfl, ⟨Below.refl _ _⟩⟩
  case round =>
    obtain ⟨i, hi, hgg, rfl, HBr⟩ := hrel
    by_cases hlt : i < b + lq
    · have hltz : (i : Int) < (b : Int) + (lq : Int) := by omega
      have hc9 := Chg.ofBelow (X := []) HBr.out
      obtain ⟨g1, o1, d1, e1, hc1⟩ := (HX9.out.far hc9 (by simp)).at' i (by rw [Hla.out]; exact hlt)
      rw [Hla.out] at e1
      simp at e1
      obtain ⟨rfl, rfl⟩ := e1
      rw [HA.out i hlt] at hc1
      by_cases hib : i < b
      · rw [if_pos hib] at hc1
        have hibz : (i : Int) < (b : Int) := by omega
        obtain ⟨g2, o2, d2, e2, hc2⟩ := (HXp.out.far hc9 (by simp)).at' i (by rw [Hl1.out]; exact hib)
        rw [Hl1.out] at e2
        simp at e2
        obtain ⟨rfl, rfl⟩ := e2
        generalize (Rp.tld T1).getD i (0, 0) = q at hc1 hc2
        have m0 := hc1 0 (by decide)
        have m1 := hc1 1 (by decide)
        have q0 := hc2 0 (by decide)
        have q1 := hc2 1 (by decide)
        simp [tv] at m0 m1 q0 q1
        clear hc1 hc2
        have k1 : decide ((i : Int) < (b : Int)) = true := decide_eq_true hibz
        have k2 : decide (i < b) = true := decide_eq_true hib
        have k3 : decide ((b : Int) ≤ (i : Int)) = false := decide_eq_false (by omega)
        have k4 : decide (b ≤ i) = false := decide_eq_false (by omega)
        go_upto_region 19 with fail
        go_quiet (fail)
        go_wp2_with fail
        go_roundg (b + lq - (i + 1))
        case measure => omega
        case rel => exact ⟨i + 1, by omega, by omega, by go_num, ⟨below_drewN HBr.out _⟩⟩
      · rw [if_neg hib] at hc1
        have hibz : ¬ (i : Int) < (b : Int) := by omega
        obtain ⟨g2, o2, d2, e2, hc2⟩ := (HXq.out.far hc9 (by simp)).at' (i - b) (by rw [Hlq.out]; omega)
        rw [Hlq.out] at e2
        simp at e2
        obtain ⟨rfl, rfl⟩ := e2
        generalize (Rp.tld T2).getD (i - b) (0, 0) = q at hc1 hc2
        have m0 := hc1 0 (by decide)
        have m1 := hc1 1 (by decide)
        have q0 := hc2 0 (by decide)
        have q1 := hc2 1 (by decide)
        simp [tv] at m0 m1 q0 q1
        clear hc1 hc2
        have k1 : decide ((i : Int) < (b : Int)) = false := decide_eq_false hibz
        have k2 : decide (i < b) = false := decide_eq_false hib
        have k3 : decide ((b : Int) ≤ (i : Int)) = true := decide_eq_true (by omega)
        have k4 : decide (b ≤ i) = true := decide_eq_true (by omega)
        have k5 : (i : Int) - (b : Int) = ((i - b : Nat) : Int) := by omega
        have k6 : IntKind.i64.wrap ((i - b : Nat) : Int) = ((i - b : Nat) : Int) := IntWalk.i64_in _ ⟨by omega, by omega⟩
        have k7 : ((i - b : Nat) : Int) < (lq : Int) := by omega
        have k8 : ¬ lq ≤ i - b := by omega
        go_upto_region 19 with fail
        go_quiet (fail)
        go_wp2_with fail
        go_roundg (b + lq - (i + 1))
        case measure => omega
        case rel => exact ⟨i + 1, by omega, by omega, by go_num, ⟨below_drewN HBr.out _⟩⟩
    · obtain rfl : i = b + lq := by omega
      clear hgg
      rename World => wa
      have hltz : ¬ ((b : Int) + (lq : Int)) < (b : Int) + (lq : Int) := by omega
      have HBa : Hid (Below w2.heap.size w2 wa) := ⟨HB9.out.trans (HBr.out.mono HB9.out.size)⟩
      have HXa2 : Hid (RdE pv 3 ⟨0, 0, 0⟩ wa (.slice ea6 k6 ec6) T3) := ⟨HXz.out.far (Chg.ofBelow (X := []) HBr.out) (by simp)⟩
      have hk6 : k6 ≤ 256 := by rw [← Hk6.out]; exact HT3.out
      have Hup : Hid (∀ j, 1 ≤ j → j < k6 → (T3.getD (j - 1) ⟨0, 0, 0⟩).i < (T3.getD j ⟨0, 0, 0⟩).i) := ⟨fun j h1 h2 => by
        have h3 := List.pairwise_iff_getElem.1 Hri.out (j - 1) j (by rw [Hk6.out]; omega) (by rw [Hk6.out]; omega) (by omega)
        simpa [List.getD, List.getElem?_eq_getElem (show j - 1 < T3.length by rw [Hk6.out]; omega), List.getElem?_eq_getElem (show j < T3.length by rw [Hk6.out]; omega)] using h3⟩
      have hmn : min ((b : Int) + z) ((Z : Int) - a) = (b : Int) + lq := by have h1 := Hl3.out; rw [Hla.out] at h1; omega
      clear hq hg hlt
      go_upto_region 22 with fail
      go_loopg [26] (k6 + 1) (fun gg s26 wr => ∃ j : Nat, 1 ≤ j ∧ j ≤ k6 + 1 ∧ k6 + 1 - j ≤ gg ∧ s26 = .int .i64 (j : Int) ∧ Hid (Below wa.heap.size wa wr))
      case atStart => exact ⟨1, Nat.le_refl _, by omega, by omega, rfl, ⟨Below.refl _ _⟩⟩
      case round =>
        obtain ⟨j, hj1, hj, hgg, rfl, HBj⟩ := hrel
        by_cases hjl : j < k6
        · have hjlz : (j : Int) < (k6 : Int) := by omega
          have hcj := Chg.ofBelow (X := []) HBj.out
          obtain ⟨g1, o1, d1, e1, hc1⟩ := (HXa2.out.far hcj (by simp)).at' j (by rw [Hk6.out]; exact hjl)
          obtain ⟨g2, o2, d2, e2, hc2⟩ := (HXa2.out.far hcj (by simp)).at' (j - 1) (by rw [Hk6.out]; omega)
          rw [Hk6.out] at e1 e2
          simp at e1
          obtain ⟨rfl, rfl⟩ := e1
          simp at e2
          obtain ⟨⟨rfl, rfl⟩, rfl⟩ := e2
          have hr := Hup.out j hj1 hjl
          generalize T3.getD j ⟨0, 0, 0⟩ = p1 at hc1 hr
          generalize T3.getD (j - 1) ⟨0, 0, 0⟩ = p0 at hc2 hr
          have m0 := hc1 0 (by decide)
          have q0 := hc2 0 (by decide)
          simp [pv] at m0 q0
          clear hc1 hc2
          have k1 : (j : Int) - 1 = ((j - 1 : Nat) : Int) := by omega
          have k2 : IntKind.i64.wrap ((j - 1 : Nat) : Int) = ((j - 1 : Nat) : Int) := IntWalk.i64_in _ ⟨by omega, by omega⟩
          have k3 : ((j - 1 : Nat) : Int) < (k6 : Int) := by omega
          have k4 : ¬ k6 ≤ j - 1 := by omega
          have k5 : decide ((p1.i : Int) ≤ (p0.i : Int)) = false := decide_eq_false (by omega)
          have k7 : decide (p1.i ≤ p0.i) = false := decide_eq_false (by omega)
          go_upto_region 24 with fail
          go_quiet (fail)
          go_wp2_with fail
          go_roundg (k6 + 1 - (j + 1))
          case measure => omega
          case rel => exact ⟨j + 1, by omega, by omega, by omega, by go_num, ⟨below_drewN HBj.out _⟩⟩
        · have hjlz : ¬ (j : Int) < (k6 : Int) := by omega
          have HBf : Hid (Below w2.heap.size w2 wr) := ⟨HBa.out.trans (HBj.out.mono HBa.out.size)⟩
          have A12 : ∀ w1, Below w2.heap.size w2 w1 → Calls Try.prog 12 #[] w1 fun e w3 => e = .returned (.bool true) ∧ Below w2.heap.size w2 w3 := fun w1 hb => live_at hb
          have A13 : ∀ w1, Below w2.heap.size w2 w1 → Calls Try.prog 13 #[.pointer (some ⟨p, 0, none⟩)] w1 fun e w3 => e = .returned (.int .i64 (Z : Int)) ∧ Below w2.heap.size w2 w3 := fun w1 hb => by have := size_at HR2.out HR.out.few hb; rw [HZ.out] at this; exact this
          have hbf := HBf.out
          go_wp2_with (first
            | (go_at_call 12; refine (A12 _ (by assumption)).mono ?_; rintro e wx ⟨rfl, hbx⟩)
            | (go_at_call 13; refine (A13 _ (by assumption)).mono ?_; rintro e wy ⟨rfl, hby⟩))
          go_ret
          exact ⟨rfl, HB2.out.trans (Below.mono (by assumption) HB2.out.size)⟩
end
end Go.Proofs.Ytkkcdmdkjedkjaa
