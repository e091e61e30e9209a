/- RecipeNew: the law's walk. -/
import Derived.Test.YtkkcdmdkjedkjaaR10
namespace Go.Proofs.Ytkkcdmdkjedkjaa
open Go.RowKit Go.Lib

section
variable {w w1 : World}
theorem live_at (hb : Below w.heap.size w w1) : Calls Try.prog 12 #[] w1 fun e w2 => e = .returned (.bool true) ∧ Below w.heap.size w w2 := live_any.mono (fun _ _ ⟨h1, h2⟩ => ⟨h1, hb.trans (h2.mono hb.size)⟩)
theorem check_at {v : Value} {L : List Rf} (h : RdR w v L) (hL : L.length ≤ 10000000000000) (hb : Below w.heap.size w w1) : Calls Try.prog 11 #[v] w1 fun e w2 => e = .returned (.int .i64 (chk L)) ∧ Below w.heap.size w w2 := (check_any v L (h.below hb) hL).mono (fun _ _ ⟨h1, h2⟩ => ⟨h1, hb.trans (h2.mono hb.size)⟩)
theorem rcheck_at {v : Value} {L : List Rf} (h : RdR w v L) (hL : L.length ≤ 10000000000000) (hb : Below w.heap.size w w1) : Calls Try.prog 10 #[v] w1 fun e w2 => e = .returned (.int .i64 (chk L)) ∧ Below w.heap.size w w2 := (rcheck_any v L (h.below hb) hL).mono (fun _ _ ⟨h1, h2⟩ => ⟨h1, hb.trans (h2.mono hb.size)⟩)
theorem rsize_at {v : Value} {L : List Rf} (h : RdR w v L) (hR : Rt L) (hb : Below w.heap.size w w1) : Calls Try.prog 15 #[v] w1 fun e w2 => e = .returned (.int .i64 ((lens L).sum : Nat)) ∧ Below w.heap.size w w2 := (rsize_any v L (h.below hb) hR).mono (fun _ _ ⟨h1, h2⟩ => ⟨h1, h2 ▸ hb⟩)
theorem psize_at {v : Value} {L : List Rf} (h : RdR w v L) (hR : Rt L) (hb : Below w.heap.size w w1) : Calls Try.prog 16 #[v] w1 fun e w2 => e = .returned (.int .i64 ((lens L).sum : Nat)) ∧ Below w.heap.size w w2 := (psize_any v L (h.below hb) hR).mono (fun _ _ ⟨h1, h2⟩ => ⟨h1, hb.trans (h2.mono hb.size)⟩)
theorem size_at {p : Nat} {L : List Rf} (h : Rec w p L) (hR : L.length ≤ 256) (hb : Below w.heap.size w w1) : Calls Try.prog 13 #[.pointer (some ⟨p, 0, none⟩)] w1 fun e w2 => e = .returned (.int .i64 ((lens L).sum : Nat)) ∧ Below w.heap.size w w2 := (size_q (h.below hb) hR).mono (fun _ _ ⟨h1, n, h2⟩ => ⟨h1, by rw [h2]; exact below_drewN hb n⟩)
theorem refs_at {p : Nat} {L : List Rf} (h : Rec w p L) (hR : L.length ≤ 256) (hs : ∀ r ∈ L, Sm r.s) (hb : Below w.heap.size w w1) : Calls Try.prog 14 #[.pointer (some ⟨p, 0, none⟩)] w1 fun e w2 => ∃ v', e = .returned v' ∧ RdR w2 v' L ∧ Below w.heap.size w w2 := (refs_any (h.below hb) hR).mono (fun _ _ ⟨v, h1, h2, h3⟩ => ⟨v, h1, (h2.rd r0).toR hs, hb.trans (h3.mono hb.size)⟩)
theorem same_at {u v : Value} {L : List Rf} (h1 : RdR w1 u L) (h : RdR w v L) (hL : L.length ≤ 10000000000000) (hb : Below w.heap.size w w1) : Calls Try.prog 17 #[u, v] w1 fun e w2 => e = .returned (.bool true) ∧ Below w.heap.size w w2 := (same_yes u v L h1 (h.below hb) hL).mono (fun _ _ ⟨h1, h2⟩ => ⟨h1, hb.trans (h2.below hb.size (by simp))⟩)
end
section
variable {w : World}
set_option maxHeartbeats 4000000 in
set_option maxRecDepth 100000 in
theorem recipeNew_bad (v : Value) (L : List Rf) (h : RdR w v L) (hL : L.length ≤ 10000000000000) (hz : ¬ chk L = 0) : Calls Try.prog 3 #[v] w fun e w' => e = .returned (.bool true) ∧ Below w.heap.size w w' := by
  have t1 := new_bad v L h hL hz
  have H := Hid.mk h
  obtain ⟨a, c, rfl, _⟩ := h.shape
  have A10 : ∀ w1, Below w.heap.size w w1 → Calls Try.prog 10 #[.slice a L.length c] w1 fun e w2 => e = .returned (.int .i64 (chk L)) ∧ Below w.heap.size w w2 := fun w1 hb => rcheck_at H.out hL hb
  have A11 : ∀ w1, Below w.heap.size w w1 → Calls Try.prog 11 #[.slice a L.length c] w1 fun e w2 => e = .returned (.int .i64 (chk L)) ∧ Below w.heap.size w w2 := fun w1 hb => check_at H.out hL hb
  have A12 : ∀ w1, Below w.heap.size w w1 → Calls Try.prog 12 #[] w1 fun e w2 => e = .returned (.bool true) ∧ Below w.heap.size w w2 := fun w1 hb => live_at hb
  generalize chk L = C at t1 hz A10 A11
  generalize L.length = n at t1 A10 A11 ⊢
  clear h H
  go_enter Try.func3, Try.ntmps3
  go_wp2_with (first
    | (go_at_call 9; refine t1.mono ?_; rintro e w2 ⟨rfl, hb2⟩)
    | (go_at_call 10; refine (A10 _ (by assumption)).mono ?_; rintro e w3 ⟨rfl, hb3⟩)
    | (go_at_call 11; refine (A11 _ (by assumption)).mono ?_; rintro e w4 ⟨rfl, hb4⟩)
    | (go_at_call 12; refine (A12 _ (by assumption)).mono ?_; rintro e w5 ⟨rfl, hb5⟩)
    | (go_at_call 13; refine sizeNil_any.mono ?_; rintro e w6 ⟨rfl, rfl⟩)
    | (go_at_call 14; refine refsNil_any.mono ?_; rintro e w6 ⟨rfl, rfl⟩))
  go_ret
  exact ⟨rfl, by assumption⟩
set_option maxHeartbeats 4000000 in
set_option maxRecDepth 100000 in
theorem recipeNew_good (v : Value) (L : List Rf) (h : RdR w v L) (hR : Rt L) : Calls Try.prog 3 #[v] w fun e w' => e = .returned (.bool true) ∧ Below w.heap.size w w' := by
  have t1 := new_any v L h hR
  have H := Hid.mk h
  have HR := Hid.mk hR
  have Hz : Hid (chk L = 0) := ⟨chk_zero.2 hR⟩
  obtain ⟨a, c, rfl, _⟩ := h.shape
  obtain ⟨n, Hn⟩ : ∃ n, Hid (L.length = n) := ⟨_, ⟨rfl⟩⟩
  have hn : n ≤ 256 := by rw [← Hn.out]; exact hR.few
  rw [Hn.out] at H t1 ⊢
  clear h hR
  go_enter Try.func3, Try.ntmps3
  go_upto_region 2 with (go_at_call 9; refine t1.mono ?_; rintro e w2 ⟨p, rfl, hR2, hb2⟩)
  have HB2 := Hid.mk hb2
  have HV2 : Hid (RdR w2 (.slice a n c) L) := ⟨H.out.below hb2⟩
  have HR2 := Hid.mk hR2
  have A10 : ∀ w1, Below w2.heap.size w2 w1 → Calls Try.prog 10 #[.slice a n c] w1 fun e w3 => e = .returned (.int .i64 0) ∧ Below w2.heap.size w2 w3 := fun w1 hb => by have := rcheck_at HV2.out (by rw [Hn.out]; omega) hb; rw [Hz.out] at this; exact this
  have A11 : ∀ w1, Below w2.heap.size w2 w1 → Calls Try.prog 11 #[.slice a n c] w1 fun e w3 => e = .returned (.int .i64 0) ∧ Below w2.heap.size w2 w3 := fun w1 hb => by have := check_at HV2.out (by rw [Hn.out]; omega) hb; rw [Hz.out] at this; exact this
  have A12 : ∀ w1, Below w2.heap.size w2 w1 → Calls Try.prog 12 #[] w1 fun e w3 => e = .returned (.bool true) ∧ Below w2.heap.size w2 w3 := fun w1 hb => live_at hb
  have A13 : ∀ w1, Below w2.heap.size w2 w1 → Calls Try.prog 13 #[.pointer (some ⟨p, 0, none⟩)] w1 fun e w3 => e = .returned (.int .i64 ((lens L).sum : Nat)) ∧ Below w2.heap.size w2 w3 := fun w1 hb => size_at HR2.out HR.out.few hb
  have A14 : ∀ w1, Below w2.heap.size w2 w1 → Calls Try.prog 14 #[.pointer (some ⟨p, 0, none⟩)] w1 fun e w3 => ∃ v', e = .returned v' ∧ RdR w3 v' L ∧ Below w2.heap.size w2 w3 := fun w1 hb => refs_at HR2.out HR.out.few H.out.sums hb
  have A15 : ∀ w1, Below w2.heap.size w2 w1 → Calls Try.prog 15 #[.slice a n c] w1 fun e w3 => e = .returned (.int .i64 ((lens L).sum : Nat)) ∧ Below w2.heap.size w2 w3 := fun w1 hb => rsize_at HV2.out HR.out hb
  have A16 : ∀ w1, Below w2.heap.size w2 w1 → Calls Try.prog 16 #[.slice a n c] w1 fun e w3 => e = .returned (.int .i64 ((lens L).sum : Nat)) ∧ Below w2.heap.size w2 w3 := fun w1 hb => psize_at HV2.out HR.out hb
  have A17 : ∀ w1 u, RdR w1 u L → Below w2.heap.size w2 w1 → Calls Try.prog 17 #[u, .slice a n c] w1 fun e w3 => e = .returned (.bool true) ∧ Below w2.heap.size w2 w3 := fun w1 u hu hb => same_at hu HV2.out (by rw [Hn.out]; omega) hb
  generalize (lens L).sum = Z at A13 A15 A16
  have hb20 : Below w2.heap.size w2 w2 := Below.refl _ _
  clear t1 hb2 hR2
  go_wp2_with (first
    | (go_at_call 10; refine (A10 _ (by assumption)).mono ?_; rintro e w3 ⟨rfl, hb3⟩)
    | (go_at_call 11; refine (A11 _ (by assumption)).mono ?_; rintro e w4 ⟨rfl, hb4⟩)
    | (go_at_call 12; refine (A12 _ (by assumption)).mono ?_; rintro e w5 ⟨rfl, hb5⟩)
    | (go_at_call 13; refine (A13 _ (by assumption)).mono ?_; rintro e w6 ⟨rfl, hb6⟩)
    | (go_at_call 15; refine (A15 _ (by assumption)).mono ?_; rintro e w7 ⟨rfl, hb7⟩)
    | (go_at_call 16; refine (A16 _ (by assumption)).mono ?_; rintro e w8 ⟨rfl, hb8⟩)
    | (go_at_call 14; refine (A14 _ (by assumption)).mono ?_; rintro e w9 ⟨v9, rfl, hR9, hb9⟩; obtain ⟨a9, c9, rfl, _⟩ := hR9.shape)
    | (go_at_call 17; refine (A17 _ _ (by assumption) (by assumption)).mono ?_; rintro e w10 ⟨rfl, hb10⟩))
  go_ret
  exact ⟨rfl, HB2.out.trans (Below.mono (by assumption) HB2.out.size)⟩
theorem walkNew (v : Value) (L : List Rf) (h : RdR w v L) (hL : L.length ≤ 10000000000000) : Calls Try.prog 3 #[v] w fun e w' => e = .returned (.bool true) ∧ Below w.heap.size w w' := by
  by_cases hz : chk L = 0
  · exact recipeNew_good v L h (chk_zero.1 hz)
  · exact recipeNew_bad v L h hL hz
end
end Go.Proofs.Ytkkcdmdkjedkjaa
