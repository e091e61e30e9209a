/- RecipeCuts: the law's walk, to its end. -/
import Derived.Test.YtkkcdmdkjedkjaaWC
import Derived.Test.YtkkcdmdkjedkjaaRefFrame
namespace Go.Proofs.Ytkkcdmdkjedkjaa
open Go.RowKit Go.Lib

/-- What Cut answers. -/
def cutE (L : List Rf) (fr n : Int) : List Rp.Pc × Int := if fr < 0 ∨ n < 0 ∨ ((lens L).sum : Int) < fr then ([], 2) else (Rp.pcs (lens L) 0 fr (fr + n), 0)
theorem cutE_len (L : List Rf) (fr n : Int) (hL : L.length ≤ 256) : (cutE L fr n).1.length ≤ 256 := by
  unfold cutE
  split
  · simp
  · have := Rp.pcs_len (lens L) 0 fr (fr + n)
    rw [lens_len] at this
    simp only
    omega
theorem rde_nil (w : World) : RdE pv 3 ⟨0, 0, 0⟩ w (.slice none 0 0) [] := ⟨⟨none, 0, rfl, Nat.le_refl _, by decide, fun _ => rfl⟩, fun i hi => by simp at hi, by simp⟩
section
variable {w w1 : World}
theorem cut_at {p : Nat} {L : List Rf} (fr n : Int) (hn : n ≤ 9223372036854775807) (h : Rec w p L) (hR : Rt L) (hb : Below w.heap.size w w1) : Calls Try.prog 20 #[.pointer (some ⟨p, 0, none⟩), .int .i64 fr, .int .i64 n] w1 fun e w2 => ∃ v, e = .returned (.tuple #[v, .int .i64 (cutE L fr n).2]) ∧ RdE pv 3 ⟨0, 0, 0⟩ w2 v (cutE L fr n).1 ∧ Below w.heap.size w w2 := by
  by_cases hx : fr < 0 ∨ n < 0 ∨ ((lens L).sum : Int) < fr
  · have e : cutE L fr n = ([], 2) := by unfold cutE; rw [if_pos hx]
    rw [e]
    exact (cut_bad fr n (h.below hb) hR hx).mono (fun _ _ ⟨h1, h2⟩ => ⟨_, h1, rde_nil _, hb.trans (h2.mono hb.size)⟩)
  · have e : cutE L fr n = (Rp.pcs (lens L) 0 fr (fr + n), 0) := by unfold cutE; rw [if_neg hx]
    rw [e]
    obtain ⟨f, rfl⟩ := Int.eq_ofNat_of_zero_le (show 0 ≤ fr by omega)
    exact (cut_any (h.below hb) hR f n (by omega) (by omega)).mono (fun _ _ ⟨v, h1, h2, h3⟩ => ⟨v, h1, h2.rd _, hb.trans (h3.mono hb.size)⟩)
theorem rcut_at {v : Value} {L : List Rf} (fr n : Int) (hn : n ≤ 9223372036854775807) (h : RdR w v L) (hR : Rt L) (hb : Below w.heap.size w w1) : Calls Try.prog 21 #[v, .int .i64 fr, .int .i64 n] w1 fun e w2 => ∃ v, e = .returned (.tuple #[v, .int .i64 (cutE L fr n).2]) ∧ RdE pv 3 ⟨0, 0, 0⟩ w2 v (cutE L fr n).1 ∧ Below w1.heap.size w1 w2 := by
  by_cases hx : fr < 0 ∨ n < 0 ∨ ((lens L).sum : Int) < fr
  · have e : cutE L fr n = ([], 2) := by unfold cutE; rw [if_pos hx]
    rw [e]
    exact (rcut_bad v L fr n (h.below hb) hR hx).mono (fun _ _ ⟨h1, h2⟩ => ⟨_, h1, rde_nil _, h2 ▸ Below.refl _ _⟩)
  · have e : cutE L fr n = (Rp.pcs (lens L) 0 fr (fr + n), 0) := by unfold cutE; rw [if_neg hx]
    rw [e]
    obtain ⟨f, rfl⟩ := Int.eq_ofNat_of_zero_le (show 0 ≤ fr by omega)
    exact (rcut_any v L f n (h.below hb) hR (by omega) (by omega)).mono (fun _ _ ⟨v, h1, h2, h3⟩ => ⟨v, h1, h2.rd _, h3⟩)
theorem find_at {p : Nat} {L : List Rf} (off : Int) (ho : -9223372036854775808 ≤ off ∧ off ≤ 9223372036854775807) (h : Rec w p L) (hR : Rt L) (hb : Below w.heap.size w w1) : Calls Try.prog 18 #[.pointer (some ⟨p, 0, none⟩), .int .i64 off] w1 fun e w2 => e = .returned (.tuple #[.int .i64 (fdR (lens L) off).1, .int .i64 (fdR (lens L) off).2.1, .bool (fdR (lens L) off).2.2]) ∧ Below w.heap.size w w2 := (find_any off ho (h.below hb) hR).mono (fun _ _ ⟨h1, h2⟩ => ⟨h1, hb.trans (h2.mono hb.size)⟩)
theorem rfind_at {v : Value} {L : List Rf} (off : Int) (ho : -9223372036854775808 ≤ off ∧ off ≤ 9223372036854775807) (h : RdR w v L) (hR : Rt L) (hb : Below w.heap.size w w1) : Calls Try.prog 19 #[v, .int .i64 off] w1 fun e w2 => e = .returned (.tuple #[.int .i64 (fdR (lens L) off).1, .int .i64 (fdR (lens L) off).2.1, .bool (fdR (lens L) off).2.2]) ∧ Below w.heap.size w w2 := (rfind_any v L off ho (h.below hb) hR).mono (fun _ _ ⟨h1, h2⟩ => ⟨h1, h2 ▸ hb⟩)
end
section
variable {w : World}
set_option maxHeartbeats 4000000 in
set_option maxRecDepth 100000 in
theorem recipeCuts_bad (v : Value) (L : List Rf) (fr n : Int) (h : RdR w v L) (hL : L.length ≤ 10000000000000) (hz : ¬ chk L = 0) : Calls Try.prog 4 #[v, .int .i64 fr, .int .i64 n] w fun e w' => e = .returned (.bool true) ∧ Below w.heap.size w w' := by
  have t1 := new_bad v L h hL hz
  have H := Hid.mk h
  obtain ⟨a, c, rfl, _⟩ := h.shape
  have A10 : ∀ w1, Below w.heap.size w w1 → Calls Try.prog 10 #[.slice a L.length c] w1 fun e w2 => e = .returned (.int .i64 (chk L)) ∧ Below w.heap.size w w2 := fun w1 hb => rcheck_at H.out hL hb
  have A12 : ∀ w1, Below w.heap.size w w1 → Calls Try.prog 12 #[] w1 fun e w2 => e = .returned (.bool true) ∧ Below w.heap.size w w2 := fun w1 hb => live_at hb
  generalize chk L = C at t1 hz A10
  generalize L.length = m at t1 A10 ⊢
  clear h H
  go_enter Try.func4, Try.ntmps4
  go_wp2_with (first
    | (go_at_call 9; refine t1.mono ?_; rintro e w2 ⟨rfl, hb2⟩)
    | (go_at_call 10; refine (A10 _ (by assumption)).mono ?_; rintro e w3 ⟨rfl, hb3⟩)
    | (go_at_call 12; refine (A12 _ (by assumption)).mono ?_; rintro e w5 ⟨rfl, hb5⟩))
  go_ret
  exact ⟨rfl, by assumption⟩
set_option maxHeartbeats 4000000 in
set_option maxRecDepth 100000 in
theorem recipeCuts_good (v : Value) (L : List Rf) (fr n : Int) (hf : -9223372036854775808 ≤ fr ∧ fr ≤ 9223372036854775807) (hn : n ≤ 9223372036854775807) (h : RdR w v L) (hR : Rt L) : Calls Try.prog 4 #[v, .int .i64 fr, .int .i64 n] w fun e w' => e = .returned (.bool true) ∧ Below w.heap.size w w' := by
  have t1 := new_any v L h hR
  have H := Hid.mk h
  have HR := Hid.mk hR
  obtain ⟨a, c, rfl, _⟩ := h.shape
  obtain ⟨m, Hm⟩ : ∃ n, Hid (L.length = n) := ⟨_, ⟨rfl⟩⟩
  rw [Hm.out] at H t1 ⊢
  clear h hR
  go_enter Try.func4, Try.ntmps4
  go_upto_region 2 with (go_at_call 9; refine t1.mono ?_; rintro e w2 ⟨p, rfl, hR2, hb2⟩)
  have HB2 := Hid.mk hb2
  have HV2 : Hid (RdR w2 (.slice a m c) L) := ⟨H.out.below hb2⟩
  have HR2 := Hid.mk hR2
  have A12 : ∀ w1, Below w2.heap.size w2 w1 → Calls Try.prog 12 #[] w1 fun e w3 => e = .returned (.bool true) ∧ Below w1.heap.size w1 w3 := fun w1 hb => live_any
  have A18 : ∀ w1, Below w2.heap.size w2 w1 → Calls Try.prog 18 #[.pointer (some ⟨p, 0, none⟩), .int .i64 fr] w1 fun e w3 => e = .returned (.tuple #[.int .i64 (fdR (lens L) fr).1, .int .i64 (fdR (lens L) fr).2.1, .bool (fdR (lens L) fr).2.2]) ∧ Below w2.heap.size w2 w3 := fun w1 hb => find_at fr hf HR2.out HR.out hb
  have A19 : ∀ w1, Below w2.heap.size w2 w1 → Calls Try.prog 19 #[.slice a m c, .int .i64 fr] w1 fun e w3 => e = .returned (.tuple #[.int .i64 (fdR (lens L) fr).1, .int .i64 (fdR (lens L) fr).2.1, .bool (fdR (lens L) fr).2.2]) ∧ Below w2.heap.size w2 w3 := fun w1 hb => rfind_at fr hf HV2.out HR.out hb
  have A20 : ∀ w1, Below w2.heap.size w2 w1 → Calls Try.prog 20 #[.pointer (some ⟨p, 0, none⟩), .int .i64 fr, .int .i64 n] w1 fun e w3 => ∃ v, e = .returned (.tuple #[v, .int .i64 (cutE L fr n).2]) ∧ RdE pv 3 ⟨0, 0, 0⟩ w3 v (cutE L fr n).1 ∧ Below w2.heap.size w2 w3 := fun w1 hb => cut_at fr n hn HR2.out HR.out hb
  have A21 : ∀ w1, Below w2.heap.size w2 w1 → Calls Try.prog 21 #[.slice a m c, .int .i64 fr, .int .i64 n] w1 fun e w3 => ∃ v, e = .returned (.tuple #[v, .int .i64 (cutE L fr n).2]) ∧ RdE pv 3 ⟨0, 0, 0⟩ w3 v (cutE L fr n).1 ∧ Below w1.heap.size w1 w3 := fun w1 hb => rcut_at fr n hn HV2.out HR.out hb
  have HTl : Hid ((cutE L fr n).1.length ≤ 256) := ⟨cutE_len L fr n HR.out.few⟩
  generalize (cutE L fr n).1 = T at A20 A21 HTl
  generalize (cutE L fr n).2 = E at A20 A21
  generalize (fdR (lens L) fr).1 = F1 at A18 A19
  generalize (fdR (lens L) fr).2.1 = F2 at A18 A19
  generalize (fdR (lens L) fr).2.2 = F3 at A18 A19
  have hb20 : Below w2.heap.size w2 w2 := Below.refl _ _
  clear t1 hb2 hR2
  go_upto_region 7 with (first
    | (go_at_call 18; refine (A18 _ (by assumption)).mono ?_; rintro e w3 ⟨rfl, hb3⟩)
    | (go_at_call 19; refine (A19 _ (by assumption)).mono ?_; rintro e w4 ⟨rfl, hb4⟩)
    | (go_at_call 20; refine (A20 _ (by assumption)).mono ?_; rintro e w5 ⟨v5, rfl, hx5, hb5⟩))
  obtain ⟨a5, c5, e5, _⟩ := hx5.shape
  subst e5
  have HX5 := Hid.mk hx5
  have HB5 := Hid.mk hb5
  obtain ⟨k, Hk⟩ : ∃ k, Hid (T.length = k) := ⟨_, ⟨rfl⟩⟩
  rw [Hk.out] at HX5 ⊢
  go_upto_region 8 with (go_at_call 21; refine (A21 _ HB5.out).mono ?_; rintro e w6 ⟨v6, rfl, hx6, hb6⟩)
  obtain ⟨a6, c6, e6, _⟩ := hx6.shape
  subst e6
  have HX6 := Hid.mk hx6
  have HB6 : Hid (Below w2.heap.size w2 w6) := ⟨HB5.out.trans (hb6.mono HB5.out.size)⟩
  have HX56 : Hid (RdE pv 3 ⟨0, 0, 0⟩ w6 (.slice a5 k c5) T) := ⟨HX5.out.far (Chg.ofBelow (X := []) hb6) (by simp)⟩
  rw [Hk.out] at HX6 ⊢
  clear hx5 hx6 hb6 hb5 A18 A19 A20 A21
  have A22 : ∀ w1, Below w6.heap.size w6 w1 → Calls Try.prog 22 #[.slice a5 k c5, .slice a6 k c6] w1 fun e w3 => e = .returned (.bool true) ∧ Below w6.heap.size w6 w3 := fun w1 hb => (sameP_yes _ _ T (HX56.out.far (Chg.ofBelow (X := []) hb) (by simp)) (HX6.out.far (Chg.ofBelow (X := []) hb) (by simp)) HTl.out).mono (fun _ _ ⟨h1, h2⟩ => ⟨h1, hb.trans (h2.mono hb.size)⟩)
  go_wp2_with (first
    | (go_at_call 12; refine (A12 _ HB6.out).mono ?_; rintro e w7 ⟨rfl, hb7⟩)
    | (go_at_call 22; refine (A22 _ (by assumption)).mono ?_; rintro e w8 ⟨rfl, hb8⟩))
  go_ret
  exact ⟨rfl, HB2.out.trans ((HB6.out.trans (Below.mono (by assumption) HB6.out.size)).mono HB2.out.size)⟩
theorem walk_recipeCuts (v : Value) (L : List Rf) (fr n : Int) (W : World) (h : RefV W v L) (hf : (Lit.int .i64 fr).wf = true) (hn : (Lit.int .i64 n).wf = true) : Calls Try.prog 4 #[v, .int .i64 fr, .int .i64 n] W fun e w' => e = .returned (.bool true) ∧ Below W.heap.size W w' := by
  by_cases hz : chk L = 0
  · exact recipeCuts_good v L fr n (i64_in' hf) (i64_in' hn).2 h.rd (chk_zero.1 hz)
  · exact recipeCuts_bad v L fr n h.rd (by have := h.len; omega) hz
end
end Go.Proofs.Ytkkcdmdkjedkjaa
