/- The walk of BloomNew. -/
import Derived.Test.YtiloclekhddkfabDoorB18
namespace Go.Proofs.YtiloclekhddkfabDoor
open Go.RowKit
section
variable {w : World}
theorem newY (size ways : Int) (hf : ft size ways = true) : Calls Tryd.prog 8 #[.int .i64 size, .int .i64 ways] w fun e w' => ∃ p, e = .returned (.tuple #[.pointer (some ⟨p, 0, none⟩), .int .i64 0]) ∧ Below w.heap.size w w' := by
  refine (new_any (w := w) size ways).mono ?_
  rintro e w' ⟨h, hb⟩
  rw [if_pos hf] at h
  obtain ⟨p, hp, rfl, hF⟩ := h
  exact ⟨p, rfl, hb⟩
theorem newN (size ways : Int) (hf : ¬ ft size ways = true) : Calls Tryd.prog 8 #[.int .i64 size, .int .i64 ways] w fun e w' => e = .returned (.tuple #[.pointer none, .int .i64 2]) ∧ Below w.heap.size w w' := by
  refine (new_any (w := w) size ways).mono ?_
  rintro e w' ⟨h, hb⟩
  rw [if_neg hf] at h
  exact ⟨h, hb⟩
theorem rnewY (size ways : Int) (hf : ft size ways = true) : Calls Tryd.prog 9 #[.int .i64 size, .int .i64 ways] w fun e w' => ∃ p, e = .returned (.tuple #[.pointer (some ⟨p, 0, none⟩), .int .i64 0]) ∧ Below w.heap.size w w' := by
  refine (rnew_any (w := w) size ways).mono ?_
  rintro e w' ⟨h, hb⟩
  rw [if_pos hf] at h
  exact ⟨_, h.1, hb⟩
theorem rnewN (size ways : Int) (hf : ¬ ft size ways = true) : Calls Tryd.prog 9 #[.int .i64 size, .int .i64 ways] w fun e w' => e = .returned (.tuple #[.pointer none, .int .i64 2]) ∧ Below w.heap.size w w' := by
  refine (rnew_any (w := w) size ways).mono ?_
  rintro e w' ⟨h, hb⟩
  rw [if_neg hf] at h
  exact ⟨h, hb⟩
set_option maxHeartbeats 8000000 in
set_option maxRecDepth 100000 in
theorem new_walkY (s : List Int) (hs : Sum32 s) (bits ways : Int) (hV : Vars w) (hf : ft bits ways = true) : Calls Tryd.prog 3 #[.agg (sc s).toArray, .int .i64 bits, .int .i64 ways] w fun e w' => e = .returned (.bool true) ∧ Below w.heap.size w w' := by
  have hbox := run_boxS
  have HV := Hid.mk hV
  have Hs := Hid.mk hs
  obtain ⟨g, Hg⟩ : ∃ g, Hid (w.heap.size = g) := ⟨_, ⟨rfl⟩⟩
  obtain ⟨W, HW⟩ : ∃ W, Hid (w.alloc (.cells (sc s).toArray 22) = W) := ⟨_, ⟨rfl⟩⟩
  have HBW : Hid (Below w.heap.size w W) := ⟨by rw [← HW.out]; exact (Below.refl _ w).alloc (Nat.le_refl _) _⟩
  have HA : Hid (SumAt W g s) := ⟨by rw [← HW.out, ← Hg.out]; exact heap_alloc_new w _⟩
  obtain ⟨PL, HPL⟩ : ∃ l, Hid (plc s bits ways = l) := ⟨_, ⟨rfl⟩⟩
  obtain ⟨n, Hn⟩ : ∃ n, Hid (PL.length = n) := ⟨_, ⟨rfl⟩⟩
  have hnb : n ≤ 8 := by rw [← Hn.out, ← HPL.out]; exact plc_len s bits ways
  clear hV hs
  have t1 := newY (w := W) bits ways hf
  go_enter Tryd.func3, Tryd.ntmps3
  go_upto_region 1 with fail
  rw [HW.out, Hg.out]
  go_upto_region 5 with (first
    | (go_at_call 8; refine t1.mono ?_; rintro e w1 ⟨p, rfl, hb1⟩; have HB1 := Hid.mk hb1; clear hb1; have t2 := rnewY (w := w1) bits ways hf)
    | (go_at_call 9; refine t2.mono ?_; rintro e w2 ⟨q, rfl, hb2⟩; have HB2 : Hid (Chg [] W w2) := ⟨(Chg.ofBelow HB1.out).trans (Chg.ofBelow hb2)⟩; clear hb2; have HA2 : Hid (SumAt w2 g s) := ⟨HA.out.far HB2.out (by simp)⟩; have t3 := cplaces_any (w := w2) s Hs.out bits ways; rw [HPL.out] at t3)
    | (refine wp_loadS rfl (.tmp 3) rfl g 0 (by kernel_rfl) s (At.row HA3.out) Hs.out ?_)
    | (refine wp_loadS rfl (.tmp 3) rfl g 0 (by kernel_rfl) s (At.row HA2.out) Hs.out ?_)
    | (go_at_call 10; refine t3.mono ?_; rintro e w3 ⟨v1, rfl, hO3, hb3⟩; have HB3 : Hid (Chg [] W w3) := ⟨HB2.out.trans (Chg.ofBelow hb3)⟩; clear hb3; have HA3 : Hid (SumAt w3 g s) := ⟨HA.out.far HB3.out (by simp)⟩; have HO3 := Hid.mk hO3.rd; clear hO3; have t4 := rplaces_any (w := w3) s Hs.out bits ways; rw [HPL.out] at t4)
    | (go_at_call 11; refine t4.mono ?_; rintro e w4 ⟨v2, rfl, hO4, hb4⟩; have HB4 : Hid (Chg [] W w4) := ⟨HB3.out.trans (Chg.ofBelow hb4)⟩; have HO1 : Hid (RdI w4 v1 PL) := ⟨Rd.far HO3.out (Chg.ofBelow (X := []) hb4) (by simp)⟩; have HO2 := Hid.mk hO4.rd; clear hO4 hb4))
  obtain ⟨a1, c1, e1, _⟩ := HO1.out.shape
  obtain ⟨a2, c2, e2, _⟩ := HO2.out.shape
  subst e1 e2
  rw [Hn.out] at HO1 HO2 ⊢
  clear HO3 HA2 HA3 t1 t2 t3 t4
  go_wp2_with fail
  go_loopg [13] n (fun gg s13 wr => ∃ k : Nat, k ≤ n ∧ n - k ≤ gg ∧ s13 = .int .i64 (k : Int) ∧ Hid (Chg [] w4 wr))
  case atStart => exact ⟨0, Nat.zero_le _, by omega, rfl, ⟨Chg.refl _ _⟩⟩
  case round =>
    obtain ⟨k, hk, hgg, rfl, HG⟩ := hrel
    by_cases hlt : k < n
    · have hltz : (k : Int) < (n : Int) := by omega
      have hkL : k < PL.length := by rw [Hn.out]; exact hlt
      have r1 : RdI wr.drew (.slice a1 n c1) PL := Rd.far HO1.out HG.out.drew (by simp)
      have r2 : RdI wr.drew (.slice a2 n c2) PL := Rd.far HO2.out HG.out.drew (by simp)
      obtain ⟨b1, o1, c1, e1, _, hcell1⟩ := r1.at hkL
      obtain ⟨b2, o2, c2, e2, _, hcell2⟩ := r2.at hkL
      rw [Hn.out] at e1 e2
      simp at e1 e2
      obtain ⟨rfl, rfl⟩ := e1
      obtain ⟨rfl, rfl⟩ := e2
      have hS0 : (fun w' => w'.cell? ⟨b1, o1 + k, none⟩ = some (.int .i64 (PL.getD k 0)) ∧ w'.cell? ⟨b2, o2 + k, none⟩ = some (.int .i64 (PL.getD k 0))) wr.drew := ⟨hcell1 k hkL, hcell2 k hkL⟩
      clear hcell1 hcell2 r1 r2
      generalize PL.getD k 0 = y at hS0
      have HC0 : Hid (Chg [] w4 wr.drew) := ⟨HG.out.drew⟩
      go_upto_region 10 with fail
      refine wp_region_held_drew (S := (fun w' => w'.cell? ⟨b1, o1 + k, none⟩ = some (.int .i64 y) ∧ w'.cell? ⟨b2, o2 + k, none⟩ = some (.int .i64 y))) (by kernel_rfl) hS0 (fun hS => ?_)
      refine wpAnyH_take (i := 0) (v := .slice (some ⟨b1, o1, none⟩) n c1) rfl (by kernel_rfl) (by kernel_rfl) (by kernel_rfl) (fun _ _ _ h => h) (Or.inl ⟨by kernel_rfl, fun _ _ => by kernel_rfl⟩) hS ?_
      refine wpAnyH_take (i := 1) (v := .int .i64 (k : Int)) rfl (by kernel_rfl) (by kernel_rfl) (by kernel_rfl) (fun _ _ _ h => h) (Or.inl ⟨by kernel_rfl, fun _ _ => by kernel_rfl⟩) hS ?_
      refine wpAnyH_take (i := 2) (v := .pointer (some ⟨b1, o1 + k, none⟩)) rfl (by kernel_rfl) (by kernel_rfl) (by kernel_rfl) (fun _ _ _ h => h) (Or.inl ⟨by kernel_rfl, fun wx hx => by go_simp⟩) hS ?_
      refine wpAnyH_take (i := 3) (v := .int .i64 y) rfl (by kernel_rfl) (by kernel_rfl) (by kernel_rfl) (fun _ _ _ h => h) (Or.inl ⟨by kernel_rfl, fun wx hx => by have h1 := hx.1; have h2 := hx.2; go_simp⟩) hS ?_
      refine wpAnyH_take (i := 4) (v := .slice (some ⟨b2, o2, none⟩) n c2) rfl (by kernel_rfl) (by kernel_rfl) (by kernel_rfl) (fun _ _ _ h => h) (Or.inl ⟨by kernel_rfl, fun _ _ => by kernel_rfl⟩) hS ?_
      refine wpAnyH_take (i := 5) (v := .int .i64 (k : Int)) rfl (by kernel_rfl) (by kernel_rfl) (by kernel_rfl) (fun _ _ _ h => h) (Or.inl ⟨by kernel_rfl, fun _ _ => by kernel_rfl⟩) hS ?_
      refine wpAnyH_take (i := 6) (v := .pointer (some ⟨b2, o2 + k, none⟩)) rfl (by kernel_rfl) (by kernel_rfl) (by kernel_rfl) (fun _ _ _ h => h) (Or.inl ⟨by kernel_rfl, fun wx hx => by go_simp⟩) hS ?_
      refine wpAnyH_take (i := 7) (v := .int .i64 y) rfl (by kernel_rfl) (by kernel_rfl) (by kernel_rfl) (fun _ _ _ h => h) (Or.inl ⟨by kernel_rfl, fun wx hx => by have h1 := hx.1; have h2 := hx.2; go_simp⟩) hS ?_
      refine wpAnyH_take (i := 8) (v := .bool false) rfl (by kernel_rfl) (by kernel_rfl) (by kernel_rfl) (fun _ _ _ h => h) (Or.inl ⟨by kernel_rfl, fun wx hx => by go_simp⟩) hS ?_
      refine wpAnyH_done (by kernel_rfl) ?_ _
      clear hS hS0
      obtain ⟨W5, H5⟩ : ∃ x, Hid (wr.drew = x) := ⟨_, ⟨rfl⟩⟩
      rw [H5.out] at HC0 ⊢
      go_simp
      go_wp2_with fail
      go_roundg (n - (k + 1))
      case measure => omega
      case rel => exact ⟨k + 1, by omega, by omega, by go_num, HC0⟩
    · obtain rfl : k = n := by omega
      have HCw : Hid (Chg [] w wr) := ⟨(Chg.ofBelow (X := []) HBW.out).trans (HB4.out.trans HG.out)⟩
      have t5 := live_any (w := wr) (vars_far HV.out HCw.out (by simp))
      go_wp2_with (go_at_call 12; refine t5.mono ?_; rintro e w6 ⟨rfl, hb6⟩)
      go_ret
      exact ⟨rfl, (HCw.out.trans (Chg.ofBelow hb6)).below (Nat.le_refl _) (by simp)⟩
set_option maxHeartbeats 8000000 in
set_option maxRecDepth 100000 in
theorem new_walkN (s : List Int) (hs : Sum32 s) (bits ways : Int) (hV : Vars w) (hf : ¬ ft bits ways = true) : Calls Tryd.prog 3 #[.agg (sc s).toArray, .int .i64 bits, .int .i64 ways] w fun e w' => e = .returned (.bool true) ∧ Below w.heap.size w w' := by
  have hbox := run_boxS
  have HV := Hid.mk hV
  have Hs := Hid.mk hs
  obtain ⟨g, Hg⟩ : ∃ g, Hid (w.heap.size = g) := ⟨_, ⟨rfl⟩⟩
  obtain ⟨W, HW⟩ : ∃ W, Hid (w.alloc (.cells (sc s).toArray 22) = W) := ⟨_, ⟨rfl⟩⟩
  have HBW : Hid (Below w.heap.size w W) := ⟨by rw [← HW.out]; exact (Below.refl _ w).alloc (Nat.le_refl _) _⟩
  have HA : Hid (SumAt W g s) := ⟨by rw [← HW.out, ← Hg.out]; exact heap_alloc_new w _⟩
  obtain ⟨PL, HPL⟩ : ∃ l, Hid (plc s bits ways = l) := ⟨_, ⟨rfl⟩⟩
  obtain ⟨n, Hn⟩ : ∃ n, Hid (PL.length = n) := ⟨_, ⟨rfl⟩⟩
  have hnb : n ≤ 8 := by rw [← Hn.out, ← HPL.out]; exact plc_len s bits ways
  clear hV hs
  have t1 := newN (w := W) bits ways hf
  go_enter Tryd.func3, Tryd.ntmps3
  go_upto_region 1 with fail
  rw [HW.out, Hg.out]
  go_upto_region 5 with (first
    | (go_at_call 8; refine t1.mono ?_; rintro e w1 ⟨rfl, hb1⟩; have HB1 := Hid.mk hb1; clear hb1; have t2 := rnewN (w := w1) bits ways hf)
    | (go_at_call 9; refine t2.mono ?_; rintro e w2 ⟨rfl, hb2⟩; have HB2 : Hid (Chg [] W w2) := ⟨(Chg.ofBelow HB1.out).trans (Chg.ofBelow hb2)⟩; clear hb2; have HA2 : Hid (SumAt w2 g s) := ⟨HA.out.far HB2.out (by simp)⟩; have t3 := cplaces_any (w := w2) s Hs.out bits ways; rw [HPL.out] at t3)
    | (refine wp_loadS rfl (.tmp 3) rfl g 0 (by kernel_rfl) s (At.row HA3.out) Hs.out ?_)
    | (refine wp_loadS rfl (.tmp 3) rfl g 0 (by kernel_rfl) s (At.row HA2.out) Hs.out ?_)
    | (go_at_call 10; refine t3.mono ?_; rintro e w3 ⟨v1, rfl, hO3, hb3⟩; have HB3 : Hid (Chg [] W w3) := ⟨HB2.out.trans (Chg.ofBelow hb3)⟩; clear hb3; have HA3 : Hid (SumAt w3 g s) := ⟨HA.out.far HB3.out (by simp)⟩; have HO3 := Hid.mk hO3.rd; clear hO3; have t4 := rplaces_any (w := w3) s Hs.out bits ways; rw [HPL.out] at t4)
    | (go_at_call 11; refine t4.mono ?_; rintro e w4 ⟨v2, rfl, hO4, hb4⟩; have HB4 : Hid (Chg [] W w4) := ⟨HB3.out.trans (Chg.ofBelow hb4)⟩; have HO1 : Hid (RdI w4 v1 PL) := ⟨Rd.far HO3.out (Chg.ofBelow (X := []) hb4) (by simp)⟩; have HO2 := Hid.mk hO4.rd; clear hO4 hb4))
  obtain ⟨a1, c1, e1, _⟩ := HO1.out.shape
  obtain ⟨a2, c2, e2, _⟩ := HO2.out.shape
  subst e1 e2
  rw [Hn.out] at HO1 HO2 ⊢
  clear HO3 HA2 HA3 t1 t2 t3 t4
  go_wp2_with fail
  go_loopg [13] n (fun gg s13 wr => ∃ k : Nat, k ≤ n ∧ n - k ≤ gg ∧ s13 = .int .i64 (k : Int) ∧ Hid (Chg [] w4 wr))
  case atStart => exact ⟨0, Nat.zero_le _, by omega, rfl, ⟨Chg.refl _ _⟩⟩
  case round =>
    obtain ⟨k, hk, hgg, rfl, HG⟩ := hrel
    by_cases hlt : k < n
    · have hltz : (k : Int) < (n : Int) := by omega
      have hkL : k < PL.length := by rw [Hn.out]; exact hlt
      have r1 : RdI wr.drew (.slice a1 n c1) PL := Rd.far HO1.out HG.out.drew (by simp)
      have r2 : RdI wr.drew (.slice a2 n c2) PL := Rd.far HO2.out HG.out.drew (by simp)
      obtain ⟨b1, o1, c1, e1, _, hcell1⟩ := r1.at hkL
      obtain ⟨b2, o2, c2, e2, _, hcell2⟩ := r2.at hkL
      rw [Hn.out] at e1 e2
      simp at e1 e2
      obtain ⟨rfl, rfl⟩ := e1
      obtain ⟨rfl, rfl⟩ := e2
      have hS0 : (fun w' => w'.cell? ⟨b1, o1 + k, none⟩ = some (.int .i64 (PL.getD k 0)) ∧ w'.cell? ⟨b2, o2 + k, none⟩ = some (.int .i64 (PL.getD k 0))) wr.drew := ⟨hcell1 k hkL, hcell2 k hkL⟩
      clear hcell1 hcell2 r1 r2
      generalize PL.getD k 0 = y at hS0
      have HC0 : Hid (Chg [] w4 wr.drew) := ⟨HG.out.drew⟩
      go_upto_region 10 with fail
      refine wp_region_held_drew (S := (fun w' => w'.cell? ⟨b1, o1 + k, none⟩ = some (.int .i64 y) ∧ w'.cell? ⟨b2, o2 + k, none⟩ = some (.int .i64 y))) (by kernel_rfl) hS0 (fun hS => ?_)
      refine wpAnyH_take (i := 0) (v := .slice (some ⟨b1, o1, none⟩) n c1) rfl (by kernel_rfl) (by kernel_rfl) (by kernel_rfl) (fun _ _ _ h => h) (Or.inl ⟨by kernel_rfl, fun _ _ => by kernel_rfl⟩) hS ?_
      refine wpAnyH_take (i := 1) (v := .int .i64 (k : Int)) rfl (by kernel_rfl) (by kernel_rfl) (by kernel_rfl) (fun _ _ _ h => h) (Or.inl ⟨by kernel_rfl, fun _ _ => by kernel_rfl⟩) hS ?_
      refine wpAnyH_take (i := 2) (v := .pointer (some ⟨b1, o1 + k, none⟩)) rfl (by kernel_rfl) (by kernel_rfl) (by kernel_rfl) (fun _ _ _ h => h) (Or.inl ⟨by kernel_rfl, fun wx hx => by go_simp⟩) hS ?_
      refine wpAnyH_take (i := 3) (v := .int .i64 y) rfl (by kernel_rfl) (by kernel_rfl) (by kernel_rfl) (fun _ _ _ h => h) (Or.inl ⟨by kernel_rfl, fun wx hx => by have h1 := hx.1; have h2 := hx.2; go_simp⟩) hS ?_
      refine wpAnyH_take (i := 4) (v := .slice (some ⟨b2, o2, none⟩) n c2) rfl (by kernel_rfl) (by kernel_rfl) (by kernel_rfl) (fun _ _ _ h => h) (Or.inl ⟨by kernel_rfl, fun _ _ => by kernel_rfl⟩) hS ?_
      refine wpAnyH_take (i := 5) (v := .int .i64 (k : Int)) rfl (by kernel_rfl) (by kernel_rfl) (by kernel_rfl) (fun _ _ _ h => h) (Or.inl ⟨by kernel_rfl, fun _ _ => by kernel_rfl⟩) hS ?_
      refine wpAnyH_take (i := 6) (v := .pointer (some ⟨b2, o2 + k, none⟩)) rfl (by kernel_rfl) (by kernel_rfl) (by kernel_rfl) (fun _ _ _ h => h) (Or.inl ⟨by kernel_rfl, fun wx hx => by go_simp⟩) hS ?_
      refine wpAnyH_take (i := 7) (v := .int .i64 y) rfl (by kernel_rfl) (by kernel_rfl) (by kernel_rfl) (fun _ _ _ h => h) (Or.inl ⟨by kernel_rfl, fun wx hx => by have h1 := hx.1; have h2 := hx.2; go_simp⟩) hS ?_
      refine wpAnyH_take (i := 8) (v := .bool false) rfl (by kernel_rfl) (by kernel_rfl) (by kernel_rfl) (fun _ _ _ h => h) (Or.inl ⟨by kernel_rfl, fun wx hx => by go_simp⟩) hS ?_
      refine wpAnyH_done (by kernel_rfl) ?_ _
      clear hS hS0
      obtain ⟨W5, H5⟩ : ∃ x, Hid (wr.drew = x) := ⟨_, ⟨rfl⟩⟩
      rw [H5.out] at HC0 ⊢
      go_simp
      go_wp2_with fail
      go_roundg (n - (k + 1))
      case measure => omega
      case rel => exact ⟨k + 1, by omega, by omega, by go_num, HC0⟩
    · obtain rfl : k = n := by omega
      have HCw : Hid (Chg [] w wr) := ⟨(Chg.ofBelow (X := []) HBW.out).trans (HB4.out.trans HG.out)⟩
      have t5 := live_any (w := wr) (vars_far HV.out HCw.out (by simp))
      go_wp2_with (go_at_call 12; refine t5.mono ?_; rintro e w6 ⟨rfl, hb6⟩)
      go_ret
      exact ⟨rfl, (HCw.out.trans (Chg.ofBelow hb6)).below (Nat.le_refl _) (by simp)⟩
end
theorem walk_bloomNew (v : Value) (s : List Int) (bits ways : Int) (w : World) (hV : Vars w) (h : v = .agg (sc s).toArray ∧ Sum32 s) (_ : (Lit.int .i64 bits).wf = true) (_ : (Lit.int .i64 ways).wf = true) : Calls Tryd.prog 3 #[v, .int .i64 bits, .int .i64 ways] w fun e w' => e = .returned (.bool true) ∧ Below w.heap.size w w' := by
  obtain ⟨rfl, hs⟩ := h
  by_cases hf : ft bits ways = true
  · exact new_walkY s hs bits ways hV hf
  · exact new_walkN s hs bits ways hV hf
end Go.Proofs.YtiloclekhddkfabDoor
