/- The program's Merge. -/
import Derived.Test.YtiloclekhddkfabDoorB16
namespace Go.Proofs.YtiloclekhddkfabDoor
open Go.RowKit Go.Shelf Go.Sort
section
variable {w : World}
attribute [local go_sem] Oper.semAt_some
theorem mergeNilL_any (v : Option Addr) : Calls Tryd.prog 24 #[.pointer none, .pointer v] w fun e w' => e = .returned (.int .i64 1) ∧ Below w.heap.size w w' := by
  go_enter Tryd.func24, Tryd.ntmps24
  go_wp2_with fail
  go_ret
  exact ⟨rfl, (Below.refl _ w).alloc (Nat.le_refl _) _⟩
theorem mergeNilR_any (p : Nat) : Calls Tryd.prog 24 #[.pointer (some ⟨p, 0, none⟩), .pointer none] w fun e w' => e = .returned (.int .i64 1) ∧ Below w.heap.size w w' := by
  go_enter Tryd.func24, Tryd.ntmps24
  go_wp2_with fail
  go_ret
  exact ⟨rfl, (Below.refl _ w).alloc (Nat.le_refl _) _⟩
set_option maxHeartbeats 8000000 in
set_option maxRecDepth 100000 in
theorem mergeNo_any {p c cap p2 c2 cap2 : Nat} {size size2 : Nat} {ways : Int} {cs cs2 : List Nat} (hne : size ≠ size2) (h : FlAt w p c cap size ways cs) (h2 : FlAt w p2 c2 cap2 size2 ways cs2) :
    Calls Tryd.prog 24 #[.pointer (some ⟨p, 0, none⟩), .pointer (some ⟨p2, 0, none⟩)] w fun e w' => e = .returned (.int .i64 2) ∧ Below w.heap.size w w' := by
  obtain ⟨b, Hb⟩ : ∃ b, Hid (w.heap.size = b) := ⟨_, ⟨rfl⟩⟩
  obtain ⟨W, HW⟩ : ∃ W, Hid (w.alloc (.cells #[.pointer (some ⟨p, 0, none⟩)] 23) = W) := ⟨_, ⟨rfl⟩⟩
  have HBW : Hid (Below w.heap.size w W) := ⟨by rw [← HW.out]; exact (Below.refl _ w).alloc (Nat.le_refl _) _⟩
  have HWs : Hid (W.heap.size = b + 1) := ⟨by rw [← HW.out, ← Hb.out]; simp⟩
  have hBx : Boxed W b 23 (.pointer (some ⟨p, 0, none⟩)) := by rw [← HW.out, ← Hb.out]; exact Boxed.new w 23 _
  have HF : Hid (FlAt W p c cap size ways cs) := ⟨h.far (X := []) (Chg.ofBelow HBW.out) (by simp) (by simp)⟩
  have HF2 : Hid (FlAt W p2 c2 cap2 size2 ways cs2) := ⟨h2.far (X := []) (Chg.ofBelow HBW.out) (by simp) (by simp)⟩
  have hcb := hBx.cell
  obtain ⟨W0, Hwd⟩ : ∃ x, Hid (W.drew = x) := ⟨_, ⟨rfl⟩⟩
  have HC0 : Hid (Chg [] W W0) := ⟨by rw [← Hwd.out]; exact (Chg.refl [] W).drew⟩
  have HW0s : Hid (W0.heap.size = b + 1) := ⟨by rw [← Hwd.out]; exact HWs.out⟩
  have hS0 : (fun w' => w'.cell? ⟨b, 0, none⟩ = some (.pointer (some ⟨p, 0, none⟩)) ∧ w'.cell? ⟨p, 0, none⟩ = some (.int .i64 (size : Int)) ∧ w'.cell? ⟨p, 1, none⟩ = some (.int .i64 ways) ∧ w'.cell? ⟨p2, 0, none⟩ = some (.int .i64 (size2 : Int)) ∧ w'.cell? ⟨p2, 1, none⟩ = some (.int .i64 ways)) W.drew := by
    have hf := HF.out.far (Chg.refl [] W).drew (by simp) (by simp)
    have hf2 := HF2.out.far (Chg.refl [] W).drew (by simp) (by simp)
    exact ⟨((Chg.refl [] W).drew.cell (a := ⟨b, 0, none⟩) (World.block_lt_of_cell? _ _ hcb) (by simp)).trans hcb, hf.c0, hf.c1, hf2.c0, hf2.c1⟩
  have HG0 : Hid (Below w.heap.size w W0) := ⟨HBW.out.trans (HC0.out.below HBW.out.size (by simp))⟩
  have hnz : ((size : Int) != (size2 : Int)) = true := by simp; omega
  clear h h2 hBx HF HF2
  go_enter Tryd.func24, Tryd.ntmps24
  go_upto_region 1 with fail
  rw [HW.out, Hb.out]
  go_upto_region 3 with fail
  refine wp_region_held_drew (S := (fun w' => w'.cell? ⟨b, 0, none⟩ = some (.pointer (some ⟨p, 0, none⟩)) ∧ w'.cell? ⟨p, 0, none⟩ = some (.int .i64 (size : Int)) ∧ w'.cell? ⟨p, 1, none⟩ = some (.int .i64 ways) ∧ w'.cell? ⟨p2, 0, none⟩ = some (.int .i64 (size2 : Int)) ∧ w'.cell? ⟨p2, 1, none⟩ = some (.int .i64 ways))) (by kernel_rfl) hS0 (fun hS => ?_)
  refine wpAnyH_take (i := 0) (v := .pointer (some ⟨p, 0, none⟩)) rfl (by kernel_rfl) (by kernel_rfl) (by kernel_rfl) (fun _ _ _ h => h) (Or.inl ⟨by kernel_rfl, fun wx hx => by have h0 := hx.1; have h1 := hx.2.1; have h2 := hx.2.2.1; have h3 := hx.2.2.2.1; have h4 := hx.2.2.2.2; go_simp⟩) hS ?_
  refine wpAnyH_take (i := 1) (v := .pointer (some ⟨p, 0, none⟩)) rfl (by kernel_rfl) (by kernel_rfl) (by kernel_rfl) (fun _ _ _ h => h) (Or.inl ⟨by kernel_rfl, fun wx hx => by go_simp⟩) hS ?_
  refine wpAnyH_take (i := 2) (v := .pointer (some ⟨p, 0, none⟩)) rfl (by kernel_rfl) (by kernel_rfl) (by kernel_rfl) (fun _ _ _ h => h) (Or.inl ⟨by kernel_rfl, fun wx hx => by go_simp⟩) hS ?_
  refine wpAnyH_take (i := 3) (v := .int .i64 (size : Int)) rfl (by kernel_rfl) (by kernel_rfl) (by kernel_rfl) (fun _ _ _ h => h) (Or.inl ⟨by kernel_rfl, fun wx hx => by have h0 := hx.1; have h1 := hx.2.1; have h2 := hx.2.2.1; have h3 := hx.2.2.2.1; have h4 := hx.2.2.2.2; go_simp⟩) hS ?_
  refine wpAnyH_take (i := 4) (v := .pointer (some ⟨p2, 0, none⟩)) rfl (by kernel_rfl) (by kernel_rfl) (by kernel_rfl) (fun _ _ _ h => h) (Or.inl ⟨by kernel_rfl, fun _ _ => by kernel_rfl⟩) hS ?_
  refine wpAnyH_take (i := 5) (v := .pointer (some ⟨p2, 0, none⟩)) rfl (by kernel_rfl) (by kernel_rfl) (by kernel_rfl) (fun _ _ _ h => h) (Or.inl ⟨by kernel_rfl, fun wx hx => by go_simp⟩) hS ?_
  refine wpAnyH_take (i := 6) (v := .pointer (some ⟨p2, 0, none⟩)) rfl (by kernel_rfl) (by kernel_rfl) (by kernel_rfl) (fun _ _ _ h => h) (Or.inl ⟨by kernel_rfl, fun wx hx => by go_simp⟩) hS ?_
  refine wpAnyH_take (i := 7) (v := .int .i64 (size2 : Int)) rfl (by kernel_rfl) (by kernel_rfl) (by kernel_rfl) (fun _ _ _ h => h) (Or.inl ⟨by kernel_rfl, fun wx hx => by have h0 := hx.1; have h1 := hx.2.1; have h2 := hx.2.2.1; have h3 := hx.2.2.2.1; have h4 := hx.2.2.2.2; go_simp⟩) hS ?_
  refine wpAnyH_take (i := 8) (v := .bool true) rfl (by kernel_rfl) (by kernel_rfl) (by kernel_rfl) (fun _ _ _ h => h) (Or.inl ⟨by kernel_rfl, fun wx hx => by go_simp⟩) hS ?_
  refine wpAnyH_take (i := 9) (v := .bool true) rfl (by kernel_rfl) (by kernel_rfl) (by kernel_rfl) (fun _ _ _ h => h) (Or.inl ⟨by kernel_rfl, fun _ _ => by kernel_rfl⟩) hS ?_
  refine wpAnyH_take (i := 10) (v := undef) rfl (by kernel_rfl) (by kernel_rfl) (by kernel_rfl) (fun _ _ _ h => h) (Or.inr ⟨by kernel_rfl, rfl⟩) hS ?_
  refine wpAnyH_take (i := 11) (v := undef) rfl (by kernel_rfl) (by kernel_rfl) (by kernel_rfl) (fun _ _ _ h => h) (Or.inr ⟨by kernel_rfl, rfl⟩) hS ?_
  refine wpAnyH_take (i := 12) (v := undef) rfl (by kernel_rfl) (by kernel_rfl) (by kernel_rfl) (fun _ _ _ h => h) (Or.inr ⟨by kernel_rfl, rfl⟩) hS ?_
  refine wpAnyH_take (i := 13) (v := undef) rfl (by kernel_rfl) (by kernel_rfl) (by kernel_rfl) (fun _ _ _ h => h) (Or.inr ⟨by kernel_rfl, rfl⟩) hS ?_
  refine wpAnyH_take (i := 14) (v := undef) rfl (by kernel_rfl) (by kernel_rfl) (by kernel_rfl) (fun _ _ _ h => h) (Or.inr ⟨by kernel_rfl, rfl⟩) hS ?_
  refine wpAnyH_take (i := 15) (v := undef) rfl (by kernel_rfl) (by kernel_rfl) (by kernel_rfl) (fun _ _ _ h => h) (Or.inr ⟨by kernel_rfl, rfl⟩) hS ?_
  refine wpAnyH_take (i := 16) (v := undef) rfl (by kernel_rfl) (by kernel_rfl) (by kernel_rfl) (fun _ _ _ h => h) (Or.inr ⟨by kernel_rfl, rfl⟩) hS ?_
  refine wpAnyH_take (i := 17) (v := undef) rfl (by kernel_rfl) (by kernel_rfl) (by kernel_rfl) (fun _ _ _ h => h) (Or.inr ⟨by kernel_rfl, rfl⟩) hS ?_
  refine wpAnyH_take (i := 18) (v := undef) rfl (by kernel_rfl) (by kernel_rfl) (by kernel_rfl) (fun _ _ _ h => h) (Or.inr ⟨by kernel_rfl, rfl⟩) hS ?_
  refine wpAnyH_take (i := 19) (v := .bool true) rfl (by kernel_rfl) (by kernel_rfl) (by kernel_rfl) (fun _ _ _ h => h) (Or.inl ⟨by kernel_rfl, fun wx hx => by go_simp⟩) hS ?_
  refine wpAnyH_done (by kernel_rfl) ?_ _
  clear hS hS0
  rw [Hwd.out]
  go_simp
  go_wp2_with fail
  go_ret
  exact ⟨rfl, HG0.out⟩
set_option maxHeartbeats 8000000 in
set_option maxRecDepth 100000 in
theorem merge_any {p c cap p2 c2 cap2 : Nat} {size : Nat} {ways : Int} {cs cs2 : List Nat} (h : FlAt w p c cap size ways cs) (h2 : FlAt w p2 c2 cap2 size ways cs2) (hcc : c2 ≠ c) (hn : cs.length = (size + 63) / 64) (hm : ∀ n ∈ cs, n < 18446744073709551616) (hl : cs.length ≤ 1024) (hm2 : ∀ n ∈ cs2, n < 18446744073709551616) (hl2 : cs2.length ≤ 1024) (hV : Vars w) (hc0 : c ≠ 0) (hbd : ∀ x ∈ onFrom 0 cs2, x < size) :
    Calls Tryd.prog 24 #[.pointer (some ⟨p, 0, none⟩), .pointer (some ⟨p2, 0, none⟩)] w fun e w' => e = .returned (.int .i64 0) ∧ FlAt w' p c cap size ways (orL cs (onFrom 0 cs2)) ∧ Chg [c] w w' := by
  refine (callsIn_wide (n := 10)).1 ?_
  obtain ⟨b, Hb⟩ : ∃ b, Hid (w.heap.size = b) := ⟨_, ⟨rfl⟩⟩
  obtain ⟨W, HW⟩ : ∃ W, Hid (w.alloc (.cells #[.pointer (some ⟨p, 0, none⟩)] 23) = W) := ⟨_, ⟨rfl⟩⟩
  have HBW : Hid (Below w.heap.size w W) := ⟨by rw [← HW.out]; exact (Below.refl _ w).alloc (Nat.le_refl _) _⟩
  have HWs : Hid (W.heap.size = b + 1) := ⟨by rw [← HW.out, ← Hb.out]; simp⟩
  have hBx : Boxed W b 23 (.pointer (some ⟨p, 0, none⟩)) := by rw [← HW.out, ← Hb.out]; exact Boxed.new w 23 _
  have HF : Hid (FlAt W p c cap size ways cs) := ⟨h.far (X := []) (Chg.ofBelow HBW.out) (by simp) (by simp)⟩
  have HF2 : Hid (FlAt W p2 c2 cap2 size ways cs2) := ⟨h2.far (X := []) (Chg.ofBelow HBW.out) (by simp) (by simp)⟩
  have hcb := hBx.cell
  obtain ⟨W0, Hwd⟩ : ∃ x, Hid (W.drew = x) := ⟨_, ⟨rfl⟩⟩
  have HC0 : Hid (Chg [] W W0) := ⟨by rw [← Hwd.out]; exact (Chg.refl [] W).drew⟩
  have HW0s : Hid (W0.heap.size = b + 1) := ⟨by rw [← Hwd.out]; exact HWs.out⟩
  have hS0 : (fun w' => w'.cell? ⟨b, 0, none⟩ = some (.pointer (some ⟨p, 0, none⟩)) ∧ w'.cell? ⟨p, 0, none⟩ = some (.int .i64 (size : Int)) ∧ w'.cell? ⟨p, 1, none⟩ = some (.int .i64 ways) ∧ w'.cell? ⟨p2, 0, none⟩ = some (.int .i64 (size : Int)) ∧ w'.cell? ⟨p2, 1, none⟩ = some (.int .i64 ways)) W.drew := by
    have hf := HF.out.far (Chg.refl [] W).drew (by simp) (by simp)
    have hf2 := HF2.out.far (Chg.refl [] W).drew (by simp) (by simp)
    exact ⟨((Chg.refl [] W).drew.cell (a := ⟨b, 0, none⟩) (World.block_lt_of_cell? _ _ hcb) (by simp)).trans hcb, hf.c0, hf.c1, hf2.c0, hf2.c1⟩
  have t1 := on_any (w := W0) p2
  obtain ⟨W4, HW4⟩ : ∃ x, Hid (W0.alloc (.cells #[.pointer (some ⟨p2, 0, none⟩)] 23) = x) := ⟨_, ⟨rfl⟩⟩
  have HC4 : Hid (Chg [] W W4) := ⟨by rw [← HW4.out]; exact HC0.out.trans (Chg.ofBelow ((Below.refl _ W0).alloc (Nat.le_refl _) _))⟩
  have HG4 : Hid (Chg [c] w W4) := ⟨((Chg.ofBelow (X := []) HBW.out).trans HC4.out).mono (by simp)⟩
  have HW4s : Hid (W4.heap.size = b + 2) := ⟨by rw [← HW4.out]; simp [HW0s.out]⟩
  have HB4 : Hid (Boxed W4 b 23 (.pointer (some ⟨p, 0, none⟩))) := ⟨(HC4.out.block b hBx.lt (by simp)).trans hBx⟩
  have HF4 : Hid (FlAt W4 p c cap size ways cs) := ⟨HF.out.far HC4.out (by simp) (by simp)⟩
  have Hcb : Hid (c < b ∧ c2 < b ∧ p2 < b ∧ 0 < b) := ⟨by rw [← Hb.out]; exact ⟨h.clt, h2.clt, h2.lt, vars_pos hV⟩⟩
  have HSq := Hid.mk (on_stops (w := W4) (b + 1) (by rw [← HW4.out, ← HW0s.out]; exact (Boxed.new W0 23 _).cell) (HF2.out.far HC4.out (by simp) (by simp)) hm2 hl2 (vars_far (X := []) hV ((Chg.ofBelow (X := []) HBW.out).trans HC4.out) (by simp)) hbd)
  rw [HW0s.out] at t1
  obtain ⟨T, HT⟩ : ∃ T, onFrom 0 cs2 = T := ⟨_, rfl⟩
  rw [HT] at HSq ⊢
  rw [HW4.out] at t1
  clear h h2 hV hbd HT hBx HF HF2
  refine callsIn_of_wp_marks Tryd.func24 rfl trivial ?_ rfl
  simp only [Tryd.ntmps24, List.size_toArray, List.length_cons, List.length_nil, Nat.reduceAdd, Nat.reduceSub, Array.replicate_succ, Array.replicate_zero, List.push_toArray, List.append_toArray, List.nil_append, List.cons_append]
  gi_wp2
  rw [HW.out, Hb.out]
  refine wpIn_wide.2 (wp_only ?_)
  refine wp_region_held_drew (S := (fun w' => w'.cell? ⟨b, 0, none⟩ = some (.pointer (some ⟨p, 0, none⟩)) ∧ w'.cell? ⟨p, 0, none⟩ = some (.int .i64 (size : Int)) ∧ w'.cell? ⟨p, 1, none⟩ = some (.int .i64 ways) ∧ w'.cell? ⟨p2, 0, none⟩ = some (.int .i64 (size : Int)) ∧ w'.cell? ⟨p2, 1, none⟩ = some (.int .i64 ways))) (by kernel_rfl) hS0 (fun hS => ?_)
  refine wpAnyH_take (i := 0) (v := .pointer (some ⟨p, 0, none⟩)) rfl (by kernel_rfl) (by kernel_rfl) (by kernel_rfl) (fun _ _ _ h => h) (Or.inl ⟨by kernel_rfl, fun wx hx => by have h0 := hx.1; have h1 := hx.2.1; have h2 := hx.2.2.1; have h3 := hx.2.2.2.1; have h4 := hx.2.2.2.2; go_simp⟩) hS ?_
  refine wpAnyH_take (i := 1) (v := .pointer (some ⟨p, 0, none⟩)) rfl (by kernel_rfl) (by kernel_rfl) (by kernel_rfl) (fun _ _ _ h => h) (Or.inl ⟨by kernel_rfl, fun wx hx => by go_simp⟩) hS ?_
  refine wpAnyH_take (i := 2) (v := .pointer (some ⟨p, 0, none⟩)) rfl (by kernel_rfl) (by kernel_rfl) (by kernel_rfl) (fun _ _ _ h => h) (Or.inl ⟨by kernel_rfl, fun wx hx => by go_simp⟩) hS ?_
  refine wpAnyH_take (i := 3) (v := .int .i64 (size : Int)) rfl (by kernel_rfl) (by kernel_rfl) (by kernel_rfl) (fun _ _ _ h => h) (Or.inl ⟨by kernel_rfl, fun wx hx => by have h0 := hx.1; have h1 := hx.2.1; have h2 := hx.2.2.1; have h3 := hx.2.2.2.1; have h4 := hx.2.2.2.2; go_simp⟩) hS ?_
  refine wpAnyH_take (i := 4) (v := .pointer (some ⟨p2, 0, none⟩)) rfl (by kernel_rfl) (by kernel_rfl) (by kernel_rfl) (fun _ _ _ h => h) (Or.inl ⟨by kernel_rfl, fun _ _ => by kernel_rfl⟩) hS ?_
  refine wpAnyH_take (i := 5) (v := .pointer (some ⟨p2, 0, none⟩)) rfl (by kernel_rfl) (by kernel_rfl) (by kernel_rfl) (fun _ _ _ h => h) (Or.inl ⟨by kernel_rfl, fun wx hx => by go_simp⟩) hS ?_
  refine wpAnyH_take (i := 6) (v := .pointer (some ⟨p2, 0, none⟩)) rfl (by kernel_rfl) (by kernel_rfl) (by kernel_rfl) (fun _ _ _ h => h) (Or.inl ⟨by kernel_rfl, fun wx hx => by go_simp⟩) hS ?_
  refine wpAnyH_take (i := 7) (v := .int .i64 (size : Int)) rfl (by kernel_rfl) (by kernel_rfl) (by kernel_rfl) (fun _ _ _ h => h) (Or.inl ⟨by kernel_rfl, fun wx hx => by have h0 := hx.1; have h1 := hx.2.1; have h2 := hx.2.2.1; have h3 := hx.2.2.2.1; have h4 := hx.2.2.2.2; go_simp⟩) hS ?_
  refine wpAnyH_take (i := 8) (v := .bool false) rfl (by kernel_rfl) (by kernel_rfl) (by kernel_rfl) (fun _ _ _ h => h) (Or.inl ⟨by kernel_rfl, fun wx hx => by go_simp⟩) hS ?_
  refine wpAnyH_take (i := 9) (v := .bool false) rfl (by kernel_rfl) (by kernel_rfl) (by kernel_rfl) (fun _ _ _ h => h) (Or.inl ⟨by kernel_rfl, fun _ _ => by kernel_rfl⟩) hS ?_
  refine wpAnyH_take (i := 10) (v := .pointer (some ⟨p, 0, none⟩)) rfl (by kernel_rfl) (by kernel_rfl) (by kernel_rfl) (fun _ _ _ h => h) (Or.inl ⟨by kernel_rfl, fun wx hx => by have h0 := hx.1; have h1 := hx.2.1; have h2 := hx.2.2.1; have h3 := hx.2.2.2.1; have h4 := hx.2.2.2.2; go_simp⟩) hS ?_
  refine wpAnyH_take (i := 11) (v := .pointer (some ⟨p, 0, none⟩)) rfl (by kernel_rfl) (by kernel_rfl) (by kernel_rfl) (fun _ _ _ h => h) (Or.inl ⟨by kernel_rfl, fun wx hx => by go_simp⟩) hS ?_
  refine wpAnyH_take (i := 12) (v := .pointer (some ⟨p, 1, none⟩)) rfl (by kernel_rfl) (by kernel_rfl) (by kernel_rfl) (fun _ _ _ h => h) (Or.inl ⟨by kernel_rfl, fun wx hx => by go_simp⟩) hS ?_
  refine wpAnyH_take (i := 13) (v := .int .i64 ways) rfl (by kernel_rfl) (by kernel_rfl) (by kernel_rfl) (fun _ _ _ h => h) (Or.inl ⟨by kernel_rfl, fun wx hx => by have h0 := hx.1; have h1 := hx.2.1; have h2 := hx.2.2.1; have h3 := hx.2.2.2.1; have h4 := hx.2.2.2.2; go_simp⟩) hS ?_
  refine wpAnyH_take (i := 14) (v := .pointer (some ⟨p2, 0, none⟩)) rfl (by kernel_rfl) (by kernel_rfl) (by kernel_rfl) (fun _ _ _ h => h) (Or.inl ⟨by kernel_rfl, fun _ _ => by kernel_rfl⟩) hS ?_
  refine wpAnyH_take (i := 15) (v := .pointer (some ⟨p2, 0, none⟩)) rfl (by kernel_rfl) (by kernel_rfl) (by kernel_rfl) (fun _ _ _ h => h) (Or.inl ⟨by kernel_rfl, fun wx hx => by go_simp⟩) hS ?_
  refine wpAnyH_take (i := 16) (v := .pointer (some ⟨p2, 1, none⟩)) rfl (by kernel_rfl) (by kernel_rfl) (by kernel_rfl) (fun _ _ _ h => h) (Or.inl ⟨by kernel_rfl, fun wx hx => by go_simp⟩) hS ?_
  refine wpAnyH_take (i := 17) (v := .int .i64 ways) rfl (by kernel_rfl) (by kernel_rfl) (by kernel_rfl) (fun _ _ _ h => h) (Or.inl ⟨by kernel_rfl, fun wx hx => by have h0 := hx.1; have h1 := hx.2.1; have h2 := hx.2.2.1; have h3 := hx.2.2.2.1; have h4 := hx.2.2.2.2; go_simp⟩) hS ?_
  refine wpAnyH_take (i := 18) (v := .bool false) rfl (by kernel_rfl) (by kernel_rfl) (by kernel_rfl) (fun _ _ _ h => h) (Or.inl ⟨by kernel_rfl, fun wx hx => by go_simp⟩) hS ?_
  refine wpAnyH_take (i := 19) (v := .bool false) rfl (by kernel_rfl) (by kernel_rfl) (by kernel_rfl) (fun _ _ _ h => h) (Or.inl ⟨by kernel_rfl, fun wx hx => by go_simp⟩) hS ?_
  refine wpAnyH_done (by kernel_rfl) ?_ _
  clear hS hS0
  unfold only
  rw [Hwd.out]
  go_simp
  gi_wp2
  refine ⟨trivial, ?_⟩
  refine (callsIn_wide.2 t1).mono ?_
  rintro e wx ⟨rfl, ex⟩
  subst ex
  gi_wp2
  refine wpIn_rangeFunc_ownG rfl (by decide) (gf := 40) (lb := #[.pointer (some ⟨b + 1, 0, none⟩)]) rfl trivial (enters_of Tryd.func40 (by kernel_rfl) rfl)
    HSq.out (fun h k => Kc.trans h k) (kc_put (by have := Hcb.out; rw [HW4s.out]; omega)) (Below.refl _ _) (fun _ => rfl)
    (fun pre W' => (Boxed W' b 23 (.pointer (some ⟨p, 0, none⟩)) ∧ FlAt W' p c cap size ways (orL cs (pre.map (fun x => x.1)))) ∧ Chg [c] w W')
    (fun _ _ _ => False)
    (OwnFrom.and (OwnFrom.and (Own.from (boxed_own b 23 (fun _ => .pointer (some ⟨p, 0, none⟩))) _) (fl_own (fun (pre : List {x : Nat // x < size}) => orL cs (pre.map (fun x => x.1))))) (chg_own (by rw [HW4s.out, Hb.out]; omega)))
    (fun _ _ _ _ _ hs _ _ => hs)
    ⟨⟨HB4.out, HF4.out⟩, HG4.out⟩
    (fun x => { tmps := #[.pointer (some ⟨p, 0, none⟩), .pointer (some ⟨p2, 0, none⟩), .pointer (some ⟨b, 0, none⟩), undef, .int .i64 0, .int .i64 (x.1 : Int), .pointer (some ⟨p, 0, none⟩), .bool false, .bool false, .pointer (some ⟨p2, 0, none⟩), .bool false, .bool false, .pointer (some ⟨p, 0, none⟩), .pointer (some ⟨p, 0, none⟩), .pointer (some ⟨p, 0, none⟩), .int .i64 (size : Int), .pointer (some ⟨p2, 0, none⟩), .pointer (some ⟨p2, 0, none⟩), .pointer (some ⟨p2, 0, none⟩), .int .i64 (size : Int), .bool false, .bool false, .pointer (some ⟨p, 0, none⟩), .pointer (some ⟨p, 0, none⟩), .pointer (some ⟨p, 1, none⟩), .int .i64 ways, .pointer (some ⟨p2, 0, none⟩), .pointer (some ⟨p2, 0, none⟩), .pointer (some ⟨p2, 1, none⟩), .int .i64 ways, .bool false, .bool false, .pointer (some ⟨p2, 0, none⟩), .func (.func 40) #[] #[.pointer (some ⟨b + 1, 0, none⟩)], .int .i64 (x.1 : Int), undef, undef, undef], defers := [] }) ?assign ?body ?done ?stop
  case assign =>
    intro l x W K hK
    gi_wp2
    exact hK
  case body =>
    rintro l pre x W' ⟨⟨hbx, hfl⟩, hg⟩ hlt
    have hcb := hbx.cell
    have HT := turnOn_any (w := W') x.1 (by rw [orL_len, hn]; have := x.2; omega) hfl (orL_lt _ _ hm) (by rw [orL_len]; exact hl)
    gi_wp2_with (refine ⟨trivial, ?_⟩; gi_at_call 32; refine (CallsIn.inRound l (callsIn_wide.2 HT)).mono ?_; rintro e w6 ⟨rfl, hf6, hc6⟩)
    have z1 := Hcb.out
    have z2 := HW4s.out
    exact ⟨⟨hc6.size, fun k o hB hk ho => (hc6.block k (Array.getElem?_eq_some_iff.1 hk).1 (by simp; omega)).trans hk⟩, Kc.of hc6 (by simp; exact hcc) (by simp; omega), ⟨(hc6.block b hbx.lt (by simp; omega)).trans hbx, by rw [List.map_append, List.map_cons, List.map_nil, orL_snoc]; exact hf6⟩, hg.trans hc6⟩
  case done =>
    rintro D ys W' hD hys ⟨⟨hbx, hfl⟩, hg⟩ hK
    have Hys : Hid (orL cs T = orL cs (ys.map (fun x => x.1))) := ⟨by rw [← hys]⟩
    have Hfl := Hid.mk hfl
    have HDs : Hid (w.heap.size ≤ D) := ⟨by rw [HW4s.out] at hD; have := Hb.out; omega⟩
    clear hys
    gi_wp2
    refine ⟨by simp, .inl ⟨_, _, rfl, run_takeDeferred hK, ?_⟩⟩
    exact ⟨_, results_tmp rfl _ _ _, rfl, by rw [Hys.out]; exact fl_own (B := 0) (fun (_ : Unit) => orL cs (ys.map (fun x => x.1))) () W' _ (some D) Hfl.out (grownBy_putObj' W' D _) (fun r e => by cases e; exact ⟨Nat.zero_le _, _, hK, rfl⟩), chg_own (β := Unit) (Nat.le_refl _) () W' _ (some D) hg (grownBy_putObj' W' D _) (fun r e => by cases e; exact ⟨HDs.out, _, hK, rfl⟩)⟩
  case stop =>
    rintro D c pre W _ _ h _
    exact h.elim
end
end Go.Proofs.YtiloclekhddkfabDoor
