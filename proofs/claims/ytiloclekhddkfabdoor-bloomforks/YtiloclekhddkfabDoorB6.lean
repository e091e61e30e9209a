/- The document's Merge and Fork. -/
import Derived.Test.YtiloclekhddkfabDoorB5
namespace Go.Proofs.YtiloclekhddkfabDoor
open Go.RowKit

theorem info41 : (Tryd.prog.info? 41).map (·.size) = some 3 := by kernel_rfl
section
variable {w : World}
set_option maxHeartbeats 4000000 in
set_option maxRecDepth 100000 in
theorem rmerge_any {p p2 : Nat} {bits ways : Int} {v v2 : Value} {l l2 : List Int} (h : RfAt w p bits ways v l) (h2 : RfAt w p2 bits ways v2 l2) (X : List Nat) (hX : ∀ x ∈ X, x < w.heap.size) (hvp : 0 < l.length → ∀ g, v.ownBlock = some g → g ∉ X) (hup : 0 < l2.length → ∀ g, v2.ownBlock = some g → g ≠ p) (hl : l.length + l2.length ≤ 1000000) : Calls Tryd.prog 34 #[.pointer (some ⟨p, 0, none⟩), .pointer (some ⟨p2, 0, none⟩)] w fun e w' => e = .returned (.int .i64 0) ∧ (∃ v', RfAt w' p bits ways v' (layF l l2) ∧ (0 < (layF l l2).length → ∀ g, v'.ownBlock = some g → g ∉ X)) ∧ Chg [p] w w' := by
  have HF : Hid (RfAt w.drew p bits ways v l) := ⟨h.far (Chg.refl [] w).drew (by simp) (by simp)⟩
  have HF2 : Hid (RfAt w.drew p2 bits ways v2 l2) := ⟨h2.far (Chg.refl [] w).drew (by simp) (by simp)⟩
  have hS0 : (fun w' => w'.cell? ⟨p, 0, none⟩ = some (.int .i64 bits) ∧ w'.cell? ⟨p, 1, none⟩ = some (.int .i64 ways) ∧ w'.cell? ⟨p2, 0, none⟩ = some (.int .i64 bits) ∧ w'.cell? ⟨p2, 1, none⟩ = some (.int .i64 ways)) w.drew := ⟨HF.out.c0, HF.out.c1, HF2.out.c0, HF2.out.c1⟩
  have t1 := lay_any HF.out HF2.out.on hup X hX hvp hl
  have HC0 : Hid (Chg [p] w w.drew) := ⟨(Chg.refl [p] w).drew⟩
  obtain ⟨L, HL⟩ : ∃ L, Hid (layF l l2 = L) := ⟨_, ⟨rfl⟩⟩
  rw [HL.out] at t1 ⊢
  clear h h2 hvp hup hl hX
  go_enter Tryd.func34, Tryd.ntmps34
  go_upto_region 1 with fail
  refine wp_region_held_drew (S := (fun w' => w'.cell? ⟨p, 0, none⟩ = some (.int .i64 bits) ∧ w'.cell? ⟨p, 1, none⟩ = some (.int .i64 ways) ∧ w'.cell? ⟨p2, 0, none⟩ = some (.int .i64 bits) ∧ w'.cell? ⟨p2, 1, none⟩ = some (.int .i64 ways))) (by kernel_rfl) hS0 (fun hS => ?_)
  refine wpAnyH_take (i := 0) (v := .pointer (some ⟨p, 0, none⟩)) rfl (by kernel_rfl) (by kernel_rfl) (by kernel_rfl) (fun _ _ _ h => h) (Or.inl ⟨by kernel_rfl, fun _ _ => by kernel_rfl⟩) hS ?_
  refine wpAnyH_take (i := 1) (v := .pointer (some ⟨p, 0, none⟩)) rfl (by kernel_rfl) (by kernel_rfl) (by kernel_rfl) (fun _ _ _ h => h) (Or.inl ⟨by kernel_rfl, fun wx hx => by go_simp⟩) hS ?_
  refine wpAnyH_take (i := 2) (v := .pointer (some ⟨p, 0, none⟩)) rfl (by kernel_rfl) (by kernel_rfl) (by kernel_rfl) (fun _ _ _ h => h) (Or.inl ⟨by kernel_rfl, fun wx hx => by go_simp⟩) hS ?_
  refine wpAnyH_take (i := 3) (v := .int .i64 bits) rfl (by kernel_rfl) (by kernel_rfl) (by kernel_rfl) (fun _ _ _ h => h) (Or.inl ⟨by kernel_rfl, fun wx hx => by have h1 := hx.1; have h2 := hx.2.1; have h3 := hx.2.2.1; have h4 := hx.2.2.2; go_simp⟩) hS ?_
  refine wpAnyH_take (i := 4) (v := .pointer (some ⟨p2, 0, none⟩)) rfl (by kernel_rfl) (by kernel_rfl) (by kernel_rfl) (fun _ _ _ h => h) (Or.inl ⟨by kernel_rfl, fun _ _ => by kernel_rfl⟩) hS ?_
  refine wpAnyH_take (i := 5) (v := .pointer (some ⟨p2, 0, none⟩)) rfl (by kernel_rfl) (by kernel_rfl) (by kernel_rfl) (fun _ _ _ h => h) (Or.inl ⟨by kernel_rfl, fun wx hx => by go_simp⟩) hS ?_
  refine wpAnyH_take (i := 6) (v := .pointer (some ⟨p2, 0, none⟩)) rfl (by kernel_rfl) (by kernel_rfl) (by kernel_rfl) (fun _ _ _ h => h) (Or.inl ⟨by kernel_rfl, fun wx hx => by go_simp⟩) hS ?_
  refine wpAnyH_take (i := 7) (v := .int .i64 bits) rfl (by kernel_rfl) (by kernel_rfl) (by kernel_rfl) (fun _ _ _ h => h) (Or.inl ⟨by kernel_rfl, fun wx hx => by have h1 := hx.1; have h2 := hx.2.1; have h3 := hx.2.2.1; have h4 := hx.2.2.2; go_simp⟩) hS ?_
  refine wpAnyH_take (i := 8) (v := .bool false) rfl (by kernel_rfl) (by kernel_rfl) (by kernel_rfl) (fun _ _ _ h => h) (Or.inl ⟨by kernel_rfl, fun wx hx => by go_simp⟩) hS ?_
  refine wpAnyH_take (i := 9) (v := .bool false) rfl (by kernel_rfl) (by kernel_rfl) (by kernel_rfl) (fun _ _ _ h => h) (Or.inl ⟨by kernel_rfl, fun _ _ => by kernel_rfl⟩) hS ?_
  refine wpAnyH_take (i := 10) (v := .pointer (some ⟨p, 0, none⟩)) rfl (by kernel_rfl) (by kernel_rfl) (by kernel_rfl) (fun _ _ _ h => h) (Or.inl ⟨by kernel_rfl, fun _ _ => by kernel_rfl⟩) hS ?_
  refine wpAnyH_take (i := 11) (v := .pointer (some ⟨p, 0, none⟩)) rfl (by kernel_rfl) (by kernel_rfl) (by kernel_rfl) (fun _ _ _ h => h) (Or.inl ⟨by kernel_rfl, fun wx hx => by go_simp⟩) hS ?_
  refine wpAnyH_take (i := 12) (v := .pointer (some ⟨p, 1, none⟩)) rfl (by kernel_rfl) (by kernel_rfl) (by kernel_rfl) (fun _ _ _ h => h) (Or.inl ⟨by kernel_rfl, fun wx hx => by go_simp⟩) hS ?_
  refine wpAnyH_take (i := 13) (v := .int .i64 ways) rfl (by kernel_rfl) (by kernel_rfl) (by kernel_rfl) (fun _ _ _ h => h) (Or.inl ⟨by kernel_rfl, fun wx hx => by have h1 := hx.1; have h2 := hx.2.1; have h3 := hx.2.2.1; have h4 := hx.2.2.2; go_simp⟩) hS ?_
  refine wpAnyH_take (i := 14) (v := .pointer (some ⟨p2, 0, none⟩)) rfl (by kernel_rfl) (by kernel_rfl) (by kernel_rfl) (fun _ _ _ h => h) (Or.inl ⟨by kernel_rfl, fun _ _ => by kernel_rfl⟩) hS ?_
  refine wpAnyH_take (i := 15) (v := .pointer (some ⟨p2, 0, none⟩)) rfl (by kernel_rfl) (by kernel_rfl) (by kernel_rfl) (fun _ _ _ h => h) (Or.inl ⟨by kernel_rfl, fun wx hx => by go_simp⟩) hS ?_
  refine wpAnyH_take (i := 16) (v := .pointer (some ⟨p2, 1, none⟩)) rfl (by kernel_rfl) (by kernel_rfl) (by kernel_rfl) (fun _ _ _ h => h) (Or.inl ⟨by kernel_rfl, fun wx hx => by go_simp⟩) hS ?_
  refine wpAnyH_take (i := 17) (v := .int .i64 ways) rfl (by kernel_rfl) (by kernel_rfl) (by kernel_rfl) (fun _ _ _ h => h) (Or.inl ⟨by kernel_rfl, fun wx hx => by have h1 := hx.1; have h2 := hx.2.1; have h3 := hx.2.2.1; have h4 := hx.2.2.2; go_simp⟩) hS ?_
  refine wpAnyH_take (i := 18) (v := .bool false) rfl (by kernel_rfl) (by kernel_rfl) (by kernel_rfl) (fun _ _ _ h => h) (Or.inl ⟨by kernel_rfl, fun wx hx => by go_simp⟩) hS ?_
  refine wpAnyH_take (i := 19) (v := .bool false) rfl (by kernel_rfl) (by kernel_rfl) (by kernel_rfl) (fun _ _ _ h => h) (Or.inl ⟨by kernel_rfl, fun wx hx => by go_simp⟩) hS ?_
  refine wpAnyH_done (by kernel_rfl) ?_ _
  clear hS hS0
  have hc2 := HF2.out.c2
  obtain ⟨W, HW⟩ : ∃ W, Hid (w.drew = W) := ⟨_, ⟨rfl⟩⟩
  rw [HW.out] at t1 hc2 HC0 ⊢
  clear HF HF2
  go_simp
  go_wp2_with (go_at_call 33; refine t1.mono ?_; rintro e w6 ⟨rfl, ⟨v6, hR6, hV6⟩, hC6⟩; have HR6 := Hid.mk hR6; have HV6 := Hid.mk hV6; have HC6 := Hid.mk hC6; clear hR6 hV6 hC6)
  go_ret
  exact ⟨rfl, ⟨v6, HR6.out, HV6.out⟩, HC0.out.trans HC6.out⟩
set_option maxHeartbeats 4000000 in
set_option maxRecDepth 100000 in
theorem rfork_any {p : Nat} {bits ways : Int} {v : Value} {l : List Int} (h : RfAt w p bits ways v l) : Calls Tryd.prog 23 #[.pointer (some ⟨p, 0, none⟩)] w fun e w' => e = .returned (.pointer (some ⟨w.heap.size, 0, none⟩)) ∧ RfAt w' w.heap.size bits ways v l ∧ Below w.heap.size w w' := by
  obtain ⟨av, cv, rfl, _⟩ := h.on.shape
  have HB : Hid (Below w.heap.size w (w.alloc (.cells #[.int .i64 bits, .int .i64 ways, .slice av l.length cv] 41))) := ⟨(Below.refl _ w).alloc (Nat.le_refl _) _⟩
  have HN : Hid (RfAt (w.alloc (.cells #[.int .i64 bits, .int .i64 ways, .slice av l.length cv] 41)) w.heap.size bits ways (.slice av l.length cv) l) := ⟨⟨heap_alloc_new w _, Rd.far h.on (Chg.ofBelow (X := []) HB.out) (by simp)⟩⟩
  generalize l.length = n at h HB HN ⊢
  have H := Hid.mk h
  clear h
  have hi41 : (Tryd.prog.info? 41).map (·.size) = some (#[.int .i64 bits, .int .i64 ways, .slice av n cv] : Array Value).size := info41
  go_enter Tryd.func23, Tryd.ntmps23
  go_wp2_with (refine wpList_load_row rfl 41 (.tmp 5) rfl p rfl 41 #[.int .i64 bits, .int .i64 ways, .slice av n cv] (0, 0) _ H.out.row Tryd.underlying41 rfl hi41 ?_)
  go_ret
  exact ⟨rfl, HN.out, HB.out⟩
end
end Go.Proofs.YtiloclekhddkfabDoor
