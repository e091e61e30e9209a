/- The walk of BloomPlays. -/
import Derived.Test.YtiloclekhddkfabDoorA4
namespace Go.Proofs.YtiloclekhddkfabDoor
open Go.RowKit
set_option maxHeartbeats 8000000 in
set_option maxRecDepth 100000 in
theorem plays_walk {w : World} (a b : Nat) (ha : a < 65536) (hb : b < 256) (v : Value) (L : List Dd) (hL : Deeds w v L) (s : List Int) (hs : Sum32 s) (hV : Vars w) : Calls Tryd.prog 4 #[.int .u16 (a : Int), .int .u8 (b : Int), v, .agg (sc s).toArray] w fun e w' => e = .returned (.bool true) ∧ Below w.heap.size w w' := by
  have hbox := run_boxS
  have HV := Hid.mk hV
  have Hs := Hid.mk hs
  obtain ⟨g, Hg⟩ : ∃ g, Hid (w.heap.size = g) := ⟨_, ⟨rfl⟩⟩
  obtain ⟨W, HW⟩ : ∃ W, Hid (w.alloc (.cells (sc s).toArray 22) = W) := ⟨_, ⟨rfl⟩⟩
  have HBW : Hid (Below w.heap.size w W) := ⟨by rw [← HW.out]; exact (Below.refl _ w).alloc (Nat.le_refl _) _⟩
  have HA0 : Hid (SumAt W g s) := ⟨by rw [← HW.out, ← Hg.out]; exact heap_alloc_new w _⟩
  have HVW : Hid (Vars W) := ⟨vars_far (X := []) hV (Chg.ofBelow HBW.out) (by simp)⟩
  have t1 := play_any (w := W) a b ha hb v L (hL.keep (Chg.ofBelow HBW.out)) HVW.out
  generalize 1 + a % 300 = size at t1
  generalize 1 + b % 8 = ways at t1
  have HgW : Hid (g < W.heap.size) := ⟨HA0.out.lt⟩
  obtain ⟨es, Hes⟩ : ∃ es, Hid ((sc s).toArray = es) := ⟨_, ⟨rfl⟩⟩
  rw [Hes.out] at HW ⊢
  clear hV hs hL
  go_enter Tryd.func4, Tryd.ntmps4
  go_upto_region 1 with fail
  rw [HW.out, Hg.out]
  go_upto_region 2 with (go_at_call 13; refine t1.mono ?_; rintro e w1 ⟨p, c, cap, r, hge, rfl, ⟨cs, vv, l, hT, hA⟩, hb1⟩; have HT := Hid.mk hT; have HA := Hid.mk hA; have HB1 := Hid.mk hb1; have Hge := Hid.mk hge; clear hT hA hb1 hge)
  have HSS : Hid (∀ w', Below w1.heap.size w1 w' → (fun w' => (loadVar 22 ⟨g, 0, none⟩).run Tryd.prog w' = .ok (.agg es) w' ∧ w'.cell? ⟨r, 0, none⟩ = some (.int .i64 (size : Int))) w') := ⟨fun w' hb => ⟨by
    rw [← Hes.out]
    exact run_loadS (At.row ((HA0.out.far (X := []) (Chg.ofBelow HB1.out) (by simp)).far (X := []) (Chg.ofBelow hb) (by simp))) Hs.out, (HT.out.below hb).rf.c0⟩⟩
  have HB9 : Hid (Below w1.heap.size w1 w1.drew) := ⟨(Chg.refl [] w1).drew.below (Nat.le_refl _) (by simp)⟩
  have hS0 : (fun w' => (loadVar 22 ⟨g, 0, none⟩).run Tryd.prog w' = .ok (.agg es) w' ∧ w'.cell? ⟨r, 0, none⟩ = some (.int .i64 (size : Int))) w1.drew := HSS.out _ HB9.out
  have t2 := live_any (w := w1.drew) (vars_far (X := []) HVW.out ((Chg.ofBelow HB1.out).trans (Chg.ofBelow HB9.out)) (by simp))
  refine wp_region_held_drew (S := (fun w' => (loadVar 22 ⟨g, 0, none⟩).run Tryd.prog w' = .ok (.agg es) w' ∧ w'.cell? ⟨r, 0, none⟩ = some (.int .i64 (size : Int)))) (by kernel_rfl) hS0 (fun hS => ?_)
  refine wpAnyH_take (i := 0) (v := .bool true) rfl (by kernel_rfl) (by kernel_rfl) (by kernel_rfl) (fun _ _ _ h => h) (Or.inl ⟨by kernel_rfl, fun _ _ => by kernel_rfl⟩) hS ?_
  refine wpAnyH_take (i := 1) (v := .bool true) rfl (by kernel_rfl) (by kernel_rfl) (by kernel_rfl) (fun _ _ _ h => h) (Or.inl ⟨by kernel_rfl, fun _ _ => by kernel_rfl⟩) hS ?_
  refine wpAnyH_ready (rs := [2]) (by kernel_rfl) (by simp) (AllReadyH.cons rfl (fun Kc hK => ?_) AllReadyH.nil)
  go_simp
  refine t2.mono ?_
  rintro e w2 ⟨rfl, hb⟩
  have HB2 : Hid (Below w1.heap.size w1 w2) := ⟨HB9.out.trans (hb.mono HB9.out.size)⟩
  refine hK.out _ _ (HSS.out _ HB2.out) (fun hS => ?_)
  clear hK hb
  have t3 := has_two (HT.out.below HB2.out) HA.out s Hs.out
  rw [Hes.out] at t3
  refine wpAnyH_take (i := 3) (v := .bool true) rfl (by kernel_rfl) (by kernel_rfl) (by kernel_rfl) (fun _ _ _ h => h) (Or.inl ⟨by kernel_rfl, fun wx hx => by go_simp⟩) hS ?_
  refine wpAnyH_take (i := 4) (v := .bool true) rfl (by kernel_rfl) (by kernel_rfl) (by kernel_rfl) (fun _ _ _ h => h) (Or.inl ⟨by kernel_rfl, fun _ _ => by kernel_rfl⟩) hS ?_
  refine wpAnyH_take (i := 5) (v := .pointer (some ⟨p, 0, none⟩)) rfl (by kernel_rfl) (by kernel_rfl) (by kernel_rfl) (fun _ _ _ h => h) (Or.inl ⟨by kernel_rfl, fun _ _ => by kernel_rfl⟩) hS ?_
  refine wpAnyH_take (i := 6) (v := .agg es) rfl (by kernel_rfl) (by kernel_rfl) (by kernel_rfl) (fun _ _ _ h => h) (Or.inl ⟨by kernel_rfl, fun wx hx => exec_load rfl g 0 (by kernel_rfl) hx.1⟩) hS ?_
  refine wpAnyH_take (i := 8) (v := .pointer (some ⟨r, 0, none⟩)) rfl (by kernel_rfl) (by kernel_rfl) (by kernel_rfl) (fun _ _ _ h => h) (Or.inl ⟨by kernel_rfl, fun _ _ => by kernel_rfl⟩) hS ?_
  refine wpAnyH_take (i := 9) (v := .agg es) rfl (by kernel_rfl) (by kernel_rfl) (by kernel_rfl) (fun _ _ _ h => h) (Or.inl ⟨by kernel_rfl, fun wx hx => exec_load rfl g 0 (by kernel_rfl) hx.1⟩) hS ?_
  refine wpAnyH_ready (rs := [7]) (by kernel_rfl) (by simp) (AllReadyH.cons rfl (fun Kc hK => ?_) AllReadyH.nil)
  go_simp
  refine t3.mono ?_
  rintro e w3 ⟨rfl, hb⟩
  have HB3 : Hid (Below w1.heap.size w1 w3) := ⟨HB2.out.trans (hb.mono HB2.out.size)⟩
  refine hK.out _ _ (HSS.out _ HB3.out) (fun hS => ?_)
  clear hK hb
  have t4 := rhas_two (HT.out.below HB3.out) HA.out s Hs.out
  rw [Hes.out] at t4
  refine wpAnyH_ready (rs := [10]) (by kernel_rfl) (by simp) (AllReadyH.cons rfl (fun Kc hK => ?_) AllReadyH.nil)
  go_simp
  refine t4.mono ?_
  rintro e w4 ⟨rfl, hb⟩
  have HB4 : Hid (Below w1.heap.size w1 w4) := ⟨HB3.out.trans (hb.mono HB3.out.size)⟩
  refine hK.out _ _ (HSS.out _ HB4.out) (fun hS => ?_)
  clear hK hb
  have t5 := size_any (HT.out.below HB4.out).fl
  refine wpAnyH_take (i := 11) (v := .bool true) rfl (by kernel_rfl) (by kernel_rfl) (by kernel_rfl) (fun _ _ _ h => h) (Or.inl ⟨by kernel_rfl, fun wx hx => by go_simp⟩) hS ?_
  refine wpAnyH_take (i := 12) (v := .bool true) rfl (by kernel_rfl) (by kernel_rfl) (by kernel_rfl) (fun _ _ _ h => h) (Or.inl ⟨by kernel_rfl, fun wx hx => by go_simp⟩) hS ?_
  refine wpAnyH_take (i := 13) (v := .bool true) rfl (by kernel_rfl) (by kernel_rfl) (by kernel_rfl) (fun _ _ _ h => h) (Or.inl ⟨by kernel_rfl, fun _ _ => by kernel_rfl⟩) hS ?_
  refine wpAnyH_take (i := 14) (v := .pointer (some ⟨p, 0, none⟩)) rfl (by kernel_rfl) (by kernel_rfl) (by kernel_rfl) (fun _ _ _ h => h) (Or.inl ⟨by kernel_rfl, fun _ _ => by kernel_rfl⟩) hS ?_
  refine wpAnyH_take (i := 16) (v := .pointer (some ⟨r, 0, none⟩)) rfl (by kernel_rfl) (by kernel_rfl) (by kernel_rfl) (fun _ _ _ h => h) (Or.inl ⟨by kernel_rfl, fun _ _ => by kernel_rfl⟩) hS ?_
  refine wpAnyH_take (i := 17) (v := .pointer (some ⟨r, 0, none⟩)) rfl (by kernel_rfl) (by kernel_rfl) (by kernel_rfl) (fun _ _ _ h => h) (Or.inl ⟨by kernel_rfl, fun wx hx => by go_simp⟩) hS ?_
  refine wpAnyH_take (i := 18) (v := .pointer (some ⟨r, 0, none⟩)) rfl (by kernel_rfl) (by kernel_rfl) (by kernel_rfl) (fun _ _ _ h => h) (Or.inl ⟨by kernel_rfl, fun wx hx => by go_simp⟩) hS ?_
  refine wpAnyH_take (i := 19) (v := .int .i64 (size : Int)) rfl (by kernel_rfl) (by kernel_rfl) (by kernel_rfl) (fun _ _ _ h => h) (Or.inl ⟨by kernel_rfl, fun wx hx => by have h1 := hx.2; go_simp⟩) hS ?_
  refine wpAnyH_ready (rs := [15]) (by kernel_rfl) (by simp) (AllReadyH.cons rfl (fun Kc hK => ?_) AllReadyH.nil)
  go_simp
  refine t5.mono ?_
  rintro e w5 ⟨rfl, ex⟩
  subst ex
  refine hK.out _ _ (HSS.out _ HB4.out) (fun hS => ?_)
  clear hK
  refine wpAnyH_take (i := 20) (v := .bool true) rfl (by kernel_rfl) (by kernel_rfl) (by kernel_rfl) (fun _ _ _ h => h) (Or.inl ⟨by kernel_rfl, fun wx hx => by go_simp⟩) hS ?_
  refine wpAnyH_take (i := 21) (v := .bool true) rfl (by kernel_rfl) (by kernel_rfl) (by kernel_rfl) (fun _ _ _ h => h) (Or.inl ⟨by kernel_rfl, fun wx hx => by go_simp⟩) hS ?_
  refine wpAnyH_take (i := 22) (v := .bool true) rfl (by kernel_rfl) (by kernel_rfl) (by kernel_rfl) (fun _ _ _ h => h) (Or.inl ⟨by kernel_rfl, fun _ _ => by kernel_rfl⟩) hS ?_
  refine wpAnyH_done (by kernel_rfl) ?_ _
  clear hS hS0
  go_simp
  go_wp2_with fail
  go_ret
  exact ⟨rfl, HBW.out.trans ((HB1.out.trans (HB4.out.mono HB1.out.size)).mono HBW.out.size)⟩
end Go.Proofs.YtiloclekhddkfabDoor
