/- A deed on both summaries: it is added, asked for, cleared. -/
import Derived.Test.YtiloclekhddkfabDoorA1
namespace Go.Proofs.YtiloclekhddkfabDoor
open Go.RowKit
/-- What a deed leaves. -/
def Done (w' : World) (p c cap r size ways : Nat) (d : Int) (l : List Int) : Prop := ∃ cs' v' l', Two w' p c cap r size ways cs' v' l' ∧ Agree size cs' l' ∧ (d ≠ 2 → ∀ x ∈ l, x ∈ l')
set_option maxHeartbeats 8000000 in
set_option maxRecDepth 100000 in
theorem do_add {w : World} {p c cap r size ways : Nat} {cs : List Nat} {v : Value} {l : List Int} (x : Dd) (hx : DdV w x) (h : Two w p c cap r size ways cs v l) (ha : Agree size cs l) (hV : Vars w) (hd : x.d = 0) : Calls Tryd.prog 19 #[.pointer (some ⟨p, 0, none⟩), .pointer (some ⟨r, 0, none⟩), .agg (dc x).toArray] w fun e w' => e = .returned (.bool true) ∧ Done w' p c cap r size ways x.d l ∧ Chg [c, r] w w' := by
  have hbox := run_boxD
  have HV := Hid.mk hV
  have HA := Hid.mk ha
  have Hs := Hid.mk hx.s
  obtain ⟨b, Hb⟩ : ∃ b, Hid (w.heap.size = b) := ⟨_, ⟨rfl⟩⟩
  obtain ⟨W, HW⟩ : ∃ W, Hid (w.alloc (.cells (dc x).toArray 47) = W) := ⟨_, ⟨rfl⟩⟩
  have HBW : Hid (Below w.heap.size w W) := ⟨by rw [← HW.out]; exact (Below.refl _ w).alloc (Nat.le_refl _) _⟩
  have HD : Hid (DdAt W b x) := ⟨by rw [← HW.out, ← Hb.out]; exact DdAt.new w x⟩
  have HT : Hid (Two W p c cap r size ways cs v l) := ⟨h.below HBW.out⟩
  have Hpb : Hid (p < b ∧ c < b ∧ r < b) := ⟨by rw [← Hb.out]; exact ⟨h.fl.lt, h.fl.clt, h.rf.lt⟩⟩
  have HVW : Hid (Vars W) := ⟨vars_far (X := []) hV (Chg.ofBelow HBW.out) (by simp)⟩
  have hc0 := HD.out.c0
  rw [hd] at hc0
  have Hd := Hid.mk hd
  have HAA := Hid.mk (ha.add (ways := ways) x.s h.ok)
  have t1 := radd_two HT.out (by have := ha.small; have := h.bd; omega) x.s Hs.out
  clear h ha hx hV hd
  go_enter Tryd.func19, Tryd.ntmps19
  go_upto_region 1 with fail
  rw [HW.out, Hb.out]
  go_wp2_with (first
    | (refine wp_loadS rfl (.tmp 17) rfl b 1 (by kernel_rfl) x.s (HD.out.sum Hs.out) Hs.out ?_)
    | (go_at_call 18; refine t1.mono ?_; rintro e w1 ⟨rfl, ⟨v1, hT1, -⟩, hC1⟩; have HT1 := Hid.mk hT1; have HC1 := Hid.mk hC1; clear hT1 hC1; have HD1 : Hid (DdAt w1 b x) := ⟨HD.out.far HC1.out (by have := Hpb.out; simp; omega)⟩; have t2 := add_two HT1.out HA.out x.s Hs.out)
    | (refine wp_loadS rfl (.tmp 21) rfl b 1 (by kernel_rfl) x.s (HD1.out.sum Hs.out) Hs.out ?_)
    | (go_at_call 17; refine t2.mono ?_; rintro e w2 ⟨rfl, hT2, hC2⟩; have HT2 := Hid.mk hT2; have HC2 := Hid.mk hC2; clear hT2 hC2))
  go_ret
  exact ⟨rfl, ⟨_, _, _, HT2.out, HAA.out, fun _ y hy => (mem_layF _ _ _).2 (.inl hy)⟩, ((Chg.ofBelow HBW.out).trans (HC1.out.mono (by simp))).trans (HC2.out.mono (by simp))⟩
set_option maxHeartbeats 8000000 in
set_option maxRecDepth 100000 in
theorem do_has {w : World} {p c cap r size ways : Nat} {cs : List Nat} {v : Value} {l : List Int} (x : Dd) (hx : DdV w x) (h : Two w p c cap r size ways cs v l) (ha : Agree size cs l) (hV : Vars w) (hd : x.d = 1) : Calls Tryd.prog 19 #[.pointer (some ⟨p, 0, none⟩), .pointer (some ⟨r, 0, none⟩), .agg (dc x).toArray] w fun e w' => e = .returned (.bool true) ∧ Done w' p c cap r size ways x.d l ∧ Chg [c, r] w w' := by
  have hbox := run_boxD
  have HV := Hid.mk hV
  have HA := Hid.mk ha
  have Hs := Hid.mk hx.s
  obtain ⟨b, Hb⟩ : ∃ b, Hid (w.heap.size = b) := ⟨_, ⟨rfl⟩⟩
  obtain ⟨W, HW⟩ : ∃ W, Hid (w.alloc (.cells (dc x).toArray 47) = W) := ⟨_, ⟨rfl⟩⟩
  have HBW : Hid (Below w.heap.size w W) := ⟨by rw [← HW.out]; exact (Below.refl _ w).alloc (Nat.le_refl _) _⟩
  have HD : Hid (DdAt W b x) := ⟨by rw [← HW.out, ← Hb.out]; exact DdAt.new w x⟩
  have HT : Hid (Two W p c cap r size ways cs v l) := ⟨h.below HBW.out⟩
  have Hpb : Hid (p < b ∧ c < b ∧ r < b) := ⟨by rw [← Hb.out]; exact ⟨h.fl.lt, h.fl.clt, h.rf.lt⟩⟩
  have HVW : Hid (Vars W) := ⟨vars_far (X := []) hV (Chg.ofBelow HBW.out) (by simp)⟩
  have hc0 := HD.out.c0
  rw [hd] at hc0
  have Hd := Hid.mk hd
  obtain ⟨es, Hes⟩ : ∃ es, Hid ((sc x.s).toArray = es) := ⟨_, ⟨rfl⟩⟩
  have HSS : Hid (∀ w', Below W.heap.size W w' → (loadVar 22 ⟨b, 1, none⟩).run Tryd.prog w' = .ok (.agg es) w') := ⟨fun w' hb => by rw [← Hes.out]; exact run_loadS ((HD.out.far (X := []) (Chg.ofBelow hb) (by simp)).sum Hs.out) Hs.out⟩
  have hbd : Below W.heap.size W W.drew := (Chg.refl [] W).drew.below (Nat.le_refl _) (by simp)
  have hS0 : (fun w' => (loadVar 22 ⟨b, 1, none⟩).run Tryd.prog w' = .ok (.agg es) w') W.drew := HSS.out _ hbd
  have t3 := has_two (HT.out.below hbd) HA.out x.s Hs.out
  rw [Hes.out] at t3
  clear h ha hx hV hd
  go_enter Tryd.func19, Tryd.ntmps19
  go_upto_region 1 with fail
  rw [HW.out, Hb.out]
  go_upto_region 6 with fail
  refine wp_region_held_drew (S := (fun w' => (loadVar 22 ⟨b, 1, none⟩).run Tryd.prog w' = .ok (.agg es) w')) (by kernel_rfl) hS0 (fun hS => ?_)
  refine wpAnyH_take (i := 0) (v := .pointer (some ⟨p, 0, none⟩)) rfl (by kernel_rfl) (by kernel_rfl) (by kernel_rfl) (fun _ _ _ h => h) (Or.inl ⟨by kernel_rfl, fun _ _ => by kernel_rfl⟩) hS ?_
  refine wpAnyH_take (i := 1) (v := .pointer (some ⟨b, 1, none⟩)) rfl (by kernel_rfl) (by kernel_rfl) (by kernel_rfl) (fun _ _ _ h => h) (Or.inl ⟨by kernel_rfl, fun wx hx => by go_simp⟩) hS ?_
  refine wpAnyH_take (i := 2) (v := .agg es) rfl (by kernel_rfl) (by kernel_rfl) (by kernel_rfl) (fun _ _ _ h => h) (Or.inl ⟨by kernel_rfl, fun wx hx => exec_load rfl b 1 (by kernel_rfl) hx⟩) hS ?_
  refine wpAnyH_take (i := 4) (v := .pointer (some ⟨r, 0, none⟩)) rfl (by kernel_rfl) (by kernel_rfl) (by kernel_rfl) (fun _ _ _ h => h) (Or.inl ⟨by kernel_rfl, fun _ _ => by kernel_rfl⟩) hS ?_
  refine wpAnyH_take (i := 5) (v := .pointer (some ⟨b, 1, none⟩)) rfl (by kernel_rfl) (by kernel_rfl) (by kernel_rfl) (fun _ _ _ h => h) (Or.inl ⟨by kernel_rfl, fun wx hx => by go_simp⟩) hS ?_
  refine wpAnyH_take (i := 6) (v := .agg es) rfl (by kernel_rfl) (by kernel_rfl) (by kernel_rfl) (fun _ _ _ h => h) (Or.inl ⟨by kernel_rfl, fun wx hx => exec_load rfl b 1 (by kernel_rfl) hx⟩) hS ?_
  refine wpAnyH_ready (rs := [3]) (by kernel_rfl) (by simp) (AllReadyH.cons rfl (fun Kc hK => ?_) AllReadyH.nil)
  go_simp
  refine t3.mono ?_
  rintro e w4 ⟨rfl, hb4⟩
  have HB4 : Hid (Below W.heap.size W w4) := ⟨hbd.trans hb4⟩
  have t4 := rhas_two (HT.out.below HB4.out) HA.out x.s Hs.out
  rw [Hes.out] at t4
  refine hK.out _ _ (HSS.out _ HB4.out) (fun hS => ?_)
  clear hK hb4
  refine wpAnyH_ready (rs := [7]) (by kernel_rfl) (by simp) (AllReadyH.cons rfl (fun Kc hK => ?_) AllReadyH.nil)
  go_simp
  refine t4.mono ?_
  rintro e w5 ⟨rfl, hb5⟩
  have HB5 : Hid (Below W.heap.size W w5) := ⟨HB4.out.trans (hb5.mono HB4.out.size)⟩
  refine hK.out _ _ (HSS.out _ HB5.out) (fun hS => ?_)
  clear hK hb5
  refine wpAnyH_take (i := 8) (v := .bool true) rfl (by kernel_rfl) (by kernel_rfl) (by kernel_rfl) (fun _ _ _ h => h) (Or.inl ⟨by kernel_rfl, fun wx hx => by go_simp⟩) hS ?_
  refine wpAnyH_take (i := 9) (v := .bool true) rfl (by kernel_rfl) (by kernel_rfl) (by kernel_rfl) (fun _ _ _ h => h) (Or.inl ⟨by kernel_rfl, fun _ _ => by kernel_rfl⟩) hS ?_
  refine wpAnyH_done (by kernel_rfl) ?_ _
  clear hS hS0
  go_simp
  go_wp2_with fail
  go_ret
  exact ⟨rfl, ⟨_, _, _, HT.out.below HB5.out, HA.out, fun _ y hy => hy⟩, (Chg.ofBelow HBW.out).trans (Chg.ofBelow HB5.out)⟩
set_option maxHeartbeats 8000000 in
set_option maxRecDepth 100000 in
theorem do_clear {w : World} {p c cap r size ways : Nat} {cs : List Nat} {v : Value} {l : List Int} (x : Dd) (hx : DdV w x) (h : Two w p c cap r size ways cs v l) (ha : Agree size cs l) (hV : Vars w) (hd : x.d = 2) : Calls Tryd.prog 19 #[.pointer (some ⟨p, 0, none⟩), .pointer (some ⟨r, 0, none⟩), .agg (dc x).toArray] w fun e w' => e = .returned (.bool true) ∧ Done w' p c cap r size ways x.d l ∧ Chg [c, r] w w' := by
  have hbox := run_boxD
  have HV := Hid.mk hV
  have HA := Hid.mk ha
  have Hs := Hid.mk hx.s
  obtain ⟨b, Hb⟩ : ∃ b, Hid (w.heap.size = b) := ⟨_, ⟨rfl⟩⟩
  obtain ⟨W, HW⟩ : ∃ W, Hid (w.alloc (.cells (dc x).toArray 47) = W) := ⟨_, ⟨rfl⟩⟩
  have HBW : Hid (Below w.heap.size w W) := ⟨by rw [← HW.out]; exact (Below.refl _ w).alloc (Nat.le_refl _) _⟩
  have HD : Hid (DdAt W b x) := ⟨by rw [← HW.out, ← Hb.out]; exact DdAt.new w x⟩
  have HT : Hid (Two W p c cap r size ways cs v l) := ⟨h.below HBW.out⟩
  have Hpb : Hid (p < b ∧ c < b ∧ r < b) := ⟨by rw [← Hb.out]; exact ⟨h.fl.lt, h.fl.clt, h.rf.lt⟩⟩
  have HVW : Hid (Vars W) := ⟨vars_far (X := []) hV (Chg.ofBelow HBW.out) (by simp)⟩
  have hc0 := HD.out.c0
  rw [hd] at hc0
  have Hd := Hid.mk hd
  have hfz := frozen_of_row W r 2 _ 41 HT.out.rf.row
  have hc2 := HT.out.rf.c2
  have HT1 : Hid (Two (W.setCell ⟨r, 2, none⟩ (.slice none 0 0)) p c cap r size ways cs (.slice none 0 0) []) := ⟨by
    have hC : Chg [r] W (W.setCell ⟨r, 2, none⟩ (.slice none 0 0)) := (Chg.refl [r] W).setCell (.inl (by simp)) _
    exact ⟨HT.out.fl.far hC (by simp; exact HT.out.pr) (by simp; exact HT.out.cr), ⟨heap_setCell_same W r 2 _ 41 _ HT.out.rf.row, ⟨none, 0, rfl, Nat.le_refl _, by decide, fun _ => rfl, fun x h => (nomatch h)⟩⟩, HT.out.ok, HT.out.pr, HT.out.cr, HT.out.pz, HT.out.cz, HT.out.rz, by simp⟩⟩
  have HC1 : Hid (Chg [c, r] W (W.setCell ⟨r, 2, none⟩ (.slice none 0 0))) := ⟨(Chg.refl _ W).setCell (.inl (by simp)) _⟩
  have t1 := clear_two HT1.out HA.out.len
  obtain ⟨av, cv, ev, _⟩ := HT.out.rf.on.shape
  subst ev
  clear h ha hx hV hd
  go_enter Tryd.func19, Tryd.ntmps19
  go_upto_region 1 with fail
  rw [HW.out, Hb.out]
  go_wp2_with (go_at_call 25; refine t1.mono ?_; rintro e w2 ⟨rfl, hT2, hC2⟩; have HT2 := Hid.mk hT2; have HC2 := Hid.mk hC2; clear hT2 hC2)
  go_ret
  exact ⟨rfl, ⟨_, _, _, HT2.out, Agree.none size, fun h => absurd Hd.out h⟩, ((Chg.ofBelow HBW.out).trans HC1.out).trans (HC2.out.mono (by simp))⟩
end Go.Proofs.YtiloclekhddkfabDoor
