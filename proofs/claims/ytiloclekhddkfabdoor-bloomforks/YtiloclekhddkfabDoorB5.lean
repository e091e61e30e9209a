/- The document's Add and Has. -/
import Derived.Test.YtiloclekhddkfabDoorB4
namespace Go.Proofs.YtiloclekhddkfabDoor
open Go.RowKit

theorem plc_len (s : List Int) (bits ways : Int) : (plc s bits ways).length ≤ 8 := by
  unfold plc
  split
  · rename_i hf
    have hfb : 1 ≤ bits ∧ bits ≤ 65536 ∧ 1 ≤ ways ∧ ways ≤ 8 := of_decide_eq_true hf
    rw [pre_len]
    omega
  · simp
section
variable {w : World}
set_option maxHeartbeats 4000000 in
set_option maxRecDepth 100000 in
theorem radd_any {p : Nat} {bits ways : Int} {v : Value} {l : List Int} (s : List Int) (hs : Sum32 s) (h : RfAt w p bits ways v l) (X : List Nat) (hX : ∀ x ∈ X, x < w.heap.size) (hvp : 0 < l.length → ∀ g, v.ownBlock = some g → g ∉ X) (hl : l.length ≤ 900000) : Calls Tryd.prog 18 #[.pointer (some ⟨p, 0, none⟩), .agg (sc s).toArray] w fun e w' => e = .returned (.tuple #[]) ∧ (∃ v', RfAt w' p bits ways v' (layF l (plc s bits ways)) ∧ (0 < (layF l (plc s bits ways)).length → ∀ g, v'.ownBlock = some g → g ∉ X)) ∧ Chg [p] w w' := by
  have Hl0 := Hid.mk hl
  have Hv0 := Hid.mk hvp
  have HX := Hid.mk hX
  clear hl hvp hX
  have hbox := run_boxS
  have Hs := Hid.mk hs
  have tP := fun (wx : World) => rplaces_any (w := wx) s hs bits ways
  have Hpl : Hid (p < w.heap.size) := ⟨h.lt⟩
  have HL : Hid ((plc s bits ways).length ≤ 8) := ⟨plc_len s bits ways⟩
  generalize plc s bits ways = PL at tP HL ⊢
  obtain ⟨cs, Hcs⟩ : ∃ cs, Hid ((sc s).toArray = cs) := ⟨_, ⟨rfl⟩⟩
  simp only [Hcs.out] at tP ⊢
  obtain ⟨W, HW⟩ : ∃ W, Hid (w.alloc (.cells cs 22) = W) := ⟨_, ⟨rfl⟩⟩
  have HBW : Hid (Below w.heap.size w W) := ⟨by rw [← HW.out]; exact (Below.refl _ w).alloc (Nat.le_refl _) _⟩
  have HF : Hid (RfAt W p bits ways v l) := ⟨h.far (X := []) (Chg.ofBelow HBW.out) (by simp) (by simp)⟩
  have Hat : Hid (At W w.heap.size 0 (sc s)) := ⟨At.row (fr := (0, 0)) (t := 22) (by rw [← HW.out, Hcs.out]; exact heap_alloc_new w _)⟩
  obtain ⟨q, Hq⟩ : ∃ q, Hid (w.heap.size = q) := ⟨_, ⟨rfl⟩⟩
  rw [Hq.out] at Hat
  have HSS : Hid (∀ w', Chg [p] W w' → (∃ v' l', RfAt w' p bits ways v' l') → (fun w' => (loadVar 22 ⟨q, 0, none⟩).run Tryd.prog w' = .ok (.agg cs) w' ∧ w'.cell? ⟨p, 0, none⟩ = some (.int .i64 bits) ∧ w'.cell? ⟨p, 1, none⟩ = some (.int .i64 ways)) w') := ⟨fun w' hc hr => by
    obtain ⟨v', l', hr⟩ := hr
    have z := run_loadS (Hat.out.far hc (by simp; have := Hpl.out; have := Hq.out; omega)) Hs.out
    rw [Hcs.out] at z
    exact ⟨z, hr.c0, hr.c1⟩⟩
  have hS0 : (fun w' => (loadVar 22 ⟨q, 0, none⟩).run Tryd.prog w' = .ok (.agg cs) w' ∧ w'.cell? ⟨p, 0, none⟩ = some (.int .i64 bits) ∧ w'.cell? ⟨p, 1, none⟩ = some (.int .i64 ways)) W.drew := HSS.out _ (Chg.refl _ W).drew ⟨_, _, HF.out.far (Chg.refl [] W).drew (by simp) (by simp)⟩
  clear h hs
  go_enter Tryd.func18, Tryd.ntmps18
  go_upto_region 1 with fail
  rw [HW.out, Hq.out]
  refine wp_region_held_drew (S := (fun w' => (loadVar 22 ⟨q, 0, none⟩).run Tryd.prog w' = .ok (.agg cs) w' ∧ w'.cell? ⟨p, 0, none⟩ = some (.int .i64 bits) ∧ w'.cell? ⟨p, 1, none⟩ = some (.int .i64 ways))) (by kernel_rfl) hS0 (fun hS => ?_)
  refine wpAnyH_take (i := 0) (v := .pointer (some ⟨p, 0, none⟩)) rfl (by kernel_rfl) (by kernel_rfl) (by kernel_rfl) (fun _ _ _ h => h) (Or.inl ⟨by kernel_rfl, fun _ _ => by kernel_rfl⟩) hS ?_
  refine wpAnyH_take (i := 1) (v := .agg cs) rfl (by kernel_rfl) (by kernel_rfl) (by kernel_rfl) (fun _ _ _ h => h) (Or.inl ⟨by kernel_rfl, fun wx hx => exec_load rfl q 0 (by kernel_rfl) hx.1⟩) hS ?_
  refine wpAnyH_take (i := 2) (v := .pointer (some ⟨p, 0, none⟩)) rfl (by kernel_rfl) (by kernel_rfl) (by kernel_rfl) (fun _ _ _ h => h) (Or.inl ⟨by kernel_rfl, fun _ _ => by kernel_rfl⟩) hS ?_
  refine wpAnyH_take (i := 3) (v := .pointer (some ⟨p, 0, none⟩)) rfl (by kernel_rfl) (by kernel_rfl) (by kernel_rfl) (fun _ _ _ h => h) (Or.inl ⟨by kernel_rfl, fun wx hx => by go_simp⟩) hS ?_
  refine wpAnyH_take (i := 4) (v := .pointer (some ⟨p, 0, none⟩)) rfl (by kernel_rfl) (by kernel_rfl) (by kernel_rfl) (fun _ _ _ h => h) (Or.inl ⟨by kernel_rfl, fun wx hx => by go_simp⟩) hS ?_
  refine wpAnyH_take (i := 5) (v := .int .i64 bits) rfl (by kernel_rfl) (by kernel_rfl) (by kernel_rfl) (fun _ _ _ h => h) (Or.inl ⟨by kernel_rfl, fun wx hx => by have h1 := hx.2.1; have h2 := hx.2.2; go_simp⟩) hS ?_
  refine wpAnyH_take (i := 6) (v := .pointer (some ⟨p, 0, none⟩)) rfl (by kernel_rfl) (by kernel_rfl) (by kernel_rfl) (fun _ _ _ h => h) (Or.inl ⟨by kernel_rfl, fun _ _ => by kernel_rfl⟩) hS ?_
  refine wpAnyH_take (i := 7) (v := .pointer (some ⟨p, 0, none⟩)) rfl (by kernel_rfl) (by kernel_rfl) (by kernel_rfl) (fun _ _ _ h => h) (Or.inl ⟨by kernel_rfl, fun wx hx => by go_simp⟩) hS ?_
  refine wpAnyH_take (i := 8) (v := .pointer (some ⟨p, 1, none⟩)) rfl (by kernel_rfl) (by kernel_rfl) (by kernel_rfl) (fun _ _ _ h => h) (Or.inl ⟨by kernel_rfl, fun wx hx => by go_simp⟩) hS ?_
  refine wpAnyH_take (i := 9) (v := .int .i64 ways) rfl (by kernel_rfl) (by kernel_rfl) (by kernel_rfl) (fun _ _ _ h => h) (Or.inl ⟨by kernel_rfl, fun wx hx => by have h1 := hx.2.1; have h2 := hx.2.2; go_simp⟩) hS ?_
  refine wpAnyH_ready (rs := [10]) (by kernel_rfl) (by simp) (AllReadyH.cons rfl (fun Kc hK => ?_) AllReadyH.nil)
  go_simp
  refine (tP _).mono ?_
  rintro e w5 ⟨vP, rfl, hO5, hB5⟩
  have HX5 : Hid (Chg [] W w5) := ⟨(Chg.refl [] W).drew.trans (Chg.ofBelow hB5)⟩
  have HF5 : Hid (RfAt w5 p bits ways v l) := ⟨HF.out.far HX5.out (by simp) (by simp)⟩
  have HO5 : Hid (RdI w5 vP PL) := ⟨hO5.rd⟩
  have HP5 : Hid (∀ g, vP.ownBlock = some g → g ≠ p) := ⟨fun g hg => by have := (hO5.lt g hg).1; have := Hpl.out; have h3 : (World.drew W).heap.size = W.heap.size := rfl; have := HBW.out.size; omega⟩
  obtain ⟨aP, cP, eP, _⟩ := hO5.shape
  clear hO5 hB5
  subst eP
  obtain ⟨nP, HnP⟩ : ∃ n, Hid (PL.length = n) := ⟨_, ⟨rfl⟩⟩
  rw [HnP.out] at HO5 HP5 ⊢
  refine hK.out _ _ (HSS.out w5 (HX5.out.mono (by simp)) ⟨_, _, HF5.out⟩) (fun hS => ?_)
  clear hK
  refine wpAnyH_ready (rs := [11]) (by kernel_rfl) (by simp) (AllReadyH.cons rfl (fun Kc hK => ?_) AllReadyH.nil)
  go_simp
  refine (lay_any HF5.out HO5.out (fun _ => HP5.out) X (fun x hx => Nat.lt_of_lt_of_le (HX.out x hx) (Nat.le_trans HBW.out.size HX5.out.size)) Hv0.out (by have := HL.out; have := Hl0.out; omega)).mono ?_
  rintro e w6 ⟨rfl, ⟨v6, hR6, hV6⟩, hC6⟩
  have HC6 : Hid (Chg [p] w w6) := ⟨((Chg.ofBelow HBW.out).trans (HX5.out.mono (by simp))).trans hC6⟩
  have HR6 := Hid.mk hR6
  have HV6 := Hid.mk hV6
  refine hK.out _ _ (HSS.out w6 ((HX5.out.mono (by simp)).trans hC6) ⟨_, _, hR6⟩) (fun hS => ?_)
  clear hK hR6 hV6 hC6
  refine wpAnyH_done (by kernel_rfl) ?_ _
  clear hS hS0
  go_simp
  go_wp2_with fail
  go_end0
  exact ⟨rfl, ⟨v6, HR6.out, HV6.out⟩, HC6.out⟩
set_option maxHeartbeats 4000000 in
set_option maxRecDepth 100000 in
theorem rhas_any {p : Nat} {bits ways : Int} {v : Value} {l : List Int} (s : List Int) (hs : Sum32 s) (h : RfAt w p bits ways v l) (hl : l.length ≤ 1000000) : Calls Tryd.prog 15 #[.pointer (some ⟨p, 0, none⟩), .agg (sc s).toArray] w fun e w' => e = .returned (.bool (decide (∀ x ∈ plc s bits ways, x ∈ l))) ∧ Below w.heap.size w w' := by
  have Hl0 := Hid.mk hl
  clear hl
  have hbox := run_boxS
  have Hs := Hid.mk hs
  have tP := fun (wx : World) => rplaces_any (w := wx) s hs bits ways
  have Hpl : Hid (p < w.heap.size) := ⟨h.lt⟩
  have HL : Hid ((plc s bits ways).length ≤ 8) := ⟨plc_len s bits ways⟩
  generalize plc s bits ways = PL at tP HL ⊢
  obtain ⟨cs, Hcs⟩ : ∃ cs, Hid ((sc s).toArray = cs) := ⟨_, ⟨rfl⟩⟩
  simp only [Hcs.out] at tP ⊢
  obtain ⟨W, HW⟩ : ∃ W, Hid (w.alloc (.cells cs 22) = W) := ⟨_, ⟨rfl⟩⟩
  have HBW : Hid (Below w.heap.size w W) := ⟨by rw [← HW.out]; exact (Below.refl _ w).alloc (Nat.le_refl _) _⟩
  have HF : Hid (RfAt W p bits ways v l) := ⟨h.far (X := []) (Chg.ofBelow HBW.out) (by simp) (by simp)⟩
  have Hat : Hid (At W w.heap.size 0 (sc s)) := ⟨At.row (fr := (0, 0)) (t := 22) (by rw [← HW.out, Hcs.out]; exact heap_alloc_new w _)⟩
  obtain ⟨q, Hq⟩ : ∃ q, Hid (w.heap.size = q) := ⟨_, ⟨rfl⟩⟩
  rw [Hq.out] at Hat
  have HSS : Hid (∀ w', Chg [p] W w' → (∃ v' l', RfAt w' p bits ways v' l') → (fun w' => (loadVar 22 ⟨q, 0, none⟩).run Tryd.prog w' = .ok (.agg cs) w' ∧ w'.cell? ⟨p, 0, none⟩ = some (.int .i64 bits) ∧ w'.cell? ⟨p, 1, none⟩ = some (.int .i64 ways)) w') := ⟨fun w' hc hr => by
    obtain ⟨v', l', hr⟩ := hr
    have z := run_loadS (Hat.out.far hc (by simp; have := Hpl.out; have := Hq.out; omega)) Hs.out
    rw [Hcs.out] at z
    exact ⟨z, hr.c0, hr.c1⟩⟩
  have hS0 : (fun w' => (loadVar 22 ⟨q, 0, none⟩).run Tryd.prog w' = .ok (.agg cs) w' ∧ w'.cell? ⟨p, 0, none⟩ = some (.int .i64 bits) ∧ w'.cell? ⟨p, 1, none⟩ = some (.int .i64 ways)) W.drew := HSS.out _ (Chg.refl _ W).drew ⟨_, _, HF.out.far (Chg.refl [] W).drew (by simp) (by simp)⟩
  clear h hs
  go_enter Tryd.func15, Tryd.ntmps15
  go_upto_region 1 with fail
  rw [HW.out, Hq.out]
  refine wp_region_held_drew (S := (fun w' => (loadVar 22 ⟨q, 0, none⟩).run Tryd.prog w' = .ok (.agg cs) w' ∧ w'.cell? ⟨p, 0, none⟩ = some (.int .i64 bits) ∧ w'.cell? ⟨p, 1, none⟩ = some (.int .i64 ways))) (by kernel_rfl) hS0 (fun hS => ?_)
  refine wpAnyH_take (i := 0) (v := .agg cs) rfl (by kernel_rfl) (by kernel_rfl) (by kernel_rfl) (fun _ _ _ h => h) (Or.inl ⟨by kernel_rfl, fun wx hx => exec_load rfl q 0 (by kernel_rfl) hx.1⟩) hS ?_
  refine wpAnyH_take (i := 1) (v := .pointer (some ⟨p, 0, none⟩)) rfl (by kernel_rfl) (by kernel_rfl) (by kernel_rfl) (fun _ _ _ h => h) (Or.inl ⟨by kernel_rfl, fun _ _ => by kernel_rfl⟩) hS ?_
  refine wpAnyH_take (i := 2) (v := .pointer (some ⟨p, 0, none⟩)) rfl (by kernel_rfl) (by kernel_rfl) (by kernel_rfl) (fun _ _ _ h => h) (Or.inl ⟨by kernel_rfl, fun wx hx => by go_simp⟩) hS ?_
  refine wpAnyH_take (i := 3) (v := .pointer (some ⟨p, 0, none⟩)) rfl (by kernel_rfl) (by kernel_rfl) (by kernel_rfl) (fun _ _ _ h => h) (Or.inl ⟨by kernel_rfl, fun wx hx => by go_simp⟩) hS ?_
  refine wpAnyH_take (i := 4) (v := .int .i64 bits) rfl (by kernel_rfl) (by kernel_rfl) (by kernel_rfl) (fun _ _ _ h => h) (Or.inl ⟨by kernel_rfl, fun wx hx => by have h1 := hx.2.1; have h2 := hx.2.2; go_simp⟩) hS ?_
  refine wpAnyH_take (i := 5) (v := .pointer (some ⟨p, 0, none⟩)) rfl (by kernel_rfl) (by kernel_rfl) (by kernel_rfl) (fun _ _ _ h => h) (Or.inl ⟨by kernel_rfl, fun _ _ => by kernel_rfl⟩) hS ?_
  refine wpAnyH_take (i := 6) (v := .pointer (some ⟨p, 0, none⟩)) rfl (by kernel_rfl) (by kernel_rfl) (by kernel_rfl) (fun _ _ _ h => h) (Or.inl ⟨by kernel_rfl, fun wx hx => by go_simp⟩) hS ?_
  refine wpAnyH_take (i := 7) (v := .pointer (some ⟨p, 1, none⟩)) rfl (by kernel_rfl) (by kernel_rfl) (by kernel_rfl) (fun _ _ _ h => h) (Or.inl ⟨by kernel_rfl, fun wx hx => by go_simp⟩) hS ?_
  refine wpAnyH_take (i := 8) (v := .int .i64 ways) rfl (by kernel_rfl) (by kernel_rfl) (by kernel_rfl) (fun _ _ _ h => h) (Or.inl ⟨by kernel_rfl, fun wx hx => by have h1 := hx.2.1; have h2 := hx.2.2; go_simp⟩) hS ?_
  refine wpAnyH_ready (rs := [9]) (by kernel_rfl) (by simp) (AllReadyH.cons rfl (fun Kc hK => ?_) AllReadyH.nil)
  go_simp
  refine (tP _).mono ?_
  rintro e w5 ⟨vP, rfl, hO5, hB5⟩
  have HX5 : Hid (Chg [] W w5) := ⟨(Chg.refl [] W).drew.trans (Chg.ofBelow hB5)⟩
  have HF5 : Hid (RfAt w5 p bits ways v l) := ⟨HF.out.far HX5.out (by simp) (by simp)⟩
  have HO5 : Hid (RdI w5 vP PL) := ⟨hO5.rd⟩
  have HP5 : Hid (∀ g, vP.ownBlock = some g → g ≠ p) := ⟨fun g hg => by have := (hO5.lt g hg).1; have := Hpl.out; have h3 : (World.drew W).heap.size = W.heap.size := rfl; have := HBW.out.size; omega⟩
  obtain ⟨aP, cP, eP, _⟩ := hO5.shape
  clear hO5 hB5
  subst eP
  obtain ⟨nP, HnP⟩ : ∃ n, Hid (PL.length = n) := ⟨_, ⟨rfl⟩⟩
  rw [HnP.out] at HO5 HP5 ⊢
  refine hK.out _ _ (HSS.out w5 (HX5.out.mono (by simp)) ⟨_, _, HF5.out⟩) (fun hS => ?_)
  clear hK
  refine wpAnyH_take (i := 10) (v := .slice aP nP cP) rfl (by kernel_rfl) (by kernel_rfl) (by kernel_rfl) (fun _ _ _ h => h) (Or.inl ⟨by kernel_rfl, fun _ _ => by kernel_rfl⟩) hS ?_
  refine wpAnyH_done (by kernel_rfl) ?_ _
  clear hS hS0
  have HB5 : Hid (Below w.heap.size w w5) := ⟨HBW.out.trans (HX5.out.below HBW.out.size (by simp))⟩
  go_simp
  go_wp2_with fail
  have hnPb : nP ≤ 8 := by have := HL.out; have := HnP.out; omega
  go_loopg [6] nP (fun gg s6 wr => ∃ k : Nat, k ≤ nP ∧ nP - k ≤ gg ∧ s6 = .int .i64 (k : Int) ∧ Hid (∀ x ∈ PL.take k, x ∈ l) ∧ w5 = wr)
  case atStart => exact ⟨0, Nat.zero_le _, by omega, rfl, ⟨by simp⟩, rfl⟩
  case round =>
    obtain ⟨k, hk, hgg, rfl, HN, rfl⟩ := hrel
    by_cases hlt : k < nP
    · have hltz : (k : Int) < (nP : Int) := by omega
      have hkL : k < PL.length := by rw [HnP.out]; exact hlt
      obtain ⟨b1, o1, c1, e1, _, hcell⟩ := HO5.out.at hkL
      rw [HnP.out] at e1
      simp at e1
      obtain ⟨rfl, rfl⟩ := e1
      have hx := hcell k hkL
      have HTs : Hid (PL.take (k + 1) = PL.take k ++ [PL.getD k 0]) := ⟨Oct.take_snoc PL k hkL⟩
      have Hmem : Hid (PL.getD k 0 ∈ PL) := ⟨by simp only [List.getD, List.getElem?_eq_getElem hkL, Option.getD_some]; exact List.getElem_mem hkL⟩
      clear hcell
      generalize PL.getD k 0 = y at hx HTs Hmem
      have t1 := ron_any y HF5.out (by have := Hl0.out; omega)
      by_cases hin : y ∈ l
      · rw [decide_eq_true hin] at t1
        have HM : Hid (∀ x ∈ PL.take (k + 1), x ∈ l) := ⟨by
          rw [HTs.out]
          intro x hm
          rcases List.mem_append.1 hm with z | z
          · exact HN.out x z
          · rw [List.mem_singleton.1 z]; exact hin⟩
        go_wp2_with (go_at_call 31; refine t1.mono ?_; rintro e wx ⟨rfl, ex⟩; subst ex)
        go_roundg (nP - (k + 1))
        case measure => omega
        case rel => exact ⟨k + 1, by omega, by omega, by go_num, HM, rfl⟩
      · rw [decide_eq_false hin] at t1
        have HE : Hid (decide (∀ x ∈ PL, x ∈ l) = false) := ⟨decide_eq_false (fun z => hin (z y Hmem.out))⟩
        go_wp2_with (go_at_call 31; refine t1.mono ?_; rintro e wx ⟨rfl, ex⟩; subst ex)
        go_ret
        exact ⟨by rw [HE.out]; rfl, HB5.out⟩
    · obtain rfl : k = nP := by omega
      have HE : Hid (decide (∀ x ∈ PL, x ∈ l) = true) := ⟨decide_eq_true (by have := HN.out; rwa [List.take_of_length_le (by rw [HnP.out]; exact Nat.le_refl _)] at this)⟩
      go_wp2_with fail
      go_ret
      exact ⟨by rw [HE.out]; rfl, HB5.out⟩
end
end Go.Proofs.YtiloclekhddkfabDoor
