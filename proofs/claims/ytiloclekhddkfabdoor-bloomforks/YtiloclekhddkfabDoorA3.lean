/- A deed on both summaries: others are merged. -/
import Derived.Test.YtiloclekhddkfabDoorA2
namespace Go.Proofs.YtiloclekhddkfabDoor
open Go.RowKit
theorem new_ok {w : World} (size ways : Nat) (hf : ft size ways = true) : Calls Tryd.prog 8 #[.int .i64 (size : Int), .int .i64 (ways : Int)] w fun e w' => ∃ p, w.heap.size < p ∧ e = .returned (.tuple #[.pointer (some ⟨p, 0, none⟩), .int .i64 0]) ∧ FlAt w' p w.heap.size ((size + 63) / 64) size ways (List.replicate ((size + 63) / 64) 0) ∧ Below w.heap.size w w' := by
  refine (new_any (w := w) size ways).mono ?_
  rintro e w' ⟨h, hb⟩
  rw [if_pos hf] at h
  obtain ⟨p, hp, rfl, hF⟩ := h
  have e : ncl (size : Int) = (size + 63) / 64 := by simp [ncl]
  rw [e] at hF
  exact ⟨p, hp, rfl, hF, hb⟩
theorem rnew_ok {w : World} (size ways : Nat) (hf : ft size ways = true) : Calls Tryd.prog 9 #[.int .i64 (size : Int), .int .i64 (ways : Int)] w fun e w' => e = .returned (.tuple #[.pointer (some ⟨w.heap.size, 0, none⟩), .int .i64 0]) ∧ RfAt w' w.heap.size size ways (.slice none 0 0) [] ∧ Below w.heap.size w w' := by
  refine (rnew_any (w := w) size ways).mono ?_
  rintro e w' ⟨h, hb⟩
  rw [if_pos hf] at h
  exact ⟨h.1, h.2, hb⟩
set_option maxHeartbeats 8000000 in
set_option maxRecDepth 100000 in
theorem do_merge {w : World} {p c cap r size ways : Nat} {cs : List Nat} {v : Value} {l : List Int} (x : Dd) (hx : DdV w x) (h : Two w p c cap r size ways cs v l) (ha : Agree size cs l) (hV : Vars w) (hd : ¬ x.d = 0 ∧ ¬ x.d = 1 ∧ ¬ x.d = 2) : Calls Tryd.prog 19 #[.pointer (some ⟨p, 0, none⟩), .pointer (some ⟨r, 0, none⟩), .agg (dc x).toArray] w fun e w' => e = .returned (.bool true) ∧ Done w' p c cap r size ways x.d l ∧ Chg [c, r] w w' := by
  have hbox := run_boxD
  have HV := Hid.mk hV
  have HA := Hid.mk ha
  have Hs := Hid.mk hx.s
  obtain ⟨b, Hb⟩ : ∃ b, Hid (w.heap.size = b) := ⟨_, ⟨rfl⟩⟩
  obtain ⟨W, HW⟩ : ∃ W, Hid (w.alloc (.cells (dc x).toArray 47) = W) := ⟨_, ⟨rfl⟩⟩
  have HBW : Hid (Below w.heap.size w W) := ⟨by rw [← HW.out]; exact (Below.refl _ w).alloc (Nat.le_refl _) _⟩
  have HD : Hid (DdAt W b x) := ⟨by rw [← HW.out, ← Hb.out]; exact DdAt.new w x⟩
  have HT : Hid (Two W p c cap r size ways cs v l) := ⟨h.below HBW.out⟩
  have Hpb : Hid (p < b ∧ c < b ∧ r < b) := ⟨by rw [← Hb.out]; exact ⟨h.fl.lt, h.fl.clt, h.rf.lt⟩⟩
  have HVW : Hid (Vars W) := ⟨vars_far (X := []) hV (Chg.ofBelow HBW.out) (by simp)⟩
  have hc0 := HD.out.c0
  obtain ⟨d0, d1, d2⟩ := hd
  have Hx := Hid.mk hx
  obtain ⟨D, HDe⟩ : ∃ D, Hid (x.d = D) := ⟨_, ⟨rfl⟩⟩
  rw [HDe.out] at hc0 d0 d1 d2 ⊢
  have hc33 := HD.out.c33 Hs.out
  obtain ⟨aL, cL, eL, hcL, hcM, _⟩ := hx.rd.shape
  obtain ⟨nL, HnL⟩ : ∃ n, Hid (x.L.length = n) := ⟨_, ⟨rfl⟩⟩
  have HxV : Hid (x.v = .slice aL nL cL) := ⟨by rw [← HnL.out]; exact eL⟩
  have hbd : Below W.heap.size W W.drew := (Chg.refl [] W).drew.below (Nat.le_refl _) (by simp)
  have HSS : Hid (∀ w', Below W.heap.size W w' → (fun w' => w'.cell? ⟨r, 0, none⟩ = some (.int .i64 (size : Int)) ∧ w'.cell? ⟨r, 1, none⟩ = some (.int .i64 (ways : Int))) w') := ⟨fun w' hb => by have := (HT.out.below hb).rf; exact ⟨this.c0, this.c1⟩⟩
  have hS0 : (fun w' => w'.cell? ⟨r, 0, none⟩ = some (.int .i64 (size : Int)) ∧ w'.cell? ⟨r, 1, none⟩ = some (.int .i64 (ways : Int))) W.drew := HSS.out _ hbd
  have t1 := new_ok (w := W.drew) size ways h.ok
  obtain ⟨c2, Hc2⟩ : ∃ c2, Hid (W.heap.size = c2) := ⟨_, ⟨rfl⟩⟩
  rw [show W.drew.heap.size = c2 from Hc2.out] at t1
  have hLb : nL ≤ 9223372036854775807 := by rw [← HnL.out]; unfold maxLen at hcM; omega
  clear h ha hx hV hc33 eL hcL hcM
  go_enter Tryd.func19, Tryd.ntmps19
  go_upto_region 1 with fail
  rw [HW.out, Hb.out]
  go_upto_region 10 with fail
  refine wp_region_held_drew (S := (fun w' => w'.cell? ⟨r, 0, none⟩ = some (.int .i64 (size : Int)) ∧ w'.cell? ⟨r, 1, none⟩ = some (.int .i64 (ways : Int)))) (by kernel_rfl) hS0 (fun hS => ?_)
  refine wpAnyH_take (i := 0) (v := .pointer (some ⟨r, 0, none⟩)) rfl (by kernel_rfl) (by kernel_rfl) (by kernel_rfl) (fun _ _ _ h => h) (Or.inl ⟨by kernel_rfl, fun _ _ => by kernel_rfl⟩) hS ?_
  refine wpAnyH_take (i := 1) (v := .pointer (some ⟨r, 0, none⟩)) rfl (by kernel_rfl) (by kernel_rfl) (by kernel_rfl) (fun _ _ _ h => h) (Or.inl ⟨by kernel_rfl, fun wx hx => by go_simp⟩) hS ?_
  refine wpAnyH_take (i := 2) (v := .pointer (some ⟨r, 0, none⟩)) rfl (by kernel_rfl) (by kernel_rfl) (by kernel_rfl) (fun _ _ _ h => h) (Or.inl ⟨by kernel_rfl, fun wx hx => by go_simp⟩) hS ?_
  refine wpAnyH_take (i := 3) (v := .int .i64 (size : Int)) rfl (by kernel_rfl) (by kernel_rfl) (by kernel_rfl) (fun _ _ _ h => h) (Or.inl ⟨by kernel_rfl, fun wx hx => by have h1 := hx.1; have h2 := hx.2; go_simp⟩) hS ?_
  refine wpAnyH_take (i := 4) (v := .pointer (some ⟨r, 0, none⟩)) rfl (by kernel_rfl) (by kernel_rfl) (by kernel_rfl) (fun _ _ _ h => h) (Or.inl ⟨by kernel_rfl, fun _ _ => by kernel_rfl⟩) hS ?_
  refine wpAnyH_take (i := 5) (v := .pointer (some ⟨r, 0, none⟩)) rfl (by kernel_rfl) (by kernel_rfl) (by kernel_rfl) (fun _ _ _ h => h) (Or.inl ⟨by kernel_rfl, fun wx hx => by go_simp⟩) hS ?_
  refine wpAnyH_take (i := 6) (v := .pointer (some ⟨r, 1, none⟩)) rfl (by kernel_rfl) (by kernel_rfl) (by kernel_rfl) (fun _ _ _ h => h) (Or.inl ⟨by kernel_rfl, fun wx hx => by go_simp⟩) hS ?_
  refine wpAnyH_take (i := 7) (v := .int .i64 (ways : Int)) rfl (by kernel_rfl) (by kernel_rfl) (by kernel_rfl) (fun _ _ _ h => h) (Or.inl ⟨by kernel_rfl, fun wx hx => by have h1 := hx.1; have h2 := hx.2; go_simp⟩) hS ?_
  refine wpAnyH_ready (rs := [8]) (by kernel_rfl) (by simp) (AllReadyH.cons rfl (fun Kc hK => ?_) AllReadyH.nil)
  go_simp
  refine t1.mono ?_
  rintro e w1 ⟨p2, hp2, rfl, hF1, hb1⟩
  have HF1 := Hid.mk hF1
  have HB1 : Hid (Below W.heap.size W w1) := ⟨hbd.trans (by rw [Hc2.out]; exact hb1)⟩
  have Hp2 : Hid (c2 < p2) := ⟨hp2⟩
  refine hK.out _ _ (HSS.out _ HB1.out) (fun hS => ?_)
  clear hK hF1 hb1 hp2
  refine wpAnyH_take (i := 9) (v := .tuple #[.pointer (some ⟨p2, 0, none⟩), .int .i64 0]) rfl (by kernel_rfl) (by kernel_rfl) (by kernel_rfl) (fun _ _ _ h => h) (Or.inl ⟨by kernel_rfl, fun _ _ => by kernel_rfl⟩) hS ?_
  refine wpAnyH_take (i := 10) (v := .pointer (some ⟨p2, 0, none⟩)) rfl (by kernel_rfl) (by kernel_rfl) (by kernel_rfl) (fun _ _ _ h => h) (Or.inl ⟨by kernel_rfl, fun wx hx => by go_simp⟩) hS ?_
  refine wpAnyH_take (i := 11) (v := .int .i64 0) rfl (by kernel_rfl) (by kernel_rfl) (by kernel_rfl) (fun _ _ _ h => h) (Or.inl ⟨by kernel_rfl, fun wx hx => by go_simp⟩) hS ?_
  refine wpAnyH_take (i := 12) (v := .pointer (some ⟨p2, 0, none⟩)) rfl (by kernel_rfl) (by kernel_rfl) (by kernel_rfl) (fun _ _ _ h => h) (Or.inl ⟨by kernel_rfl, fun _ _ => by kernel_rfl⟩) hS ?_
  refine wpAnyH_take (i := 13) (v := .int .i64 0) rfl (by kernel_rfl) (by kernel_rfl) (by kernel_rfl) (fun _ _ _ h => h) (Or.inl ⟨by kernel_rfl, fun _ _ => by kernel_rfl⟩) hS ?_
  refine wpAnyH_done (by kernel_rfl) ?_ _
  clear hS hS0
  go_simp
  have hbd1 : Below w1.heap.size w1 w1.drew := (Chg.refl [] w1).drew.below (Nat.le_refl _) (by simp)
  have hS1 : (fun w' => w'.cell? ⟨r, 0, none⟩ = some (.int .i64 (size : Int)) ∧ w'.cell? ⟨r, 1, none⟩ = some (.int .i64 (ways : Int))) w1.drew := HSS.out _ (HB1.out.trans (hbd1.mono HB1.out.size))
  have t2 := rnew_ok (w := w1.drew) size ways HT.out.ok
  obtain ⟨r2, Hr2⟩ : ∃ r2, Hid (w1.heap.size = r2) := ⟨_, ⟨rfl⟩⟩
  rw [show w1.drew.heap.size = r2 from Hr2.out] at t2
  go_upto_region 11 with fail
  refine wp_region_held_drew (S := (fun w' => w'.cell? ⟨r, 0, none⟩ = some (.int .i64 (size : Int)) ∧ w'.cell? ⟨r, 1, none⟩ = some (.int .i64 (ways : Int)))) (by kernel_rfl) hS1 (fun hS => ?_)
  refine wpAnyH_take (i := 0) (v := .pointer (some ⟨r, 0, none⟩)) rfl (by kernel_rfl) (by kernel_rfl) (by kernel_rfl) (fun _ _ _ h => h) (Or.inl ⟨by kernel_rfl, fun _ _ => by kernel_rfl⟩) hS ?_
  refine wpAnyH_take (i := 1) (v := .pointer (some ⟨r, 0, none⟩)) rfl (by kernel_rfl) (by kernel_rfl) (by kernel_rfl) (fun _ _ _ h => h) (Or.inl ⟨by kernel_rfl, fun wx hx => by go_simp⟩) hS ?_
  refine wpAnyH_take (i := 2) (v := .pointer (some ⟨r, 0, none⟩)) rfl (by kernel_rfl) (by kernel_rfl) (by kernel_rfl) (fun _ _ _ h => h) (Or.inl ⟨by kernel_rfl, fun wx hx => by go_simp⟩) hS ?_
  refine wpAnyH_take (i := 3) (v := .int .i64 (size : Int)) rfl (by kernel_rfl) (by kernel_rfl) (by kernel_rfl) (fun _ _ _ h => h) (Or.inl ⟨by kernel_rfl, fun wx hx => by have h1 := hx.1; have h2 := hx.2; go_simp⟩) hS ?_
  refine wpAnyH_take (i := 4) (v := .pointer (some ⟨r, 0, none⟩)) rfl (by kernel_rfl) (by kernel_rfl) (by kernel_rfl) (fun _ _ _ h => h) (Or.inl ⟨by kernel_rfl, fun _ _ => by kernel_rfl⟩) hS ?_
  refine wpAnyH_take (i := 5) (v := .pointer (some ⟨r, 0, none⟩)) rfl (by kernel_rfl) (by kernel_rfl) (by kernel_rfl) (fun _ _ _ h => h) (Or.inl ⟨by kernel_rfl, fun wx hx => by go_simp⟩) hS ?_
  refine wpAnyH_take (i := 6) (v := .pointer (some ⟨r, 1, none⟩)) rfl (by kernel_rfl) (by kernel_rfl) (by kernel_rfl) (fun _ _ _ h => h) (Or.inl ⟨by kernel_rfl, fun wx hx => by go_simp⟩) hS ?_
  refine wpAnyH_take (i := 7) (v := .int .i64 (ways : Int)) rfl (by kernel_rfl) (by kernel_rfl) (by kernel_rfl) (fun _ _ _ h => h) (Or.inl ⟨by kernel_rfl, fun wx hx => by have h1 := hx.1; have h2 := hx.2; go_simp⟩) hS ?_
  refine wpAnyH_ready (rs := [8]) (by kernel_rfl) (by simp) (AllReadyH.cons rfl (fun Kc hK => ?_) AllReadyH.nil)
  go_simp
  refine t2.mono ?_
  rintro e w2 ⟨rfl, hR2, hb2⟩
  have HR2 := Hid.mk hR2
  have HB2 : Hid (Below w1.heap.size w1 w2) := ⟨hbd1.trans (by rw [Hr2.out]; exact hb2)⟩
  refine hK.out _ _ (HSS.out _ (HB1.out.trans (HB2.out.mono HB1.out.size))) (fun hS => ?_)
  clear hK hR2 hb2
  refine wpAnyH_take (i := 9) (v := .tuple #[.pointer (some ⟨r2, 0, none⟩), .int .i64 0]) rfl (by kernel_rfl) (by kernel_rfl) (by kernel_rfl) (fun _ _ _ h => h) (Or.inl ⟨by kernel_rfl, fun _ _ => by kernel_rfl⟩) hS ?_
  refine wpAnyH_take (i := 10) (v := .pointer (some ⟨r2, 0, none⟩)) rfl (by kernel_rfl) (by kernel_rfl) (by kernel_rfl) (fun _ _ _ h => h) (Or.inl ⟨by kernel_rfl, fun wx hx => by go_simp⟩) hS ?_
  refine wpAnyH_take (i := 11) (v := .int .i64 0) rfl (by kernel_rfl) (by kernel_rfl) (by kernel_rfl) (fun _ _ _ h => h) (Or.inl ⟨by kernel_rfl, fun wx hx => by go_simp⟩) hS ?_
  refine wpAnyH_take (i := 12) (v := .pointer (some ⟨r2, 0, none⟩)) rfl (by kernel_rfl) (by kernel_rfl) (by kernel_rfl) (fun _ _ _ h => h) (Or.inl ⟨by kernel_rfl, fun _ _ => by kernel_rfl⟩) hS ?_
  refine wpAnyH_take (i := 13) (v := .int .i64 0) rfl (by kernel_rfl) (by kernel_rfl) (by kernel_rfl) (fun _ _ _ h => h) (Or.inl ⟨by kernel_rfl, fun _ _ => by kernel_rfl⟩) hS ?_
  refine wpAnyH_done (by kernel_rfl) ?_ _
  clear hS hS1
  go_simp
  have HT2 : Hid (Two w2 p2 c2 ((size + 63) / 64) r2 size ways (List.replicate ((size + 63) / 64) 0) (.slice none 0 0) []) := ⟨by
    have hl := HF1.out.lt
    have hcl := HF1.out.clt
    have hp := Hp2.out
    have hz := vars_pos HVW.out
    rw [Hr2.out] at hl hcl
    rw [Hc2.out] at hz
    exact ⟨HF1.out.far (X := []) (Chg.ofBelow HB2.out) (by simp) (by simp), HR2.out, HT.out.ok, by omega, by omega, by omega, by omega, by omega, by simp⟩⟩
  have HA0 := Hid.mk (Agree.none size)
  have HCW2 : Hid (Below W.heap.size W w2) := ⟨HB1.out.trans (HB2.out.mono HB1.out.size)⟩
  have Hsep : Hid (c < c2 ∧ r < c2 ∧ p < c2 ∧ c2 < p2 ∧ p2 < r2 ∧ b < c2 ∧ 0 < c ∧ 0 < r) := ⟨by
    have h1 := Hp2.out
    have h2 := HF1.out.lt
    have h3 := Hpb.out
    have h4 : W.heap.size = b + 1 := by rw [← HW.out, ← Hb.out]; simp
    have h5 := HT.out.cz
    have h6 := HT.out.rz
    rw [Hr2.out] at h2
    rw [Hc2.out] at h4
    omega⟩
  obtain ⟨cap2, Hcap2⟩ : ∃ c, Hid ((size + 63) / 64 = c) := ⟨_, ⟨rfl⟩⟩
  obtain ⟨cs0, Hcs0⟩ : ∃ c, Hid (List.replicate ((size + 63) / 64) 0 = c) := ⟨_, ⟨rfl⟩⟩
  rw [Hcs0.out] at HT2 HA0
  rw [Hcap2.out] at HT2
  have HD2 : Hid (∀ w', Chg [c2, r2] w2 w' → DdAt w' b x) := ⟨fun w' hc => (HD.out.far (X := []) (Chg.ofBelow HCW2.out) (by simp)).far hc (by have := Hsep.out; simp; omega)⟩
  have HX2 : Hid (∀ w', Chg [c2, r2] w2 w' → DdV w' x) := ⟨fun w' hc => ((Hx.out.keep (Chg.ofBelow HBW.out)).keep (Chg.ofBelow HCW2.out)).far hc (fun h0 g hg hm => by
    have h1 := Hx.out.rd.lt (by decide) h0 g hg
    have h2 := Hsep.out
    rw [Hb.out] at h1
    simp at hm
    omega)⟩
  go_wp2_with fail
  go_loopg [11] 10 (fun gg s11 wr => ∃ (k : Nat) (cs2 : List Nat) (v2 : Value) (l2 : List Int), k ≤ nL ∧ k ≤ 10 ∧ 10 - k ≤ gg ∧ s11 = .int .i64 (k : Int) ∧ Hid (Two wr p2 c2 cap2 r2 size ways cs2 v2 l2) ∧ Hid (Agree size cs2 l2) ∧ Hid (0 < l2.length → ∀ g, v2.ownBlock = some g → c2 ≤ g) ∧ Hid (Chg [c2, r2] w2 wr))
  case atStart => exact ⟨0, cs0, .slice none 0 0, [], Nat.zero_le _, Nat.zero_le _, Nat.le_refl _, rfl, HT2, HA0, ⟨by simp⟩, ⟨Chg.refl _ _⟩⟩
  case round =>
    obtain ⟨k, cs2, v2, l2, hk1, hk2, hgg, rfl, HU, HA2, Hv2, HG⟩ := hrel
    have hc33 := (HD2.out _ HG.out).c33 Hs.out
    rw [HxV.out] at hc33
    by_cases hlt : k < nL ∧ k < 10
    · obtain ⟨hlt1, hlt2⟩ := hlt
      have hz1 : (k : Int) < (nL : Int) := by omega
      have hz2 : (k : Int) < 10 := by omega
      have hkL : k < x.L.length := by rw [HnL.out]; exact hlt1
      obtain ⟨bL, oL, kL, eL, hAt⟩ := (HX2.out _ HG.out).rd.at hkL
      rw [HxV.out, HnL.out] at eL
      simp at eL
      obtain ⟨rfl, rfl⟩ := eL
      have Hsk : Hid (Sum32 (x.L.getD k [])) := ⟨Hx.out.ok _ (getD_mem' hkL)⟩
      have HAt := Hid.mk hAt
      clear hAt
      have HbL : Hid (bL < c2) := ⟨by
        have h1 := Hx.out.rd.lt (by decide) (by omega) bL (mem_ob.2 (by rw [HxV.out]; rfl))
        have h2 := Hsep.out
        rw [Hb.out] at h1
        omega⟩
      generalize x.L.getD k [] = sk at Hsk HAt
      have t3 := add_two HU.out HA2.out sk Hsk.out
      have HA3 := Hid.mk (HA2.out.add (ways := ways) sk HT.out.ok)
      have Hl2 : Hid (l2.length ≤ 65536) := ⟨by have := HA2.out.small; have := HT.out.bd; omega⟩
      go_wp2_with (first
        | (refine wp_loadS rfl (.tmp 89) rfl bL (oL + k * 32) (by kernel_rfl) sk HAt.out Hsk.out ?_)
        | (go_at_call 17; refine t3.mono ?_; rintro e w3 ⟨rfl, hT3, hC3⟩; have HT3 := Hid.mk hT3; have HC3 := Hid.mk hC3; clear hT3 hC3; have hc33b := (HD2.out _ (HG.out.trans (HC3.out.mono (by simp)))).c33 Hs.out; rw [HxV.out] at hc33b; have HAt3 : Hid (At w3 bL (oL + k * 32) (sc sk)) := ⟨HAt.out.far HC3.out (by have := HbL.out; simp; omega)⟩; have t4 := radd_two HT3.out (by have := Hl2.out; omega) sk Hsk.out)
        | (refine wp_loadS rfl (.tmp 96) rfl bL (oL + k * 32) (by kernel_rfl) sk HAt3.out Hsk.out ?_)
        | (go_at_call 18; refine t4.mono ?_; rintro e w4 ⟨rfl, ⟨v4, hT4, hV4⟩, hC4⟩; have HT4 := Hid.mk hT4; have HC4 := Hid.mk hC4; have HV4 := Hid.mk hV4; clear hT4 hC4 hV4))
      go_roundg (10 - (k + 1))
      case measure => omega
      case rel => exact ⟨k + 1, _, v4, _, by omega, by omega, by omega, by go_num, HT4, HA3, ⟨fun h0 g hg => by
          rcases HV4.out h0 g hg with ⟨h1, h2⟩ | h1
          · exact Hv2.out h1 g h2
          · have := HT3.out.fl.clt; omega⟩, ⟨(HG.out.trans (HC3.out.mono (by simp))).trans (HC4.out.mono (by simp))⟩⟩
    · have HCr : Hid (Chg [c2, r2] W wr) := ⟨(Chg.ofBelow HCW2.out).trans HG.out⟩
      have HTr : Hid (Two wr p c cap r size ways cs v l) := ⟨HT.out.far HCr.out (by have := Hsep.out; simp; omega) (by have := Hsep.out; simp; omega) (by have := Hsep.out; simp; omega) (fun h0 g hg => by have := HT.out.rf.vlt h0 g hg; rw [Hc2.out] at this; have := Hsep.out; simp; omega)⟩
      have HVr : Hid (Vars wr) := ⟨vars_far HVW.out HCr.out (by have := Hsep.out; simp; omega)⟩
      obtain ⟨a2, k2, e2, _⟩ := HU.out.rf.on.shape
      subst e2
      obtain ⟨n2, Hn2⟩ : ∃ n, Hid (l2.length = n) := ⟨_, ⟨rfl⟩⟩
      rw [Hn2.out] at HU
      have Hv2 : Hid (0 < l2.length → ∀ g, (Value.slice a2 n2 k2).ownBlock = some g → c2 ≤ g) := ⟨fun h0 g hg => Hv2.out h0 g (by cases a2 <;> exact hg)⟩
      have hd5 : Chg [c] wr wr.drew := (Chg.refl [c] wr).drew
      have hd5e : Chg [] wr wr.drew := (Chg.refl [] wr).drew
      have HU4 := HU
      have HSt : Hid (∀ w', RfAt w' r2 size ways (.slice a2 n2 k2) l2 → (fun w' => w'.cell? ⟨r2, 2, none⟩ = some (.slice a2 n2 k2)) w') := ⟨fun w' h => h.c2⟩
      have hS5 : (fun w' => w'.cell? ⟨r2, 2, none⟩ = some (.slice a2 n2 k2)) wr.drew := HSt.out _ (HU.out.keep hd5e).rf
      have t5 := merge_two (HTr.out.keep hd5e) HA.out (HU.out.keep hd5e) HA2.out (vars_far HVr.out hd5e (by simp)) (by have := Hsep.out; omega)
      have HMg := Hid.mk (HA.out.merge HA2.out)
      have HCw : Hid (Chg [c, r] w wr) := ⟨(Chg.ofBelow (X := [c, r]) HBW.out).thenNew HCr.out (fun y hy => .inr (by have h1 := Hsep.out; have h2 := Hb.out; simp at hy; omega))⟩
      by_cases hk3 : k < nL
      · have hz1 : (k : Int) < (nL : Int) := by omega
        have hz2 : ¬ (k : Int) < 10 := by omega
        go_upto_region 19 with fail
        refine wp_region_held_drew (S := (fun w' => w'.cell? ⟨r2, 2, none⟩ = some (.slice a2 n2 k2))) (by kernel_rfl) hS5 (fun hS => ?_)
        refine wpAnyH_take (i := 0) (v := .pointer (some ⟨p, 0, none⟩)) rfl (by kernel_rfl) (by kernel_rfl) (by kernel_rfl) (fun _ _ _ h => h) (Or.inl ⟨by kernel_rfl, fun _ _ => by kernel_rfl⟩) hS ?_
        refine wpAnyH_take (i := 1) (v := .pointer (some ⟨p2, 0, none⟩)) rfl (by kernel_rfl) (by kernel_rfl) (by kernel_rfl) (fun _ _ _ h => h) (Or.inl ⟨by kernel_rfl, fun _ _ => by kernel_rfl⟩) hS ?_
        refine wpAnyH_take (i := 3) (v := .pointer (some ⟨r, 0, none⟩)) rfl (by kernel_rfl) (by kernel_rfl) (by kernel_rfl) (fun _ _ _ h => h) (Or.inl ⟨by kernel_rfl, fun _ _ => by kernel_rfl⟩) hS ?_
        refine wpAnyH_take (i := 4) (v := .pointer (some ⟨r2, 0, none⟩)) rfl (by kernel_rfl) (by kernel_rfl) (by kernel_rfl) (fun _ _ _ h => h) (Or.inl ⟨by kernel_rfl, fun _ _ => by kernel_rfl⟩) hS ?_
        refine wpAnyH_ready (rs := [2]) (by kernel_rfl) (by simp) (AllReadyH.cons rfl (fun Kc hK => ?_) AllReadyH.nil)
        go_simp
        refine t5.mono ?_
        rintro e w5 ⟨rfl, hT5, hC5⟩
        have HT5 := Hid.mk hT5
        have HC5 : Hid (Chg [c] wr w5) := ⟨hd5.trans hC5⟩
        have HU5 : Hid (Two w5 p2 c2 cap2 r2 size ways cs2 (.slice a2 n2 k2) l2) := ⟨HU4.out.far HC5.out (by have := Hsep.out; simp; omega) (by have := Hsep.out; simp; omega) (by have := Hsep.out; simp; omega) (fun h0 g hg => by have := Hv2.out h0 g hg; have := Hsep.out; simp; omega)⟩
        have t6 := rmerge_two HT5.out HU5.out (by have := HA.out.small; have := HT.out.bd; omega) (by have := HA2.out.small; have := HT.out.bd; omega) (fun h0 g hg => by have := Hv2.out h0 g hg; have := Hsep.out; omega)
        refine hK.out _ _ (HSt.out _ HU5.out.rf) (fun hS => ?_)
        clear hK hT5 hC5
        refine wpAnyH_ready (rs := [5]) (by kernel_rfl) (by simp) (AllReadyH.cons rfl (fun Kc hK => ?_) AllReadyH.nil)
        go_simp
        refine t6.mono ?_
        rintro e w6 ⟨rfl, ⟨v6, hT6⟩, hC6⟩
        have HT6 := Hid.mk hT6
        have HC6 : Hid (Chg [c, r] wr w6) := ⟨(HC5.out.mono (by simp)).trans (hC6.mono (by simp))⟩
        have HU6 : Hid (Two w6 p2 c2 cap2 r2 size ways cs2 (.slice a2 n2 k2) l2) := ⟨HU5.out.far hC6 (by have := Hsep.out; simp; omega) (by have := Hsep.out; simp; omega) (by have := Hsep.out; simp; omega) (fun h0 g hg => by have := Hv2.out h0 g hg; have := Hsep.out; simp; omega)⟩
        have t7 := ones_two HU6.out HA2.out (vars_far (X := [c, r]) (HVr.out) HC6.out (by have := Hsep.out; simp; omega))
        rw [Hn2.out] at t7
        refine hK.out _ _ (HSt.out _ HU6.out.rf) (fun hS => ?_)
        clear hK hT6 hC6
        refine wpAnyH_take (i := 6) (v := .bool true) rfl (by kernel_rfl) (by kernel_rfl) (by kernel_rfl) (fun _ _ _ h => h) (Or.inl ⟨by kernel_rfl, fun wx hx => by go_simp⟩) hS ?_
        refine wpAnyH_take (i := 7) (v := .bool true) rfl (by kernel_rfl) (by kernel_rfl) (by kernel_rfl) (fun _ _ _ h => h) (Or.inl ⟨by kernel_rfl, fun _ _ => by kernel_rfl⟩) hS ?_
        refine wpAnyH_take (i := 8) (v := .pointer (some ⟨p2, 0, none⟩)) rfl (by kernel_rfl) (by kernel_rfl) (by kernel_rfl) (fun _ _ _ h => h) (Or.inl ⟨by kernel_rfl, fun _ _ => by kernel_rfl⟩) hS ?_
        refine wpAnyH_take (i := 10) (v := .pointer (some ⟨r2, 0, none⟩)) rfl (by kernel_rfl) (by kernel_rfl) (by kernel_rfl) (fun _ _ _ h => h) (Or.inl ⟨by kernel_rfl, fun _ _ => by kernel_rfl⟩) hS ?_
        refine wpAnyH_take (i := 11) (v := .pointer (some ⟨r2, 0, none⟩)) rfl (by kernel_rfl) (by kernel_rfl) (by kernel_rfl) (fun _ _ _ h => h) (Or.inl ⟨by kernel_rfl, fun wx hx => by go_simp⟩) hS ?_
        refine wpAnyH_take (i := 12) (v := .pointer (some ⟨r2, 2, none⟩)) rfl (by kernel_rfl) (by kernel_rfl) (by kernel_rfl) (fun _ _ _ h => h) (Or.inl ⟨by kernel_rfl, fun wx hx => by go_simp⟩) hS ?_
        refine wpAnyH_take (i := 13) (v := .slice a2 n2 k2) rfl (by kernel_rfl) (by kernel_rfl) (by kernel_rfl) (fun _ _ _ h => h) (Or.inl ⟨by kernel_rfl, fun wx hx => by go_simp⟩) hS ?_
        refine wpAnyH_take (i := 14) (v := .int .i64 (n2 : Int)) rfl (by kernel_rfl) (by kernel_rfl) (by kernel_rfl) (fun _ _ _ h => h) (Or.inl ⟨by kernel_rfl, fun wx hx => by go_simp⟩) hS ?_
        refine wpAnyH_ready (rs := [9]) (by kernel_rfl) (by simp) (AllReadyH.cons rfl (fun Kc hK => ?_) AllReadyH.nil)
        go_simp
        refine t7.mono ?_
        rintro e w7 ⟨rfl, hb7⟩
        have HT7 : Hid (Two w7 p c cap r size ways (orL cs (onFrom 0 cs2)) v6 (layF l l2)) := ⟨HT6.out.below hb7⟩
        have HC7 : Hid (Chg [c, r] wr w7) := ⟨HC6.out.trans (Chg.ofBelow hb7)⟩
        refine hK.out _ _ (HSt.out _ (HU6.out.below hb7).rf) (fun hS => ?_)
        clear hK hb7
        refine wpAnyH_take (i := 15) (v := .bool true) rfl (by kernel_rfl) (by kernel_rfl) (by kernel_rfl) (fun _ _ _ h => h) (Or.inl ⟨by kernel_rfl, fun wx hx => by go_simp⟩) hS ?_
        refine wpAnyH_take (i := 16) (v := .bool true) rfl (by kernel_rfl) (by kernel_rfl) (by kernel_rfl) (fun _ _ _ h => h) (Or.inl ⟨by kernel_rfl, fun wx hx => by go_simp⟩) hS ?_
        refine wpAnyH_take (i := 17) (v := .bool true) rfl (by kernel_rfl) (by kernel_rfl) (by kernel_rfl) (fun _ _ _ h => h) (Or.inl ⟨by kernel_rfl, fun _ _ => by kernel_rfl⟩) hS ?_
        refine wpAnyH_done (by kernel_rfl) ?_ _
        clear hS hS5
        go_simp
        go_wp2_with fail
        go_ret
        exact ⟨rfl, ⟨_, _, _, HT7.out, HMg.out, fun _ y hy => (mem_layF _ _ _).2 (.inl hy)⟩, HCw.out.trans HC7.out⟩
      · have hz1 : ¬ (k : Int) < (nL : Int) := by omega
        go_upto_region 19 with fail
        refine wp_region_held_drew (S := (fun w' => w'.cell? ⟨r2, 2, none⟩ = some (.slice a2 n2 k2))) (by kernel_rfl) hS5 (fun hS => ?_)
        refine wpAnyH_take (i := 0) (v := .pointer (some ⟨p, 0, none⟩)) rfl (by kernel_rfl) (by kernel_rfl) (by kernel_rfl) (fun _ _ _ h => h) (Or.inl ⟨by kernel_rfl, fun _ _ => by kernel_rfl⟩) hS ?_
        refine wpAnyH_take (i := 1) (v := .pointer (some ⟨p2, 0, none⟩)) rfl (by kernel_rfl) (by kernel_rfl) (by kernel_rfl) (fun _ _ _ h => h) (Or.inl ⟨by kernel_rfl, fun _ _ => by kernel_rfl⟩) hS ?_
        refine wpAnyH_take (i := 3) (v := .pointer (some ⟨r, 0, none⟩)) rfl (by kernel_rfl) (by kernel_rfl) (by kernel_rfl) (fun _ _ _ h => h) (Or.inl ⟨by kernel_rfl, fun _ _ => by kernel_rfl⟩) hS ?_
        refine wpAnyH_take (i := 4) (v := .pointer (some ⟨r2, 0, none⟩)) rfl (by kernel_rfl) (by kernel_rfl) (by kernel_rfl) (fun _ _ _ h => h) (Or.inl ⟨by kernel_rfl, fun _ _ => by kernel_rfl⟩) hS ?_
        refine wpAnyH_ready (rs := [2]) (by kernel_rfl) (by simp) (AllReadyH.cons rfl (fun Kc hK => ?_) AllReadyH.nil)
        go_simp
        refine t5.mono ?_
        rintro e w5 ⟨rfl, hT5, hC5⟩
        have HT5 := Hid.mk hT5
        have HC5 : Hid (Chg [c] wr w5) := ⟨hd5.trans hC5⟩
        have HU5 : Hid (Two w5 p2 c2 cap2 r2 size ways cs2 (.slice a2 n2 k2) l2) := ⟨HU4.out.far HC5.out (by have := Hsep.out; simp; omega) (by have := Hsep.out; simp; omega) (by have := Hsep.out; simp; omega) (fun h0 g hg => by have := Hv2.out h0 g hg; have := Hsep.out; simp; omega)⟩
        have t6 := rmerge_two HT5.out HU5.out (by have := HA.out.small; have := HT.out.bd; omega) (by have := HA2.out.small; have := HT.out.bd; omega) (fun h0 g hg => by have := Hv2.out h0 g hg; have := Hsep.out; omega)
        refine hK.out _ _ (HSt.out _ HU5.out.rf) (fun hS => ?_)
        clear hK hT5 hC5
        refine wpAnyH_ready (rs := [5]) (by kernel_rfl) (by simp) (AllReadyH.cons rfl (fun Kc hK => ?_) AllReadyH.nil)
        go_simp
        refine t6.mono ?_
        rintro e w6 ⟨rfl, ⟨v6, hT6⟩, hC6⟩
        have HT6 := Hid.mk hT6
        have HC6 : Hid (Chg [c, r] wr w6) := ⟨(HC5.out.mono (by simp)).trans (hC6.mono (by simp))⟩
        have HU6 : Hid (Two w6 p2 c2 cap2 r2 size ways cs2 (.slice a2 n2 k2) l2) := ⟨HU5.out.far hC6 (by have := Hsep.out; simp; omega) (by have := Hsep.out; simp; omega) (by have := Hsep.out; simp; omega) (fun h0 g hg => by have := Hv2.out h0 g hg; have := Hsep.out; simp; omega)⟩
        have t7 := ones_two HU6.out HA2.out (vars_far (X := [c, r]) (HVr.out) HC6.out (by have := Hsep.out; simp; omega))
        rw [Hn2.out] at t7
        refine hK.out _ _ (HSt.out _ HU6.out.rf) (fun hS => ?_)
        clear hK hT6 hC6
        refine wpAnyH_take (i := 6) (v := .bool true) rfl (by kernel_rfl) (by kernel_rfl) (by kernel_rfl) (fun _ _ _ h => h) (Or.inl ⟨by kernel_rfl, fun wx hx => by go_simp⟩) hS ?_
        refine wpAnyH_take (i := 7) (v := .bool true) rfl (by kernel_rfl) (by kernel_rfl) (by kernel_rfl) (fun _ _ _ h => h) (Or.inl ⟨by kernel_rfl, fun _ _ => by kernel_rfl⟩) hS ?_
        refine wpAnyH_take (i := 8) (v := .pointer (some ⟨p2, 0, none⟩)) rfl (by kernel_rfl) (by kernel_rfl) (by kernel_rfl) (fun _ _ _ h => h) (Or.inl ⟨by kernel_rfl, fun _ _ => by kernel_rfl⟩) hS ?_
        refine wpAnyH_take (i := 10) (v := .pointer (some ⟨r2, 0, none⟩)) rfl (by kernel_rfl) (by kernel_rfl) (by kernel_rfl) (fun _ _ _ h => h) (Or.inl ⟨by kernel_rfl, fun _ _ => by kernel_rfl⟩) hS ?_
        refine wpAnyH_take (i := 11) (v := .pointer (some ⟨r2, 0, none⟩)) rfl (by kernel_rfl) (by kernel_rfl) (by kernel_rfl) (fun _ _ _ h => h) (Or.inl ⟨by kernel_rfl, fun wx hx => by go_simp⟩) hS ?_
        refine wpAnyH_take (i := 12) (v := .pointer (some ⟨r2, 2, none⟩)) rfl (by kernel_rfl) (by kernel_rfl) (by kernel_rfl) (fun _ _ _ h => h) (Or.inl ⟨by kernel_rfl, fun wx hx => by go_simp⟩) hS ?_
        refine wpAnyH_take (i := 13) (v := .slice a2 n2 k2) rfl (by kernel_rfl) (by kernel_rfl) (by kernel_rfl) (fun _ _ _ h => h) (Or.inl ⟨by kernel_rfl, fun wx hx => by go_simp⟩) hS ?_
        refine wpAnyH_take (i := 14) (v := .int .i64 (n2 : Int)) rfl (by kernel_rfl) (by kernel_rfl) (by kernel_rfl) (fun _ _ _ h => h) (Or.inl ⟨by kernel_rfl, fun wx hx => by go_simp⟩) hS ?_
        refine wpAnyH_ready (rs := [9]) (by kernel_rfl) (by simp) (AllReadyH.cons rfl (fun Kc hK => ?_) AllReadyH.nil)
        go_simp
        refine t7.mono ?_
        rintro e w7 ⟨rfl, hb7⟩
        have HT7 : Hid (Two w7 p c cap r size ways (orL cs (onFrom 0 cs2)) v6 (layF l l2)) := ⟨HT6.out.below hb7⟩
        have HC7 : Hid (Chg [c, r] wr w7) := ⟨HC6.out.trans (Chg.ofBelow hb7)⟩
        refine hK.out _ _ (HSt.out _ (HU6.out.below hb7).rf) (fun hS => ?_)
        clear hK hb7
        refine wpAnyH_take (i := 15) (v := .bool true) rfl (by kernel_rfl) (by kernel_rfl) (by kernel_rfl) (fun _ _ _ h => h) (Or.inl ⟨by kernel_rfl, fun wx hx => by go_simp⟩) hS ?_
        refine wpAnyH_take (i := 16) (v := .bool true) rfl (by kernel_rfl) (by kernel_rfl) (by kernel_rfl) (fun _ _ _ h => h) (Or.inl ⟨by kernel_rfl, fun wx hx => by go_simp⟩) hS ?_
        refine wpAnyH_take (i := 17) (v := .bool true) rfl (by kernel_rfl) (by kernel_rfl) (by kernel_rfl) (fun _ _ _ h => h) (Or.inl ⟨by kernel_rfl, fun _ _ => by kernel_rfl⟩) hS ?_
        refine wpAnyH_done (by kernel_rfl) ?_ _
        clear hS hS5
        go_simp
        go_wp2_with fail
        go_ret
        exact ⟨rfl, ⟨_, _, _, HT7.out, HMg.out, fun _ y hy => (mem_layF _ _ _).2 (.inl hy)⟩, HCw.out.trans HC7.out⟩
end Go.Proofs.YtiloclekhddkfabDoor
