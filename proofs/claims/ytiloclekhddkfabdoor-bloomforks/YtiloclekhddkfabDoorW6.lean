/- The walk of BloomForks. -/
import Derived.Test.YtiloclekhddkfabDoorW3
namespace Go.Proofs.YtiloclekhddkfabDoor
open Go.RowKit
section
variable {w : World}
theorem clearNil_any : Calls Tryd.prog 25 #[.pointer none] w fun e w' => e = .returned (.int .i64 1) ∧ w = w' := by
  go_enter Tryd.func25, Tryd.ntmps25
  go_wp2_with fail
  go_ret
  exact ⟨rfl, rfl⟩
theorem forkNil_any : Calls Tryd.prog 22 #[.pointer none] w fun e w' => e = .returned (.pointer none) ∧ w = w' := by
  go_enter Tryd.func22, Tryd.ntmps22
  go_wp2_with fail
  go_ret
  exact ⟨rfl, rfl⟩
end
set_option maxHeartbeats 16000000 in
set_option maxRecDepth 100000 in
theorem forks_walk {w : World} (a b : Nat) (ha : a < 65536) (hb : b < 256) (v : Value) (L : List Dd) (hL : Deeds w v L) (u : Value) (M : List Dd) (hM : Deeds w u M) (s : List Int) (hs : Sum32 s) (hV : Vars w) : Calls Tryd.prog 7 #[.int .u16 (a : Int), .int .u8 (b : Int), v, u, .agg (sc s).toArray] w fun e w' => e = .returned (.bool true) ∧ Below w.heap.size w w' := by
  have hsz : 1 + a % 300 ≤ 300 := by omega
  have hbox := run_boxS
  have HV := Hid.mk hV
  have Hs := Hid.mk hs
  obtain ⟨g, Hg⟩ : ∃ g, Hid (w.heap.size = g) := ⟨_, ⟨rfl⟩⟩
  obtain ⟨W, HW⟩ : ∃ W, Hid (w.alloc (.cells (sc s).toArray 22) = W) := ⟨_, ⟨rfl⟩⟩
  have HBW : Hid (Below w.heap.size w W) := ⟨by rw [← HW.out]; exact (Below.refl _ w).alloc (Nat.le_refl _) _⟩
  have HA0 : Hid (SumAt W g s) := ⟨by rw [← HW.out, ← Hg.out]; exact heap_alloc_new w _⟩
  have HVW : Hid (Vars W) := ⟨vars_far (X := []) hV (Chg.ofBelow HBW.out) (by simp)⟩
  have t1 := play_any (w := W) a b ha hb v L (hL.keep (Chg.ofBelow HBW.out)) HVW.out
  generalize 1 + a % 300 = size at t1 hsz
  generalize 1 + b % 8 = ways at t1
  have HgW : Hid (g < W.heap.size) := ⟨HA0.out.lt⟩
  have HM := Hid.mk (hM.keep (Chg.ofBelow HBW.out))
  obtain ⟨aD, cD, e, hcD, hcM, _⟩ := hM.rd.shape
  obtain ⟨n, Hn⟩ : ∃ n, Hid (M.length = n) := ⟨_, ⟨rfl⟩⟩
  rw [Hn.out] at e hcD
  subst e
  have hnb : n ≤ 9223372036854775807 := by unfold maxLen at hcM; omega
  obtain ⟨es, Hes⟩ : ∃ es, Hid ((sc s).toArray = es) := ⟨_, ⟨rfl⟩⟩
  rw [Hes.out] at HW ⊢
  clear hV hs hL hM hcD hcM
  go_enter Tryd.func7, Tryd.ntmps7
  go_upto_region 1 with fail
  rw [HW.out, Hg.out]
  go_upto_region 5 with (first
    | (go_at_call 13; refine t1.mono ?_; rintro e w1 ⟨p, c, cap, r, hge, rfl, ⟨cs, vv, l, hT, hA⟩, hb1⟩; have HT := Hid.mk hT; have HA := Hid.mk hA; have HB1 := Hid.mk hb1; have Hge := Hid.mk hge; clear hT hA hb1 hge; have t2 := fork_any HT.out.fl (by rw [HA.out.len]; have := HT.out.bd; omega) (by rw [HA.out.len]; have := HT.out.bd; omega))
    | (go_at_call 22; refine t2.mono ?_; rintro e w2 ⟨rfl, ⟨cf, capf, hcf, hF2⟩, hb2⟩; have HF2 := Hid.mk hF2; have HB2 := Hid.mk hb2; have Hcf := Hid.mk hcf; clear hF2 hb2 hcf; have t3 := rfork_any (HT.out.below HB2.out).rf)
    | (go_at_call 23; refine t3.mono ?_; rintro e w3 ⟨rfl, hR3, hb3⟩; have HR3 := Hid.mk hR3; have HB3 := Hid.mk hb3; clear hR3 hb3))
  obtain ⟨pf, Hpf⟩ : ∃ x, Hid (w1.heap.size = x) := ⟨_, ⟨rfl⟩⟩
  obtain ⟨rg, Hrg⟩ : ∃ x, Hid (w2.heap.size = x) := ⟨_, ⟨rfl⟩⟩
  rw [Hpf.out] at HF2 Hcf ⊢
  rw [Hrg.out] at HR3 ⊢
  have Hsep : Hid (p < pf ∧ c < pf ∧ r < pf ∧ pf < cf ∧ cf < rg ∧ g < p ∧ g < c ∧ g < r) := ⟨by
    have h1 := HT.out.fl.lt
    have h2 := HT.out.fl.clt
    have h3 := HT.out.rf.lt
    have h4 := Hcf.out
    have h5 := HF2.out.clt
    have h6 := Hpf.out
    have h7 := Hrg.out
    have h8 := Hge.out
    have h9 := HgW.out
    omega⟩
  have Hvl : Hid (0 < l.length → ∀ k, vv.ownBlock = some k → k < pf) := ⟨fun h0 k hk => by rw [← Hpf.out]; exact HT.out.rf.vlt h0 k hk⟩
  have HC13 : Hid (Chg [] w1 w3) := ⟨(Chg.ofBelow HB2.out).trans (Chg.ofBelow HB3.out)⟩
  have HX3 : Hid (Two w3 p c cap r size ways cs vv l) := ⟨HT.out.keep HC13.out⟩
  have HF3 : Hid (Two w3 pf cf capf rg size ways cs vv l) := ⟨by
    have h1 := Hsep.out
    exact ⟨HF2.out.far (X := []) (Chg.ofBelow HB3.out) (by simp) (by simp), HR3.out, HT.out.ok, by omega, by omega, by omega, by omega, by omega, fun h0 k hk => by have := Hvl.out h0 k hk; simp; omega⟩⟩
  have HB03 : Hid (Below W.heap.size W w3) := ⟨HB1.out.trans (HC13.out.below HB1.out.size (by simp))⟩
  have HpfW : Hid (W.heap.size ≤ pf) := ⟨by rw [← Hpf.out]; exact HB1.out.size⟩
  clear t2 t3 HT HF2 HR3
  go_wp2_with fail
  go_loopg [16] 40 (fun gg s16 wr => ∃ (k : Nat) (cs' : List Nat) (v' : Value) (l' : List Int), k ≤ n ∧ k ≤ 40 ∧ 40 - k ≤ gg ∧ s16 = .int .i64 (k : Int) ∧ Hid (Two wr pf cf capf rg size ways cs' v' l') ∧ Hid (Agree size cs' l') ∧ Hid (Two wr p c cap r size ways cs vv l) ∧ Hid (Below W.heap.size W wr))
  case atStart => exact ⟨0, cs, vv, l, Nat.zero_le _, Nat.zero_le _, Nat.le_refl _, rfl, HF3, HA, HX3, HB03⟩
  case round =>
    obtain ⟨k, cs', v', l', hk1, hk2, hgg, rfl, HF, HAf, HX, HGr⟩ := hrel
    by_cases hlt : k < n ∧ k < 40
    · obtain ⟨hlt1, hlt2⟩ := hlt
      have hz1 : (k : Int) < (n : Int) := by omega
      have hz2 : (k : Int) < 40 := by omega
      have hkL : k < M.length := by rw [Hn.out]; exact hlt1
      have HMr := Hid.mk (HM.out.keep (Chg.ofBelow HGr.out))
      obtain ⟨bD, oD, kD, eD, hAt⟩ := HMr.out.at hkL
      rw [Hn.out] at eD
      simp at eD
      obtain ⟨rfl, rfl⟩ := eD
      have Hxk : Hid (DdV wr (M.getD k dd0)) := ⟨HMr.out.ok _ (getD_mem' hkL)⟩
      have Hld : Hid ((loadVar 47 ⟨bD, oD + k * 34, none⟩).run Tryd.prog wr = .ok (.agg (dc (M.getD k dd0)).toArray) wr) := ⟨run_loadD hAt Hxk.out.s⟩
      have t4 := do_any (w := wr) (M.getD k dd0) Hxk.out HF.out HAf.out (vars_far (X := []) HVW.out (Chg.ofBelow HGr.out) (by simp))
      obtain ⟨ds, Hds⟩ : ∃ es, Hid ((dc (M.getD k dd0)).toArray = es) := ⟨_, ⟨rfl⟩⟩
      rw [Hds.out] at t4 Hld
      clear hAt
      go_wp2_with (first
        | (refine wp_loadD rfl (.tmp 48) rfl bD (oD + k * 34) (by kernel_rfl) ds Hld.out ?_)
        | (go_at_call 19; refine t4.mono ?_; rintro e w4 ⟨rfl, ⟨cs4, v4, l4, hT4, hA4, -⟩, hC4⟩; have HT4 := Hid.mk hT4; have HA4 := Hid.mk hA4; have HX4 : Hid (Two w4 p c cap r size ways cs vv l) := ⟨HX.out.far hC4 (by have := Hsep.out; simp; omega) (by have := Hsep.out; simp; omega) (by have := Hsep.out; simp; omega) (fun h0 k hk => by have := Hvl.out h0 k hk; have := Hsep.out; simp; omega)⟩; have HB4 : Hid (Below W.heap.size W w4) := ⟨HGr.out.trans (hC4.below HGr.out.size (by have := Hsep.out; have := HpfW.out; simp; omega))⟩; clear hT4 hA4 hC4))
      go_roundg (40 - (k + 1))
      case measure => omega
      case rel => exact ⟨k + 1, _, _, _, by omega, by omega, by omega, by go_num, HT4, HA4, HX4, HB4⟩
    · have HSB : Hid (∀ w', Below wr.heap.size wr w' → (fun w' => w'.cell? ⟨r, 0, none⟩ = some (.int .i64 (size : Int)) ∧ w'.cell? ⟨r, 1, none⟩ = some (.int .i64 (ways : Int))) w') := ⟨fun w' hb => by have := (HX.out.below hb).rf; exact ⟨this.c0, this.c1⟩⟩
      have hbd : Below wr.heap.size wr wr.drew := (Chg.refl [] wr).drew.below (Nat.le_refl _) (by simp)
      have hS4 : (fun w' => w'.cell? ⟨r, 0, none⟩ = some (.int .i64 (size : Int)) ∧ w'.cell? ⟨r, 1, none⟩ = some (.int .i64 (ways : Int))) wr.drew := HSB.out _ hbd
      have t5 := new_ok (w := wr.drew) (size + 1) ways (decide_eq_true (by have := HX.out.bd; omega))
      obtain ⟨cw, Hcw⟩ : ∃ x, Hid (wr.heap.size = x) := ⟨_, ⟨rfl⟩⟩
      rw [show wr.drew.heap.size = cw from Hcw.out] at t5
      have HVr : Hid (Vars wr) := ⟨vars_far (X := []) HVW.out (Chg.ofBelow HGr.out) (by simp)⟩
      clear HF3 HX3 HB03
      by_cases hk3 : k < n
      · have hz1 : (k : Int) < (n : Int) := by omega
        have hz2 : ¬ (k : Int) < 40 := by omega
        go_upto_region 11 with fail
        refine wp_region_held_drew (S := (fun w' => w'.cell? ⟨r, 0, none⟩ = some (.int .i64 (size : Int)) ∧ w'.cell? ⟨r, 1, none⟩ = some (.int .i64 (ways : Int)))) (by kernel_rfl) hS4 (fun hS => ?_)
        refine wpAnyH_take (i := 0) (v := .pointer (some ⟨r, 0, none⟩)) rfl (by kernel_rfl) (by kernel_rfl) (by kernel_rfl) (fun _ _ _ h => h) (Or.inl ⟨by kernel_rfl, fun _ _ => by kernel_rfl⟩) hS ?_
        refine wpAnyH_take (i := 1) (v := .pointer (some ⟨r, 0, none⟩)) rfl (by kernel_rfl) (by kernel_rfl) (by kernel_rfl) (fun _ _ _ h => h) (Or.inl ⟨by kernel_rfl, fun wx hx => by go_simp⟩) hS ?_
        refine wpAnyH_take (i := 2) (v := .pointer (some ⟨r, 0, none⟩)) rfl (by kernel_rfl) (by kernel_rfl) (by kernel_rfl) (fun _ _ _ h => h) (Or.inl ⟨by kernel_rfl, fun wx hx => by go_simp⟩) hS ?_
        refine wpAnyH_take (i := 3) (v := .int .i64 (size : Int)) rfl (by kernel_rfl) (by kernel_rfl) (by kernel_rfl) (fun _ _ _ h => h) (Or.inl ⟨by kernel_rfl, fun wx hx => by have h1 := hx.1; have h2 := hx.2; go_simp⟩) hS ?_
        refine wpAnyH_take (i := 4) (v := .int .i64 ((size + 1 : Nat) : Int)) rfl (by kernel_rfl) (by kernel_rfl) (by kernel_rfl) (fun _ _ _ h => h) (Or.inl ⟨by kernel_rfl, fun wx hx => by have h1 : IntKind.i64.wrap ((size : Int) + 1) = (size : Int) + 1 := IntWalk.i64_in _ ⟨by omega, by omega⟩; go_simp; try omega⟩) hS ?_
        refine wpAnyH_take (i := 5) (v := .pointer (some ⟨r, 0, none⟩)) rfl (by kernel_rfl) (by kernel_rfl) (by kernel_rfl) (fun _ _ _ h => h) (Or.inl ⟨by kernel_rfl, fun _ _ => by kernel_rfl⟩) hS ?_
        refine wpAnyH_take (i := 6) (v := .pointer (some ⟨r, 0, none⟩)) rfl (by kernel_rfl) (by kernel_rfl) (by kernel_rfl) (fun _ _ _ h => h) (Or.inl ⟨by kernel_rfl, fun wx hx => by go_simp⟩) hS ?_
        refine wpAnyH_take (i := 7) (v := .pointer (some ⟨r, 1, none⟩)) rfl (by kernel_rfl) (by kernel_rfl) (by kernel_rfl) (fun _ _ _ h => h) (Or.inl ⟨by kernel_rfl, fun wx hx => by go_simp⟩) hS ?_
        refine wpAnyH_take (i := 8) (v := .int .i64 (ways : Int)) rfl (by kernel_rfl) (by kernel_rfl) (by kernel_rfl) (fun _ _ _ h => h) (Or.inl ⟨by kernel_rfl, fun wx hx => by have h1 := hx.1; have h2 := hx.2; go_simp⟩) hS ?_
        refine wpAnyH_ready (rs := [9]) (by kernel_rfl) (by simp) (AllReadyH.cons rfl (fun Kc hK => ?_) AllReadyH.nil)
        go_simp
        refine t5.mono ?_
        rintro e w4 ⟨pw, _, rfl, hF4, hb4⟩
        have HW4 := Hid.mk hF4
        have HB4 : Hid (Below wr.heap.size wr w4) := ⟨hbd.trans (by rw [Hcw.out]; exact hb4)⟩
        refine hK.out _ _ (HSB.out _ HB4.out) (fun hS => ?_)
        clear hK hF4 hb4
        refine wpAnyH_take (i := 10) (v := .tuple #[.pointer (some ⟨pw, 0, none⟩), .int .i64 0]) rfl (by kernel_rfl) (by kernel_rfl) (by kernel_rfl) (fun _ _ _ h => h) (Or.inl ⟨by kernel_rfl, fun _ _ => by kernel_rfl⟩) hS ?_
        refine wpAnyH_take (i := 11) (v := .pointer (some ⟨pw, 0, none⟩)) rfl (by kernel_rfl) (by kernel_rfl) (by kernel_rfl) (fun _ _ _ h => h) (Or.inl ⟨by kernel_rfl, fun wx hx => by go_simp⟩) hS ?_
        refine wpAnyH_take (i := 12) (v := .int .i64 0) rfl (by kernel_rfl) (by kernel_rfl) (by kernel_rfl) (fun _ _ _ h => h) (Or.inl ⟨by kernel_rfl, fun wx hx => by go_simp⟩) hS ?_
        refine wpAnyH_take (i := 13) (v := .pointer (some ⟨pw, 0, none⟩)) rfl (by kernel_rfl) (by kernel_rfl) (by kernel_rfl) (fun _ _ _ h => h) (Or.inl ⟨by kernel_rfl, fun _ _ => by kernel_rfl⟩) hS ?_
        refine wpAnyH_take (i := 14) (v := .int .i64 0) rfl (by kernel_rfl) (by kernel_rfl) (by kernel_rfl) (fun _ _ _ h => h) (Or.inl ⟨by kernel_rfl, fun _ _ => by kernel_rfl⟩) hS ?_
        refine wpAnyH_done (by kernel_rfl) ?_ _
        clear hS hS4
        go_simp
        have HX4 : Hid (Two w4 p c cap r size ways cs vv l) := ⟨HX.out.below HB4.out⟩
        have HF4 : Hid (Two w4 pf cf capf rg size ways cs' v' l') := ⟨HF.out.below HB4.out⟩
        have HAx := HA
        have HV4 : Hid (Vars w4) := ⟨vars_far (X := []) HVr.out (Chg.ofBelow HB4.out) (by simp)⟩
        obtain ⟨av, cv, ev, _⟩ := HX4.out.rf.on.shape
        subst ev
        obtain ⟨nv, Hnv⟩ : ∃ n, Hid (l.length = n) := ⟨_, ⟨rfl⟩⟩
        rw [Hnv.out] at HX4
        have HSS : Hid (∀ w', Below w4.heap.size w4 w' → (fun w' => (loadVar 22 ⟨g, 0, none⟩).run Tryd.prog w' = .ok (.agg es) w' ∧ w'.cell? ⟨r, 2, none⟩ = some (.slice av nv cv)) w') := ⟨fun w' hb => ⟨by
          rw [← Hes.out]
          exact run_loadS (At.row (((HA0.out.far (X := []) (Chg.ofBelow HGr.out) (by simp)).far (X := []) (Chg.ofBelow HB4.out) (by simp)).far (X := []) (Chg.ofBelow hb) (by simp))) Hs.out, (HX4.out.below hb).rf.c2⟩⟩
        have HB10 : Hid (Below w4.heap.size w4 w4.drew) := ⟨(Chg.refl [] w4).drew.below (Nat.le_refl _) (by simp)⟩
        have hS0 : (fun w' => (loadVar 22 ⟨g, 0, none⟩).run Tryd.prog w' = .ok (.agg es) w' ∧ w'.cell? ⟨r, 2, none⟩ = some (.slice av nv cv)) w4.drew := HSS.out _ HB10.out
        go_upto_region 12 with fail
        refine wp_region_held_drew (S := (fun w' => (loadVar 22 ⟨g, 0, none⟩).run Tryd.prog w' = .ok (.agg es) w' ∧ w'.cell? ⟨r, 2, none⟩ = some (.slice av nv cv))) (by kernel_rfl) hS0 (fun hS => ?_)
        refine wpAnyH_ready (rs := [0]) (by kernel_rfl) (by simp) (AllReadyH.cons rfl (fun Kc hK => ?_) AllReadyH.nil)
        go_simp
        refine (live_any (vars_far (X := []) HV4.out (Chg.ofBelow HB10.out) (by simp))).mono ?_
        rintro e w11 ⟨rfl, hb⟩
        have HB11 : Hid (Below w4.heap.size w4 w11) := ⟨HB10.out.trans (hb.mono HB10.out.size)⟩
        refine hK.out _ _ (HSS.out _ HB11.out) (fun hS => ?_)
        clear hK hb
        refine wpAnyH_take (i := 1) (v := .bool true) rfl (by kernel_rfl) (by kernel_rfl) (by kernel_rfl) (fun _ _ _ h => h) (Or.inl ⟨by kernel_rfl, fun _ _ => by kernel_rfl⟩) hS ?_
        refine wpAnyH_take (i := 2) (v := .pointer (some ⟨p, 0, none⟩)) rfl (by kernel_rfl) (by kernel_rfl) (by kernel_rfl) (fun _ _ _ h => h) (Or.inl ⟨by kernel_rfl, fun _ _ => by kernel_rfl⟩) hS ?_
        refine wpAnyH_take (i := 3) (v := .agg es) rfl (by kernel_rfl) (by kernel_rfl) (by kernel_rfl) (fun _ _ _ h => h) (Or.inl ⟨by kernel_rfl, fun wx hx => exec_load rfl g 0 (by kernel_rfl) hx.1⟩) hS ?_
        refine wpAnyH_take (i := 5) (v := .pointer (some ⟨r, 0, none⟩)) rfl (by kernel_rfl) (by kernel_rfl) (by kernel_rfl) (fun _ _ _ h => h) (Or.inl ⟨by kernel_rfl, fun _ _ => by kernel_rfl⟩) hS ?_
        refine wpAnyH_take (i := 6) (v := .agg es) rfl (by kernel_rfl) (by kernel_rfl) (by kernel_rfl) (fun _ _ _ h => h) (Or.inl ⟨by kernel_rfl, fun wx hx => exec_load rfl g 0 (by kernel_rfl) hx.1⟩) hS ?_
        refine wpAnyH_ready (rs := [4]) (by kernel_rfl) (by simp) (AllReadyH.cons rfl (fun Kc hK => ?_) AllReadyH.nil)
        go_simp
        have z := has_two (HX4.out.below HB11.out) HAx.out s Hs.out
        rw [Hes.out] at z
        refine (z).mono ?_
        rintro e w12 ⟨rfl, hb⟩
        clear z
        have HB12 : Hid (Below w4.heap.size w4 w12) := ⟨HB11.out.trans (hb.mono HB11.out.size)⟩
        refine hK.out _ _ (HSS.out _ HB12.out) (fun hS => ?_)
        clear hK hb
        refine wpAnyH_ready (rs := [7]) (by kernel_rfl) (by simp) (AllReadyH.cons rfl (fun Kc hK => ?_) AllReadyH.nil)
        go_simp
        have z := rhas_two (HX4.out.below HB12.out) HAx.out s Hs.out
        rw [Hes.out] at z
        refine (z).mono ?_
        rintro e w13 ⟨rfl, hb⟩
        clear z
        have HB13 : Hid (Below w4.heap.size w4 w13) := ⟨HB12.out.trans (hb.mono HB12.out.size)⟩
        refine hK.out _ _ (HSS.out _ HB13.out) (fun hS => ?_)
        clear hK hb
        refine wpAnyH_take (i := 8) (v := .bool true) rfl (by kernel_rfl) (by kernel_rfl) (by kernel_rfl) (fun _ _ _ h => h) (Or.inl ⟨by kernel_rfl, fun wx hx => by go_simp⟩) hS ?_
        refine wpAnyH_take (i := 9) (v := .bool true) rfl (by kernel_rfl) (by kernel_rfl) (by kernel_rfl) (fun _ _ _ h => h) (Or.inl ⟨by kernel_rfl, fun wx hx => by go_simp⟩) hS ?_
        refine wpAnyH_take (i := 10) (v := .bool true) rfl (by kernel_rfl) (by kernel_rfl) (by kernel_rfl) (fun _ _ _ h => h) (Or.inl ⟨by kernel_rfl, fun _ _ => by kernel_rfl⟩) hS ?_
        refine wpAnyH_take (i := 11) (v := .pointer (some ⟨p, 0, none⟩)) rfl (by kernel_rfl) (by kernel_rfl) (by kernel_rfl) (fun _ _ _ h => h) (Or.inl ⟨by kernel_rfl, fun _ _ => by kernel_rfl⟩) hS ?_
        refine wpAnyH_take (i := 13) (v := .pointer (some ⟨r, 0, none⟩)) rfl (by kernel_rfl) (by kernel_rfl) (by kernel_rfl) (fun _ _ _ h => h) (Or.inl ⟨by kernel_rfl, fun _ _ => by kernel_rfl⟩) hS ?_
        refine wpAnyH_take (i := 14) (v := .pointer (some ⟨r, 0, none⟩)) rfl (by kernel_rfl) (by kernel_rfl) (by kernel_rfl) (fun _ _ _ h => h) (Or.inl ⟨by kernel_rfl, fun wx hx => by go_simp⟩) hS ?_
        refine wpAnyH_take (i := 15) (v := .pointer (some ⟨r, 2, none⟩)) rfl (by kernel_rfl) (by kernel_rfl) (by kernel_rfl) (fun _ _ _ h => h) (Or.inl ⟨by kernel_rfl, fun wx hx => by go_simp⟩) hS ?_
        refine wpAnyH_take (i := 16) (v := .slice av nv cv) rfl (by kernel_rfl) (by kernel_rfl) (by kernel_rfl) (fun _ _ _ h => h) (Or.inl ⟨by kernel_rfl, fun wx hx => by have h1 := hx.2; go_simp⟩) hS ?_
        refine wpAnyH_take (i := 17) (v := .int .i64 (nv : Int)) rfl (by kernel_rfl) (by kernel_rfl) (by kernel_rfl) (fun _ _ _ h => h) (Or.inl ⟨by kernel_rfl, fun wx hx => by go_simp⟩) hS ?_
        refine wpAnyH_ready (rs := [12]) (by kernel_rfl) (by simp) (AllReadyH.cons rfl (fun Kc hK => ?_) AllReadyH.nil)
        go_simp
        have z := ones_two (HX4.out.below HB13.out) HAx.out (vars_far (X := []) HV4.out (Chg.ofBelow HB13.out) (by simp))
        rw [Hnv.out] at z
        refine (z).mono ?_
        rintro e w14 ⟨rfl, hb⟩
        clear z
        have HB14 : Hid (Below w4.heap.size w4 w14) := ⟨HB13.out.trans (hb.mono HB13.out.size)⟩
        refine hK.out _ _ (HSS.out _ HB14.out) (fun hS => ?_)
        clear hK hb
        refine wpAnyH_take (i := 18) (v := .bool true) rfl (by kernel_rfl) (by kernel_rfl) (by kernel_rfl) (fun _ _ _ h => h) (Or.inl ⟨by kernel_rfl, fun wx hx => by go_simp⟩) hS ?_
        refine wpAnyH_take (i := 19) (v := .bool true) rfl (by kernel_rfl) (by kernel_rfl) (by kernel_rfl) (fun _ _ _ h => h) (Or.inl ⟨by kernel_rfl, fun wx hx => by go_simp⟩) hS ?_
        refine wpAnyH_take (i := 20) (v := .bool true) rfl (by kernel_rfl) (by kernel_rfl) (by kernel_rfl) (fun _ _ _ h => h) (Or.inl ⟨by kernel_rfl, fun _ _ => by kernel_rfl⟩) hS ?_
        refine wpAnyH_take (i := 21) (v := .pointer (some ⟨pf, 0, none⟩)) rfl (by kernel_rfl) (by kernel_rfl) (by kernel_rfl) (fun _ _ _ h => h) (Or.inl ⟨by kernel_rfl, fun _ _ => by kernel_rfl⟩) hS ?_
        refine wpAnyH_take (i := 22) (v := .agg es) rfl (by kernel_rfl) (by kernel_rfl) (by kernel_rfl) (fun _ _ _ h => h) (Or.inl ⟨by kernel_rfl, fun wx hx => exec_load rfl g 0 (by kernel_rfl) hx.1⟩) hS ?_
        refine wpAnyH_take (i := 24) (v := .pointer (some ⟨rg, 0, none⟩)) rfl (by kernel_rfl) (by kernel_rfl) (by kernel_rfl) (fun _ _ _ h => h) (Or.inl ⟨by kernel_rfl, fun _ _ => by kernel_rfl⟩) hS ?_
        refine wpAnyH_take (i := 25) (v := .agg es) rfl (by kernel_rfl) (by kernel_rfl) (by kernel_rfl) (fun _ _ _ h => h) (Or.inl ⟨by kernel_rfl, fun wx hx => exec_load rfl g 0 (by kernel_rfl) hx.1⟩) hS ?_
        refine wpAnyH_ready (rs := [23]) (by kernel_rfl) (by simp) (AllReadyH.cons rfl (fun Kc hK => ?_) AllReadyH.nil)
        go_simp
        have z := has_two (HF4.out.below HB14.out) HAf.out s Hs.out
        rw [Hes.out] at z
        refine (z).mono ?_
        rintro e w15 ⟨rfl, hb⟩
        clear z
        have HB15 : Hid (Below w4.heap.size w4 w15) := ⟨HB14.out.trans (hb.mono HB14.out.size)⟩
        refine hK.out _ _ (HSS.out _ HB15.out) (fun hS => ?_)
        clear hK hb
        refine wpAnyH_ready (rs := [26]) (by kernel_rfl) (by simp) (AllReadyH.cons rfl (fun Kc hK => ?_) AllReadyH.nil)
        go_simp
        have z := rhas_two (HF4.out.below HB15.out) HAf.out s Hs.out
        rw [Hes.out] at z
        refine (z).mono ?_
        rintro e w16 ⟨rfl, hb⟩
        clear z
        have HB16 : Hid (Below w4.heap.size w4 w16) := ⟨HB15.out.trans (hb.mono HB15.out.size)⟩
        refine hK.out _ _ (HSS.out _ HB16.out) (fun hS => ?_)
        clear hK hb
        refine wpAnyH_take (i := 27) (v := .bool true) rfl (by kernel_rfl) (by kernel_rfl) (by kernel_rfl) (fun _ _ _ h => h) (Or.inl ⟨by kernel_rfl, fun wx hx => by go_simp⟩) hS ?_
        refine wpAnyH_take (i := 28) (v := .bool true) rfl (by kernel_rfl) (by kernel_rfl) (by kernel_rfl) (fun _ _ _ h => h) (Or.inl ⟨by kernel_rfl, fun wx hx => by go_simp⟩) hS ?_
        refine wpAnyH_take (i := 29) (v := .bool true) rfl (by kernel_rfl) (by kernel_rfl) (by kernel_rfl) (fun _ _ _ h => h) (Or.inl ⟨by kernel_rfl, fun _ _ => by kernel_rfl⟩) hS ?_
        refine wpAnyH_take (i := 30) (v := .int .i64 0) rfl (by kernel_rfl) (by kernel_rfl) (by kernel_rfl) (fun _ _ _ h => h) (Or.inl ⟨by kernel_rfl, fun _ _ => by kernel_rfl⟩) hS ?_
        refine wpAnyH_take (i := 31) (v := .bool true) rfl (by kernel_rfl) (by kernel_rfl) (by kernel_rfl) (fun _ _ _ h => h) (Or.inl ⟨by kernel_rfl, fun wx hx => by go_simp⟩) hS ?_
        refine wpAnyH_take (i := 32) (v := .bool true) rfl (by kernel_rfl) (by kernel_rfl) (by kernel_rfl) (fun _ _ _ h => h) (Or.inl ⟨by kernel_rfl, fun wx hx => by go_simp⟩) hS ?_
        refine wpAnyH_take (i := 33) (v := .bool true) rfl (by kernel_rfl) (by kernel_rfl) (by kernel_rfl) (fun _ _ _ h => h) (Or.inl ⟨by kernel_rfl, fun _ _ => by kernel_rfl⟩) hS ?_
        refine wpAnyH_take (i := 34) (v := .pointer (some ⟨p, 0, none⟩)) rfl (by kernel_rfl) (by kernel_rfl) (by kernel_rfl) (fun _ _ _ h => h) (Or.inl ⟨by kernel_rfl, fun _ _ => by kernel_rfl⟩) hS ?_
        refine wpAnyH_take (i := 35) (v := .pointer (some ⟨pw, 0, none⟩)) rfl (by kernel_rfl) (by kernel_rfl) (by kernel_rfl) (fun _ _ _ h => h) (Or.inl ⟨by kernel_rfl, fun _ _ => by kernel_rfl⟩) hS ?_
        refine wpAnyH_ready (rs := [36]) (by kernel_rfl) (by simp) (AllReadyH.cons rfl (fun Kc hK => ?_) AllReadyH.nil)
        go_simp
        refine (mergeNo_any (by omega) (HX4.out.below HB16.out).fl (HW4.out.far (X := []) (Chg.ofBelow HB16.out) (by simp) (by simp))).mono ?_
        rintro e w17 ⟨rfl, hb⟩
        have HB17 : Hid (Below w4.heap.size w4 w17) := ⟨HB16.out.trans (hb.mono HB16.out.size)⟩
        refine hK.out _ _ (HSS.out _ HB17.out) (fun hS => ?_)
        clear hK hb
        refine wpAnyH_take (i := 37) (v := .bool true) rfl (by kernel_rfl) (by kernel_rfl) (by kernel_rfl) (fun _ _ _ h => h) (Or.inl ⟨by kernel_rfl, fun wx hx => by go_simp⟩) hS ?_
        refine wpAnyH_take (i := 38) (v := .bool true) rfl (by kernel_rfl) (by kernel_rfl) (by kernel_rfl) (fun _ _ _ h => h) (Or.inl ⟨by kernel_rfl, fun wx hx => by go_simp⟩) hS ?_
        refine wpAnyH_take (i := 39) (v := .bool true) rfl (by kernel_rfl) (by kernel_rfl) (by kernel_rfl) (fun _ _ _ h => h) (Or.inl ⟨by kernel_rfl, fun _ _ => by kernel_rfl⟩) hS ?_
        refine wpAnyH_take (i := 40) (v := .pointer (some ⟨p, 0, none⟩)) rfl (by kernel_rfl) (by kernel_rfl) (by kernel_rfl) (fun _ _ _ h => h) (Or.inl ⟨by kernel_rfl, fun _ _ => by kernel_rfl⟩) hS ?_
        refine wpAnyH_take (i := 41) (v := .pointer none) rfl (by kernel_rfl) (by kernel_rfl) (by kernel_rfl) (fun _ _ _ h => h) (Or.inl ⟨by kernel_rfl, fun _ _ => by kernel_rfl⟩) hS ?_
        refine wpAnyH_ready (rs := [42]) (by kernel_rfl) (by simp) (AllReadyH.cons rfl (fun Kc hK => ?_) AllReadyH.nil)
        go_simp
        refine (mergeNilR_any p).mono ?_
        rintro e w18 ⟨rfl, hb⟩
        have HB18 : Hid (Below w4.heap.size w4 w18) := ⟨HB17.out.trans (hb.mono HB17.out.size)⟩
        refine hK.out _ _ (HSS.out _ HB18.out) (fun hS => ?_)
        clear hK hb
        refine wpAnyH_take (i := 43) (v := .bool true) rfl (by kernel_rfl) (by kernel_rfl) (by kernel_rfl) (fun _ _ _ h => h) (Or.inl ⟨by kernel_rfl, fun wx hx => by go_simp⟩) hS ?_
        refine wpAnyH_take (i := 44) (v := .bool true) rfl (by kernel_rfl) (by kernel_rfl) (by kernel_rfl) (fun _ _ _ h => h) (Or.inl ⟨by kernel_rfl, fun wx hx => by go_simp⟩) hS ?_
        refine wpAnyH_take (i := 45) (v := .bool true) rfl (by kernel_rfl) (by kernel_rfl) (by kernel_rfl) (fun _ _ _ h => h) (Or.inl ⟨by kernel_rfl, fun _ _ => by kernel_rfl⟩) hS ?_
        refine wpAnyH_take (i := 46) (v := .pointer none) rfl (by kernel_rfl) (by kernel_rfl) (by kernel_rfl) (fun _ _ _ h => h) (Or.inl ⟨by kernel_rfl, fun _ _ => by kernel_rfl⟩) hS ?_
        refine wpAnyH_take (i := 47) (v := .pointer (some ⟨p, 0, none⟩)) rfl (by kernel_rfl) (by kernel_rfl) (by kernel_rfl) (fun _ _ _ h => h) (Or.inl ⟨by kernel_rfl, fun _ _ => by kernel_rfl⟩) hS ?_
        refine wpAnyH_ready (rs := [48]) (by kernel_rfl) (by simp) (AllReadyH.cons rfl (fun Kc hK => ?_) AllReadyH.nil)
        go_simp
        refine (mergeNilL_any (some ⟨p, 0, none⟩)).mono ?_
        rintro e w19 ⟨rfl, hb⟩
        have HB19 : Hid (Below w4.heap.size w4 w19) := ⟨HB18.out.trans (hb.mono HB18.out.size)⟩
        refine hK.out _ _ (HSS.out _ HB19.out) (fun hS => ?_)
        clear hK hb
        refine wpAnyH_take (i := 49) (v := .bool true) rfl (by kernel_rfl) (by kernel_rfl) (by kernel_rfl) (fun _ _ _ h => h) (Or.inl ⟨by kernel_rfl, fun wx hx => by go_simp⟩) hS ?_
        refine wpAnyH_take (i := 50) (v := .bool true) rfl (by kernel_rfl) (by kernel_rfl) (by kernel_rfl) (fun _ _ _ h => h) (Or.inl ⟨by kernel_rfl, fun wx hx => by go_simp⟩) hS ?_
        refine wpAnyH_take (i := 51) (v := .bool true) rfl (by kernel_rfl) (by kernel_rfl) (by kernel_rfl) (fun _ _ _ h => h) (Or.inl ⟨by kernel_rfl, fun _ _ => by kernel_rfl⟩) hS ?_
        refine wpAnyH_take (i := 52) (v := .pointer none) rfl (by kernel_rfl) (by kernel_rfl) (by kernel_rfl) (fun _ _ _ h => h) (Or.inl ⟨by kernel_rfl, fun _ _ => by kernel_rfl⟩) hS ?_
        refine wpAnyH_take (i := 53) (v := .agg es) rfl (by kernel_rfl) (by kernel_rfl) (by kernel_rfl) (fun _ _ _ h => h) (Or.inl ⟨by kernel_rfl, fun wx hx => exec_load rfl g 0 (by kernel_rfl) hx.1⟩) hS ?_
        refine wpAnyH_ready (rs := [54]) (by kernel_rfl) (by simp) (AllReadyH.cons rfl (fun Kc hK => ?_) AllReadyH.nil)
        go_simp
        have z := addNil_any (w := w19) s
        rw [Hes.out] at z
        refine (z).mono ?_
        rintro e w20 ⟨rfl, hb⟩
        clear z
        have HB20 : Hid (Below w4.heap.size w4 w20) := ⟨HB19.out.trans (hb.mono HB19.out.size)⟩
        refine hK.out _ _ (HSS.out _ HB20.out) (fun hS => ?_)
        clear hK hb
        refine wpAnyH_take (i := 55) (v := .bool true) rfl (by kernel_rfl) (by kernel_rfl) (by kernel_rfl) (fun _ _ _ h => h) (Or.inl ⟨by kernel_rfl, fun wx hx => by go_simp⟩) hS ?_
        refine wpAnyH_take (i := 56) (v := .bool true) rfl (by kernel_rfl) (by kernel_rfl) (by kernel_rfl) (fun _ _ _ h => h) (Or.inl ⟨by kernel_rfl, fun wx hx => by go_simp⟩) hS ?_
        refine wpAnyH_take (i := 57) (v := .bool true) rfl (by kernel_rfl) (by kernel_rfl) (by kernel_rfl) (fun _ _ _ h => h) (Or.inl ⟨by kernel_rfl, fun _ _ => by kernel_rfl⟩) hS ?_
        refine wpAnyH_take (i := 58) (v := .pointer none) rfl (by kernel_rfl) (by kernel_rfl) (by kernel_rfl) (fun _ _ _ h => h) (Or.inl ⟨by kernel_rfl, fun _ _ => by kernel_rfl⟩) hS ?_
        refine wpAnyH_ready (rs := [59]) (by kernel_rfl) (by simp) (AllReadyH.cons rfl (fun Kc hK => ?_) AllReadyH.nil)
        go_simp
        refine (clearNil_any).mono ?_
        rintro e w21 ⟨rfl, hb⟩
        have HB21 : Hid (Below w4.heap.size w4 w21) := ⟨by rw [← hb]; exact HB20.out⟩
        refine hK.out _ _ (HSS.out _ HB21.out) (fun hS => ?_)
        clear hK hb
        refine wpAnyH_take (i := 60) (v := .bool true) rfl (by kernel_rfl) (by kernel_rfl) (by kernel_rfl) (fun _ _ _ h => h) (Or.inl ⟨by kernel_rfl, fun wx hx => by go_simp⟩) hS ?_
        refine wpAnyH_take (i := 61) (v := .bool true) rfl (by kernel_rfl) (by kernel_rfl) (by kernel_rfl) (fun _ _ _ h => h) (Or.inl ⟨by kernel_rfl, fun wx hx => by go_simp⟩) hS ?_
        refine wpAnyH_take (i := 62) (v := .bool true) rfl (by kernel_rfl) (by kernel_rfl) (by kernel_rfl) (fun _ _ _ h => h) (Or.inl ⟨by kernel_rfl, fun _ _ => by kernel_rfl⟩) hS ?_
        refine wpAnyH_take (i := 63) (v := .pointer none) rfl (by kernel_rfl) (by kernel_rfl) (by kernel_rfl) (fun _ _ _ h => h) (Or.inl ⟨by kernel_rfl, fun _ _ => by kernel_rfl⟩) hS ?_
        refine wpAnyH_take (i := 64) (v := .agg es) rfl (by kernel_rfl) (by kernel_rfl) (by kernel_rfl) (fun _ _ _ h => h) (Or.inl ⟨by kernel_rfl, fun wx hx => exec_load rfl g 0 (by kernel_rfl) hx.1⟩) hS ?_
        refine wpAnyH_ready (rs := [65]) (by kernel_rfl) (by simp) (AllReadyH.cons rfl (fun Kc hK => ?_) AllReadyH.nil)
        go_simp
        have z := hasNil_any (w := w21) s
        rw [Hes.out] at z
        refine (z).mono ?_
        rintro e w22 ⟨rfl, hb⟩
        clear z
        have HB22 : Hid (Below w4.heap.size w4 w22) := ⟨HB21.out.trans (hb.mono HB21.out.size)⟩
        refine hK.out _ _ (HSS.out _ HB22.out) (fun hS => ?_)
        clear hK hb
        refine wpAnyH_take (i := 66) (v := .bool true) rfl (by kernel_rfl) (by kernel_rfl) (by kernel_rfl) (fun _ _ _ h => h) (Or.inl ⟨by kernel_rfl, fun wx hx => by go_simp⟩) hS ?_
        refine wpAnyH_take (i := 67) (v := .bool true) rfl (by kernel_rfl) (by kernel_rfl) (by kernel_rfl) (fun _ _ _ h => h) (Or.inl ⟨by kernel_rfl, fun wx hx => by go_simp⟩) hS ?_
        refine wpAnyH_take (i := 68) (v := .bool true) rfl (by kernel_rfl) (by kernel_rfl) (by kernel_rfl) (fun _ _ _ h => h) (Or.inl ⟨by kernel_rfl, fun _ _ => by kernel_rfl⟩) hS ?_
        refine wpAnyH_take (i := 69) (v := .pointer none) rfl (by kernel_rfl) (by kernel_rfl) (by kernel_rfl) (fun _ _ _ h => h) (Or.inl ⟨by kernel_rfl, fun _ _ => by kernel_rfl⟩) hS ?_
        refine wpAnyH_take (i := 71) (v := .pointer none) rfl (by kernel_rfl) (by kernel_rfl) (by kernel_rfl) (fun _ _ _ h => h) (Or.inl ⟨by kernel_rfl, fun _ _ => by kernel_rfl⟩) hS ?_
        refine wpAnyH_ready (rs := [70]) (by kernel_rfl) (by simp) (AllReadyH.cons rfl (fun Kc hK => ?_) AllReadyH.nil)
        go_simp
        refine (onesNil_any).mono ?_
        rintro e w23 ⟨rfl, hb⟩
        have HB23 : Hid (Below w4.heap.size w4 w23) := ⟨by rw [← hb]; exact HB22.out⟩
        refine hK.out _ _ (HSS.out _ HB23.out) (fun hS => ?_)
        clear hK hb
        refine wpAnyH_ready (rs := [72]) (by kernel_rfl) (by simp) (AllReadyH.cons rfl (fun Kc hK => ?_) AllReadyH.nil)
        go_simp
        refine (sizeNil_any).mono ?_
        rintro e w24 ⟨rfl, hb⟩
        have HB24 : Hid (Below w4.heap.size w4 w24) := ⟨by rw [← hb]; exact HB23.out⟩
        refine hK.out _ _ (HSS.out _ HB24.out) (fun hS => ?_)
        clear hK hb
        refine wpAnyH_take (i := 73) (v := .int .i64 0) rfl (by kernel_rfl) (by kernel_rfl) (by kernel_rfl) (fun _ _ _ h => h) (Or.inl ⟨by kernel_rfl, fun _ _ => by kernel_rfl⟩) hS ?_
        refine wpAnyH_take (i := 74) (v := .bool true) rfl (by kernel_rfl) (by kernel_rfl) (by kernel_rfl) (fun _ _ _ h => h) (Or.inl ⟨by kernel_rfl, fun wx hx => by go_simp⟩) hS ?_
        refine wpAnyH_take (i := 75) (v := .bool true) rfl (by kernel_rfl) (by kernel_rfl) (by kernel_rfl) (fun _ _ _ h => h) (Or.inl ⟨by kernel_rfl, fun wx hx => by go_simp⟩) hS ?_
        refine wpAnyH_take (i := 76) (v := .bool true) rfl (by kernel_rfl) (by kernel_rfl) (by kernel_rfl) (fun _ _ _ h => h) (Or.inl ⟨by kernel_rfl, fun _ _ => by kernel_rfl⟩) hS ?_
        refine wpAnyH_take (i := 77) (v := .pointer none) rfl (by kernel_rfl) (by kernel_rfl) (by kernel_rfl) (fun _ _ _ h => h) (Or.inl ⟨by kernel_rfl, fun _ _ => by kernel_rfl⟩) hS ?_
        refine wpAnyH_ready (rs := [78]) (by kernel_rfl) (by simp) (AllReadyH.cons rfl (fun Kc hK => ?_) AllReadyH.nil)
        go_simp
        refine (forkNil_any).mono ?_
        rintro e w25 ⟨rfl, hb⟩
        have HB25 : Hid (Below w4.heap.size w4 w25) := ⟨by rw [← hb]; exact HB24.out⟩
        refine hK.out _ _ (HSS.out _ HB25.out) (fun hS => ?_)
        clear hK hb
        refine wpAnyH_take (i := 79) (v := .bool true) rfl (by kernel_rfl) (by kernel_rfl) (by kernel_rfl) (fun _ _ _ h => h) (Or.inl ⟨by kernel_rfl, fun wx hx => by go_simp⟩) hS ?_
        refine wpAnyH_take (i := 80) (v := .bool true) rfl (by kernel_rfl) (by kernel_rfl) (by kernel_rfl) (fun _ _ _ h => h) (Or.inl ⟨by kernel_rfl, fun wx hx => by go_simp⟩) hS ?_
        refine wpAnyH_take (i := 81) (v := .bool true) rfl (by kernel_rfl) (by kernel_rfl) (by kernel_rfl) (fun _ _ _ h => h) (Or.inl ⟨by kernel_rfl, fun _ _ => by kernel_rfl⟩) hS ?_
        refine wpAnyH_done (by kernel_rfl) ?_ _
        clear hS hS0
        go_simp
        go_wp2_with fail
        go_ret
        exact ⟨rfl, HBW.out.trans (((HGr.out.trans (HB4.out.mono HGr.out.size)).trans (HB25.out.mono (Nat.le_trans HGr.out.size HB4.out.size))).mono HBW.out.size)⟩
      · have hz1 : ¬ (k : Int) < (n : Int) := by omega
        go_upto_region 11 with fail
        refine wp_region_held_drew (S := (fun w' => w'.cell? ⟨r, 0, none⟩ = some (.int .i64 (size : Int)) ∧ w'.cell? ⟨r, 1, none⟩ = some (.int .i64 (ways : Int)))) (by kernel_rfl) hS4 (fun hS => ?_)
        refine wpAnyH_take (i := 0) (v := .pointer (some ⟨r, 0, none⟩)) rfl (by kernel_rfl) (by kernel_rfl) (by kernel_rfl) (fun _ _ _ h => h) (Or.inl ⟨by kernel_rfl, fun _ _ => by kernel_rfl⟩) hS ?_
        refine wpAnyH_take (i := 1) (v := .pointer (some ⟨r, 0, none⟩)) rfl (by kernel_rfl) (by kernel_rfl) (by kernel_rfl) (fun _ _ _ h => h) (Or.inl ⟨by kernel_rfl, fun wx hx => by go_simp⟩) hS ?_
        refine wpAnyH_take (i := 2) (v := .pointer (some ⟨r, 0, none⟩)) rfl (by kernel_rfl) (by kernel_rfl) (by kernel_rfl) (fun _ _ _ h => h) (Or.inl ⟨by kernel_rfl, fun wx hx => by go_simp⟩) hS ?_
        refine wpAnyH_take (i := 3) (v := .int .i64 (size : Int)) rfl (by kernel_rfl) (by kernel_rfl) (by kernel_rfl) (fun _ _ _ h => h) (Or.inl ⟨by kernel_rfl, fun wx hx => by have h1 := hx.1; have h2 := hx.2; go_simp⟩) hS ?_
        refine wpAnyH_take (i := 4) (v := .int .i64 ((size + 1 : Nat) : Int)) rfl (by kernel_rfl) (by kernel_rfl) (by kernel_rfl) (fun _ _ _ h => h) (Or.inl ⟨by kernel_rfl, fun wx hx => by have h1 : IntKind.i64.wrap ((size : Int) + 1) = (size : Int) + 1 := IntWalk.i64_in _ ⟨by omega, by omega⟩; go_simp; try omega⟩) hS ?_
        refine wpAnyH_take (i := 5) (v := .pointer (some ⟨r, 0, none⟩)) rfl (by kernel_rfl) (by kernel_rfl) (by kernel_rfl) (fun _ _ _ h => h) (Or.inl ⟨by kernel_rfl, fun _ _ => by kernel_rfl⟩) hS ?_
        refine wpAnyH_take (i := 6) (v := .pointer (some ⟨r, 0, none⟩)) rfl (by kernel_rfl) (by kernel_rfl) (by kernel_rfl) (fun _ _ _ h => h) (Or.inl ⟨by kernel_rfl, fun wx hx => by go_simp⟩) hS ?_
        refine wpAnyH_take (i := 7) (v := .pointer (some ⟨r, 1, none⟩)) rfl (by kernel_rfl) (by kernel_rfl) (by kernel_rfl) (fun _ _ _ h => h) (Or.inl ⟨by kernel_rfl, fun wx hx => by go_simp⟩) hS ?_
        refine wpAnyH_take (i := 8) (v := .int .i64 (ways : Int)) rfl (by kernel_rfl) (by kernel_rfl) (by kernel_rfl) (fun _ _ _ h => h) (Or.inl ⟨by kernel_rfl, fun wx hx => by have h1 := hx.1; have h2 := hx.2; go_simp⟩) hS ?_
        refine wpAnyH_ready (rs := [9]) (by kernel_rfl) (by simp) (AllReadyH.cons rfl (fun Kc hK => ?_) AllReadyH.nil)
        go_simp
        refine t5.mono ?_
        rintro e w4 ⟨pw, _, rfl, hF4, hb4⟩
        have HW4 := Hid.mk hF4
        have HB4 : Hid (Below wr.heap.size wr w4) := ⟨hbd.trans (by rw [Hcw.out]; exact hb4)⟩
        refine hK.out _ _ (HSB.out _ HB4.out) (fun hS => ?_)
        clear hK hF4 hb4
        refine wpAnyH_take (i := 10) (v := .tuple #[.pointer (some ⟨pw, 0, none⟩), .int .i64 0]) rfl (by kernel_rfl) (by kernel_rfl) (by kernel_rfl) (fun _ _ _ h => h) (Or.inl ⟨by kernel_rfl, fun _ _ => by kernel_rfl⟩) hS ?_
        refine wpAnyH_take (i := 11) (v := .pointer (some ⟨pw, 0, none⟩)) rfl (by kernel_rfl) (by kernel_rfl) (by kernel_rfl) (fun _ _ _ h => h) (Or.inl ⟨by kernel_rfl, fun wx hx => by go_simp⟩) hS ?_
        refine wpAnyH_take (i := 12) (v := .int .i64 0) rfl (by kernel_rfl) (by kernel_rfl) (by kernel_rfl) (fun _ _ _ h => h) (Or.inl ⟨by kernel_rfl, fun wx hx => by go_simp⟩) hS ?_
        refine wpAnyH_take (i := 13) (v := .pointer (some ⟨pw, 0, none⟩)) rfl (by kernel_rfl) (by kernel_rfl) (by kernel_rfl) (fun _ _ _ h => h) (Or.inl ⟨by kernel_rfl, fun _ _ => by kernel_rfl⟩) hS ?_
        refine wpAnyH_take (i := 14) (v := .int .i64 0) rfl (by kernel_rfl) (by kernel_rfl) (by kernel_rfl) (fun _ _ _ h => h) (Or.inl ⟨by kernel_rfl, fun _ _ => by kernel_rfl⟩) hS ?_
        refine wpAnyH_done (by kernel_rfl) ?_ _
        clear hS hS4
        go_simp
        have HX4 : Hid (Two w4 p c cap r size ways cs vv l) := ⟨HX.out.below HB4.out⟩
        have HF4 : Hid (Two w4 pf cf capf rg size ways cs' v' l') := ⟨HF.out.below HB4.out⟩
        have HAx := HA
        have HV4 : Hid (Vars w4) := ⟨vars_far (X := []) HVr.out (Chg.ofBelow HB4.out) (by simp)⟩
        obtain ⟨av, cv, ev, _⟩ := HX4.out.rf.on.shape
        subst ev
        obtain ⟨nv, Hnv⟩ : ∃ n, Hid (l.length = n) := ⟨_, ⟨rfl⟩⟩
        rw [Hnv.out] at HX4
        have HSS : Hid (∀ w', Below w4.heap.size w4 w' → (fun w' => (loadVar 22 ⟨g, 0, none⟩).run Tryd.prog w' = .ok (.agg es) w' ∧ w'.cell? ⟨r, 2, none⟩ = some (.slice av nv cv)) w') := ⟨fun w' hb => ⟨by
          rw [← Hes.out]
          exact run_loadS (At.row (((HA0.out.far (X := []) (Chg.ofBelow HGr.out) (by simp)).far (X := []) (Chg.ofBelow HB4.out) (by simp)).far (X := []) (Chg.ofBelow hb) (by simp))) Hs.out, (HX4.out.below hb).rf.c2⟩⟩
        have HB10 : Hid (Below w4.heap.size w4 w4.drew) := ⟨(Chg.refl [] w4).drew.below (Nat.le_refl _) (by simp)⟩
        have hS0 : (fun w' => (loadVar 22 ⟨g, 0, none⟩).run Tryd.prog w' = .ok (.agg es) w' ∧ w'.cell? ⟨r, 2, none⟩ = some (.slice av nv cv)) w4.drew := HSS.out _ HB10.out
        go_upto_region 12 with fail
        refine wp_region_held_drew (S := (fun w' => (loadVar 22 ⟨g, 0, none⟩).run Tryd.prog w' = .ok (.agg es) w' ∧ w'.cell? ⟨r, 2, none⟩ = some (.slice av nv cv))) (by kernel_rfl) hS0 (fun hS => ?_)
        refine wpAnyH_ready (rs := [0]) (by kernel_rfl) (by simp) (AllReadyH.cons rfl (fun Kc hK => ?_) AllReadyH.nil)
        go_simp
        refine (live_any (vars_far (X := []) HV4.out (Chg.ofBelow HB10.out) (by simp))).mono ?_
        rintro e w11 ⟨rfl, hb⟩
        have HB11 : Hid (Below w4.heap.size w4 w11) := ⟨HB10.out.trans (hb.mono HB10.out.size)⟩
        refine hK.out _ _ (HSS.out _ HB11.out) (fun hS => ?_)
        clear hK hb
        refine wpAnyH_take (i := 1) (v := .bool true) rfl (by kernel_rfl) (by kernel_rfl) (by kernel_rfl) (fun _ _ _ h => h) (Or.inl ⟨by kernel_rfl, fun _ _ => by kernel_rfl⟩) hS ?_
        refine wpAnyH_take (i := 2) (v := .pointer (some ⟨p, 0, none⟩)) rfl (by kernel_rfl) (by kernel_rfl) (by kernel_rfl) (fun _ _ _ h => h) (Or.inl ⟨by kernel_rfl, fun _ _ => by kernel_rfl⟩) hS ?_
        refine wpAnyH_take (i := 3) (v := .agg es) rfl (by kernel_rfl) (by kernel_rfl) (by kernel_rfl) (fun _ _ _ h => h) (Or.inl ⟨by kernel_rfl, fun wx hx => exec_load rfl g 0 (by kernel_rfl) hx.1⟩) hS ?_
        refine wpAnyH_take (i := 5) (v := .pointer (some ⟨r, 0, none⟩)) rfl (by kernel_rfl) (by kernel_rfl) (by kernel_rfl) (fun _ _ _ h => h) (Or.inl ⟨by kernel_rfl, fun _ _ => by kernel_rfl⟩) hS ?_
        refine wpAnyH_take (i := 6) (v := .agg es) rfl (by kernel_rfl) (by kernel_rfl) (by kernel_rfl) (fun _ _ _ h => h) (Or.inl ⟨by kernel_rfl, fun wx hx => exec_load rfl g 0 (by kernel_rfl) hx.1⟩) hS ?_
        refine wpAnyH_ready (rs := [4]) (by kernel_rfl) (by simp) (AllReadyH.cons rfl (fun Kc hK => ?_) AllReadyH.nil)
        go_simp
        have z := has_two (HX4.out.below HB11.out) HAx.out s Hs.out
        rw [Hes.out] at z
        refine (z).mono ?_
        rintro e w12 ⟨rfl, hb⟩
        clear z
        have HB12 : Hid (Below w4.heap.size w4 w12) := ⟨HB11.out.trans (hb.mono HB11.out.size)⟩
        refine hK.out _ _ (HSS.out _ HB12.out) (fun hS => ?_)
        clear hK hb
        refine wpAnyH_ready (rs := [7]) (by kernel_rfl) (by simp) (AllReadyH.cons rfl (fun Kc hK => ?_) AllReadyH.nil)
        go_simp
        have z := rhas_two (HX4.out.below HB12.out) HAx.out s Hs.out
        rw [Hes.out] at z
        refine (z).mono ?_
        rintro e w13 ⟨rfl, hb⟩
        clear z
        have HB13 : Hid (Below w4.heap.size w4 w13) := ⟨HB12.out.trans (hb.mono HB12.out.size)⟩
        refine hK.out _ _ (HSS.out _ HB13.out) (fun hS => ?_)
        clear hK hb
        refine wpAnyH_take (i := 8) (v := .bool true) rfl (by kernel_rfl) (by kernel_rfl) (by kernel_rfl) (fun _ _ _ h => h) (Or.inl ⟨by kernel_rfl, fun wx hx => by go_simp⟩) hS ?_
        refine wpAnyH_take (i := 9) (v := .bool true) rfl (by kernel_rfl) (by kernel_rfl) (by kernel_rfl) (fun _ _ _ h => h) (Or.inl ⟨by kernel_rfl, fun wx hx => by go_simp⟩) hS ?_
        refine wpAnyH_take (i := 10) (v := .bool true) rfl (by kernel_rfl) (by kernel_rfl) (by kernel_rfl) (fun _ _ _ h => h) (Or.inl ⟨by kernel_rfl, fun _ _ => by kernel_rfl⟩) hS ?_
        refine wpAnyH_take (i := 11) (v := .pointer (some ⟨p, 0, none⟩)) rfl (by kernel_rfl) (by kernel_rfl) (by kernel_rfl) (fun _ _ _ h => h) (Or.inl ⟨by kernel_rfl, fun _ _ => by kernel_rfl⟩) hS ?_
        refine wpAnyH_take (i := 13) (v := .pointer (some ⟨r, 0, none⟩)) rfl (by kernel_rfl) (by kernel_rfl) (by kernel_rfl) (fun _ _ _ h => h) (Or.inl ⟨by kernel_rfl, fun _ _ => by kernel_rfl⟩) hS ?_
        refine wpAnyH_take (i := 14) (v := .pointer (some ⟨r, 0, none⟩)) rfl (by kernel_rfl) (by kernel_rfl) (by kernel_rfl) (fun _ _ _ h => h) (Or.inl ⟨by kernel_rfl, fun wx hx => by go_simp⟩) hS ?_
        refine wpAnyH_take (i := 15) (v := .pointer (some ⟨r, 2, none⟩)) rfl (by kernel_rfl) (by kernel_rfl) (by kernel_rfl) (fun _ _ _ h => h) (Or.inl ⟨by kernel_rfl, fun wx hx => by go_simp⟩) hS ?_
        refine wpAnyH_take (i := 16) (v := .slice av nv cv) rfl (by kernel_rfl) (by kernel_rfl) (by kernel_rfl) (fun _ _ _ h => h) (Or.inl ⟨by kernel_rfl, fun wx hx => by have h1 := hx.2; go_simp⟩) hS ?_
        refine wpAnyH_take (i := 17) (v := .int .i64 (nv : Int)) rfl (by kernel_rfl) (by kernel_rfl) (by kernel_rfl) (fun _ _ _ h => h) (Or.inl ⟨by kernel_rfl, fun wx hx => by go_simp⟩) hS ?_
        refine wpAnyH_ready (rs := [12]) (by kernel_rfl) (by simp) (AllReadyH.cons rfl (fun Kc hK => ?_) AllReadyH.nil)
        go_simp
        have z := ones_two (HX4.out.below HB13.out) HAx.out (vars_far (X := []) HV4.out (Chg.ofBelow HB13.out) (by simp))
        rw [Hnv.out] at z
        refine (z).mono ?_
        rintro e w14 ⟨rfl, hb⟩
        clear z
        have HB14 : Hid (Below w4.heap.size w4 w14) := ⟨HB13.out.trans (hb.mono HB13.out.size)⟩
        refine hK.out _ _ (HSS.out _ HB14.out) (fun hS => ?_)
        clear hK hb
        refine wpAnyH_take (i := 18) (v := .bool true) rfl (by kernel_rfl) (by kernel_rfl) (by kernel_rfl) (fun _ _ _ h => h) (Or.inl ⟨by kernel_rfl, fun wx hx => by go_simp⟩) hS ?_
        refine wpAnyH_take (i := 19) (v := .bool true) rfl (by kernel_rfl) (by kernel_rfl) (by kernel_rfl) (fun _ _ _ h => h) (Or.inl ⟨by kernel_rfl, fun wx hx => by go_simp⟩) hS ?_
        refine wpAnyH_take (i := 20) (v := .bool true) rfl (by kernel_rfl) (by kernel_rfl) (by kernel_rfl) (fun _ _ _ h => h) (Or.inl ⟨by kernel_rfl, fun _ _ => by kernel_rfl⟩) hS ?_
        refine wpAnyH_take (i := 21) (v := .pointer (some ⟨pf, 0, none⟩)) rfl (by kernel_rfl) (by kernel_rfl) (by kernel_rfl) (fun _ _ _ h => h) (Or.inl ⟨by kernel_rfl, fun _ _ => by kernel_rfl⟩) hS ?_
        refine wpAnyH_take (i := 22) (v := .agg es) rfl (by kernel_rfl) (by kernel_rfl) (by kernel_rfl) (fun _ _ _ h => h) (Or.inl ⟨by kernel_rfl, fun wx hx => exec_load rfl g 0 (by kernel_rfl) hx.1⟩) hS ?_
        refine wpAnyH_take (i := 24) (v := .pointer (some ⟨rg, 0, none⟩)) rfl (by kernel_rfl) (by kernel_rfl) (by kernel_rfl) (fun _ _ _ h => h) (Or.inl ⟨by kernel_rfl, fun _ _ => by kernel_rfl⟩) hS ?_
        refine wpAnyH_take (i := 25) (v := .agg es) rfl (by kernel_rfl) (by kernel_rfl) (by kernel_rfl) (fun _ _ _ h => h) (Or.inl ⟨by kernel_rfl, fun wx hx => exec_load rfl g 0 (by kernel_rfl) hx.1⟩) hS ?_
        refine wpAnyH_ready (rs := [23]) (by kernel_rfl) (by simp) (AllReadyH.cons rfl (fun Kc hK => ?_) AllReadyH.nil)
        go_simp
        have z := has_two (HF4.out.below HB14.out) HAf.out s Hs.out
        rw [Hes.out] at z
        refine (z).mono ?_
        rintro e w15 ⟨rfl, hb⟩
        clear z
        have HB15 : Hid (Below w4.heap.size w4 w15) := ⟨HB14.out.trans (hb.mono HB14.out.size)⟩
        refine hK.out _ _ (HSS.out _ HB15.out) (fun hS => ?_)
        clear hK hb
        refine wpAnyH_ready (rs := [26]) (by kernel_rfl) (by simp) (AllReadyH.cons rfl (fun Kc hK => ?_) AllReadyH.nil)
        go_simp
        have z := rhas_two (HF4.out.below HB15.out) HAf.out s Hs.out
        rw [Hes.out] at z
        refine (z).mono ?_
        rintro e w16 ⟨rfl, hb⟩
        clear z
        have HB16 : Hid (Below w4.heap.size w4 w16) := ⟨HB15.out.trans (hb.mono HB15.out.size)⟩
        refine hK.out _ _ (HSS.out _ HB16.out) (fun hS => ?_)
        clear hK hb
        refine wpAnyH_take (i := 27) (v := .bool true) rfl (by kernel_rfl) (by kernel_rfl) (by kernel_rfl) (fun _ _ _ h => h) (Or.inl ⟨by kernel_rfl, fun wx hx => by go_simp⟩) hS ?_
        refine wpAnyH_take (i := 28) (v := .bool true) rfl (by kernel_rfl) (by kernel_rfl) (by kernel_rfl) (fun _ _ _ h => h) (Or.inl ⟨by kernel_rfl, fun wx hx => by go_simp⟩) hS ?_
        refine wpAnyH_take (i := 29) (v := .bool true) rfl (by kernel_rfl) (by kernel_rfl) (by kernel_rfl) (fun _ _ _ h => h) (Or.inl ⟨by kernel_rfl, fun _ _ => by kernel_rfl⟩) hS ?_
        refine wpAnyH_take (i := 30) (v := .int .i64 0) rfl (by kernel_rfl) (by kernel_rfl) (by kernel_rfl) (fun _ _ _ h => h) (Or.inl ⟨by kernel_rfl, fun _ _ => by kernel_rfl⟩) hS ?_
        refine wpAnyH_take (i := 31) (v := .bool true) rfl (by kernel_rfl) (by kernel_rfl) (by kernel_rfl) (fun _ _ _ h => h) (Or.inl ⟨by kernel_rfl, fun wx hx => by go_simp⟩) hS ?_
        refine wpAnyH_take (i := 32) (v := .bool true) rfl (by kernel_rfl) (by kernel_rfl) (by kernel_rfl) (fun _ _ _ h => h) (Or.inl ⟨by kernel_rfl, fun wx hx => by go_simp⟩) hS ?_
        refine wpAnyH_take (i := 33) (v := .bool true) rfl (by kernel_rfl) (by kernel_rfl) (by kernel_rfl) (fun _ _ _ h => h) (Or.inl ⟨by kernel_rfl, fun _ _ => by kernel_rfl⟩) hS ?_
        refine wpAnyH_take (i := 34) (v := .pointer (some ⟨p, 0, none⟩)) rfl (by kernel_rfl) (by kernel_rfl) (by kernel_rfl) (fun _ _ _ h => h) (Or.inl ⟨by kernel_rfl, fun _ _ => by kernel_rfl⟩) hS ?_
        refine wpAnyH_take (i := 35) (v := .pointer (some ⟨pw, 0, none⟩)) rfl (by kernel_rfl) (by kernel_rfl) (by kernel_rfl) (fun _ _ _ h => h) (Or.inl ⟨by kernel_rfl, fun _ _ => by kernel_rfl⟩) hS ?_
        refine wpAnyH_ready (rs := [36]) (by kernel_rfl) (by simp) (AllReadyH.cons rfl (fun Kc hK => ?_) AllReadyH.nil)
        go_simp
        refine (mergeNo_any (by omega) (HX4.out.below HB16.out).fl (HW4.out.far (X := []) (Chg.ofBelow HB16.out) (by simp) (by simp))).mono ?_
        rintro e w17 ⟨rfl, hb⟩
        have HB17 : Hid (Below w4.heap.size w4 w17) := ⟨HB16.out.trans (hb.mono HB16.out.size)⟩
        refine hK.out _ _ (HSS.out _ HB17.out) (fun hS => ?_)
        clear hK hb
        refine wpAnyH_take (i := 37) (v := .bool true) rfl (by kernel_rfl) (by kernel_rfl) (by kernel_rfl) (fun _ _ _ h => h) (Or.inl ⟨by kernel_rfl, fun wx hx => by go_simp⟩) hS ?_
        refine wpAnyH_take (i := 38) (v := .bool true) rfl (by kernel_rfl) (by kernel_rfl) (by kernel_rfl) (fun _ _ _ h => h) (Or.inl ⟨by kernel_rfl, fun wx hx => by go_simp⟩) hS ?_
        refine wpAnyH_take (i := 39) (v := .bool true) rfl (by kernel_rfl) (by kernel_rfl) (by kernel_rfl) (fun _ _ _ h => h) (Or.inl ⟨by kernel_rfl, fun _ _ => by kernel_rfl⟩) hS ?_
        refine wpAnyH_take (i := 40) (v := .pointer (some ⟨p, 0, none⟩)) rfl (by kernel_rfl) (by kernel_rfl) (by kernel_rfl) (fun _ _ _ h => h) (Or.inl ⟨by kernel_rfl, fun _ _ => by kernel_rfl⟩) hS ?_
        refine wpAnyH_take (i := 41) (v := .pointer none) rfl (by kernel_rfl) (by kernel_rfl) (by kernel_rfl) (fun _ _ _ h => h) (Or.inl ⟨by kernel_rfl, fun _ _ => by kernel_rfl⟩) hS ?_
        refine wpAnyH_ready (rs := [42]) (by kernel_rfl) (by simp) (AllReadyH.cons rfl (fun Kc hK => ?_) AllReadyH.nil)
        go_simp
        refine (mergeNilR_any p).mono ?_
        rintro e w18 ⟨rfl, hb⟩
        have HB18 : Hid (Below w4.heap.size w4 w18) := ⟨HB17.out.trans (hb.mono HB17.out.size)⟩
        refine hK.out _ _ (HSS.out _ HB18.out) (fun hS => ?_)
        clear hK hb
        refine wpAnyH_take (i := 43) (v := .bool true) rfl (by kernel_rfl) (by kernel_rfl) (by kernel_rfl) (fun _ _ _ h => h) (Or.inl ⟨by kernel_rfl, fun wx hx => by go_simp⟩) hS ?_
        refine wpAnyH_take (i := 44) (v := .bool true) rfl (by kernel_rfl) (by kernel_rfl) (by kernel_rfl) (fun _ _ _ h => h) (Or.inl ⟨by kernel_rfl, fun wx hx => by go_simp⟩) hS ?_
        refine wpAnyH_take (i := 45) (v := .bool true) rfl (by kernel_rfl) (by kernel_rfl) (by kernel_rfl) (fun _ _ _ h => h) (Or.inl ⟨by kernel_rfl, fun _ _ => by kernel_rfl⟩) hS ?_
        refine wpAnyH_take (i := 46) (v := .pointer none) rfl (by kernel_rfl) (by kernel_rfl) (by kernel_rfl) (fun _ _ _ h => h) (Or.inl ⟨by kernel_rfl, fun _ _ => by kernel_rfl⟩) hS ?_
        refine wpAnyH_take (i := 47) (v := .pointer (some ⟨p, 0, none⟩)) rfl (by kernel_rfl) (by kernel_rfl) (by kernel_rfl) (fun _ _ _ h => h) (Or.inl ⟨by kernel_rfl, fun _ _ => by kernel_rfl⟩) hS ?_
        refine wpAnyH_ready (rs := [48]) (by kernel_rfl) (by simp) (AllReadyH.cons rfl (fun Kc hK => ?_) AllReadyH.nil)
        go_simp
        refine (mergeNilL_any (some ⟨p, 0, none⟩)).mono ?_
        rintro e w19 ⟨rfl, hb⟩
        have HB19 : Hid (Below w4.heap.size w4 w19) := ⟨HB18.out.trans (hb.mono HB18.out.size)⟩
        refine hK.out _ _ (HSS.out _ HB19.out) (fun hS => ?_)
        clear hK hb
        refine wpAnyH_take (i := 49) (v := .bool true) rfl (by kernel_rfl) (by kernel_rfl) (by kernel_rfl) (fun _ _ _ h => h) (Or.inl ⟨by kernel_rfl, fun wx hx => by go_simp⟩) hS ?_
        refine wpAnyH_take (i := 50) (v := .bool true) rfl (by kernel_rfl) (by kernel_rfl) (by kernel_rfl) (fun _ _ _ h => h) (Or.inl ⟨by kernel_rfl, fun wx hx => by go_simp⟩) hS ?_
        refine wpAnyH_take (i := 51) (v := .bool true) rfl (by kernel_rfl) (by kernel_rfl) (by kernel_rfl) (fun _ _ _ h => h) (Or.inl ⟨by kernel_rfl, fun _ _ => by kernel_rfl⟩) hS ?_
        refine wpAnyH_take (i := 52) (v := .pointer none) rfl (by kernel_rfl) (by kernel_rfl) (by kernel_rfl) (fun _ _ _ h => h) (Or.inl ⟨by kernel_rfl, fun _ _ => by kernel_rfl⟩) hS ?_
        refine wpAnyH_take (i := 53) (v := .agg es) rfl (by kernel_rfl) (by kernel_rfl) (by kernel_rfl) (fun _ _ _ h => h) (Or.inl ⟨by kernel_rfl, fun wx hx => exec_load rfl g 0 (by kernel_rfl) hx.1⟩) hS ?_
        refine wpAnyH_ready (rs := [54]) (by kernel_rfl) (by simp) (AllReadyH.cons rfl (fun Kc hK => ?_) AllReadyH.nil)
        go_simp
        have z := addNil_any (w := w19) s
        rw [Hes.out] at z
        refine (z).mono ?_
        rintro e w20 ⟨rfl, hb⟩
        clear z
        have HB20 : Hid (Below w4.heap.size w4 w20) := ⟨HB19.out.trans (hb.mono HB19.out.size)⟩
        refine hK.out _ _ (HSS.out _ HB20.out) (fun hS => ?_)
        clear hK hb
        refine wpAnyH_take (i := 55) (v := .bool true) rfl (by kernel_rfl) (by kernel_rfl) (by kernel_rfl) (fun _ _ _ h => h) (Or.inl ⟨by kernel_rfl, fun wx hx => by go_simp⟩) hS ?_
        refine wpAnyH_take (i := 56) (v := .bool true) rfl (by kernel_rfl) (by kernel_rfl) (by kernel_rfl) (fun _ _ _ h => h) (Or.inl ⟨by kernel_rfl, fun wx hx => by go_simp⟩) hS ?_
        refine wpAnyH_take (i := 57) (v := .bool true) rfl (by kernel_rfl) (by kernel_rfl) (by kernel_rfl) (fun _ _ _ h => h) (Or.inl ⟨by kernel_rfl, fun _ _ => by kernel_rfl⟩) hS ?_
        refine wpAnyH_take (i := 58) (v := .pointer none) rfl (by kernel_rfl) (by kernel_rfl) (by kernel_rfl) (fun _ _ _ h => h) (Or.inl ⟨by kernel_rfl, fun _ _ => by kernel_rfl⟩) hS ?_
        refine wpAnyH_ready (rs := [59]) (by kernel_rfl) (by simp) (AllReadyH.cons rfl (fun Kc hK => ?_) AllReadyH.nil)
        go_simp
        refine (clearNil_any).mono ?_
        rintro e w21 ⟨rfl, hb⟩
        have HB21 : Hid (Below w4.heap.size w4 w21) := ⟨by rw [← hb]; exact HB20.out⟩
        refine hK.out _ _ (HSS.out _ HB21.out) (fun hS => ?_)
        clear hK hb
        refine wpAnyH_take (i := 60) (v := .bool true) rfl (by kernel_rfl) (by kernel_rfl) (by kernel_rfl) (fun _ _ _ h => h) (Or.inl ⟨by kernel_rfl, fun wx hx => by go_simp⟩) hS ?_
        refine wpAnyH_take (i := 61) (v := .bool true) rfl (by kernel_rfl) (by kernel_rfl) (by kernel_rfl) (fun _ _ _ h => h) (Or.inl ⟨by kernel_rfl, fun wx hx => by go_simp⟩) hS ?_
        refine wpAnyH_take (i := 62) (v := .bool true) rfl (by kernel_rfl) (by kernel_rfl) (by kernel_rfl) (fun _ _ _ h => h) (Or.inl ⟨by kernel_rfl, fun _ _ => by kernel_rfl⟩) hS ?_
        refine wpAnyH_take (i := 63) (v := .pointer none) rfl (by kernel_rfl) (by kernel_rfl) (by kernel_rfl) (fun _ _ _ h => h) (Or.inl ⟨by kernel_rfl, fun _ _ => by kernel_rfl⟩) hS ?_
        refine wpAnyH_take (i := 64) (v := .agg es) rfl (by kernel_rfl) (by kernel_rfl) (by kernel_rfl) (fun _ _ _ h => h) (Or.inl ⟨by kernel_rfl, fun wx hx => exec_load rfl g 0 (by kernel_rfl) hx.1⟩) hS ?_
        refine wpAnyH_ready (rs := [65]) (by kernel_rfl) (by simp) (AllReadyH.cons rfl (fun Kc hK => ?_) AllReadyH.nil)
        go_simp
        have z := hasNil_any (w := w21) s
        rw [Hes.out] at z
        refine (z).mono ?_
        rintro e w22 ⟨rfl, hb⟩
        clear z
        have HB22 : Hid (Below w4.heap.size w4 w22) := ⟨HB21.out.trans (hb.mono HB21.out.size)⟩
        refine hK.out _ _ (HSS.out _ HB22.out) (fun hS => ?_)
        clear hK hb
        refine wpAnyH_take (i := 66) (v := .bool true) rfl (by kernel_rfl) (by kernel_rfl) (by kernel_rfl) (fun _ _ _ h => h) (Or.inl ⟨by kernel_rfl, fun wx hx => by go_simp⟩) hS ?_
        refine wpAnyH_take (i := 67) (v := .bool true) rfl (by kernel_rfl) (by kernel_rfl) (by kernel_rfl) (fun _ _ _ h => h) (Or.inl ⟨by kernel_rfl, fun wx hx => by go_simp⟩) hS ?_
        refine wpAnyH_take (i := 68) (v := .bool true) rfl (by kernel_rfl) (by kernel_rfl) (by kernel_rfl) (fun _ _ _ h => h) (Or.inl ⟨by kernel_rfl, fun _ _ => by kernel_rfl⟩) hS ?_
        refine wpAnyH_take (i := 69) (v := .pointer none) rfl (by kernel_rfl) (by kernel_rfl) (by kernel_rfl) (fun _ _ _ h => h) (Or.inl ⟨by kernel_rfl, fun _ _ => by kernel_rfl⟩) hS ?_
        refine wpAnyH_take (i := 71) (v := .pointer none) rfl (by kernel_rfl) (by kernel_rfl) (by kernel_rfl) (fun _ _ _ h => h) (Or.inl ⟨by kernel_rfl, fun _ _ => by kernel_rfl⟩) hS ?_
        refine wpAnyH_ready (rs := [70]) (by kernel_rfl) (by simp) (AllReadyH.cons rfl (fun Kc hK => ?_) AllReadyH.nil)
        go_simp
        refine (onesNil_any).mono ?_
        rintro e w23 ⟨rfl, hb⟩
        have HB23 : Hid (Below w4.heap.size w4 w23) := ⟨by rw [← hb]; exact HB22.out⟩
        refine hK.out _ _ (HSS.out _ HB23.out) (fun hS => ?_)
        clear hK hb
        refine wpAnyH_ready (rs := [72]) (by kernel_rfl) (by simp) (AllReadyH.cons rfl (fun Kc hK => ?_) AllReadyH.nil)
        go_simp
        refine (sizeNil_any).mono ?_
        rintro e w24 ⟨rfl, hb⟩
        have HB24 : Hid (Below w4.heap.size w4 w24) := ⟨by rw [← hb]; exact HB23.out⟩
        refine hK.out _ _ (HSS.out _ HB24.out) (fun hS => ?_)
        clear hK hb
        refine wpAnyH_take (i := 73) (v := .int .i64 0) rfl (by kernel_rfl) (by kernel_rfl) (by kernel_rfl) (fun _ _ _ h => h) (Or.inl ⟨by kernel_rfl, fun _ _ => by kernel_rfl⟩) hS ?_
        refine wpAnyH_take (i := 74) (v := .bool true) rfl (by kernel_rfl) (by kernel_rfl) (by kernel_rfl) (fun _ _ _ h => h) (Or.inl ⟨by kernel_rfl, fun wx hx => by go_simp⟩) hS ?_
        refine wpAnyH_take (i := 75) (v := .bool true) rfl (by kernel_rfl) (by kernel_rfl) (by kernel_rfl) (fun _ _ _ h => h) (Or.inl ⟨by kernel_rfl, fun wx hx => by go_simp⟩) hS ?_
        refine wpAnyH_take (i := 76) (v := .bool true) rfl (by kernel_rfl) (by kernel_rfl) (by kernel_rfl) (fun _ _ _ h => h) (Or.inl ⟨by kernel_rfl, fun _ _ => by kernel_rfl⟩) hS ?_
        refine wpAnyH_take (i := 77) (v := .pointer none) rfl (by kernel_rfl) (by kernel_rfl) (by kernel_rfl) (fun _ _ _ h => h) (Or.inl ⟨by kernel_rfl, fun _ _ => by kernel_rfl⟩) hS ?_
        refine wpAnyH_ready (rs := [78]) (by kernel_rfl) (by simp) (AllReadyH.cons rfl (fun Kc hK => ?_) AllReadyH.nil)
        go_simp
        refine (forkNil_any).mono ?_
        rintro e w25 ⟨rfl, hb⟩
        have HB25 : Hid (Below w4.heap.size w4 w25) := ⟨by rw [← hb]; exact HB24.out⟩
        refine hK.out _ _ (HSS.out _ HB25.out) (fun hS => ?_)
        clear hK hb
        refine wpAnyH_take (i := 79) (v := .bool true) rfl (by kernel_rfl) (by kernel_rfl) (by kernel_rfl) (fun _ _ _ h => h) (Or.inl ⟨by kernel_rfl, fun wx hx => by go_simp⟩) hS ?_
        refine wpAnyH_take (i := 80) (v := .bool true) rfl (by kernel_rfl) (by kernel_rfl) (by kernel_rfl) (fun _ _ _ h => h) (Or.inl ⟨by kernel_rfl, fun wx hx => by go_simp⟩) hS ?_
        refine wpAnyH_take (i := 81) (v := .bool true) rfl (by kernel_rfl) (by kernel_rfl) (by kernel_rfl) (fun _ _ _ h => h) (Or.inl ⟨by kernel_rfl, fun _ _ => by kernel_rfl⟩) hS ?_
        refine wpAnyH_done (by kernel_rfl) ?_ _
        clear hS hS0
        go_simp
        go_wp2_with fail
        go_ret
        exact ⟨rfl, HBW.out.trans (((HGr.out.trans (HB4.out.mono HGr.out.size)).trans (HB25.out.mono (Nat.le_trans HGr.out.size HB4.out.size))).mono HBW.out.size)⟩
end Go.Proofs.YtiloclekhddkfabDoor
