/- A deed on both summaries; a script of deeds. -/
import Derived.Test.YtiloclekhddkfabDoorA3
namespace Go.Proofs.YtiloclekhddkfabDoor
open Go.RowKit
/-- What is held behind every operation may grow on the way. -/
theorem wpAnyH_more {P : Program} {md : Region.Mode} {ops : Array Oper} {Q : Exit → Act → World → Prop} {S S' : World → Prop} (hs : ∀ w, S' w → S w) : ∀ (fuel : Nat) (listed : Array Bool) (a : Act) (w : World), wpAnyH P md ops Q S' fuel listed a w → wpAnyH P md ops Q S fuel listed a w
  | 0, _, _, _, h => h
  | fuel + 1, _, _, _, h => ⟨h.1, fun i hi => wpOp_mono (fun a' w' h' => ⟨hs _ h'.1, wpAnyH_more hs fuel _ a' w' h'.2⟩) (h.2 i hi)⟩
theorem do_any {w : World} {p c cap r size ways : Nat} {cs : List Nat} {v : Value} {l : List Int} (x : Dd) (hx : DdV w x) (h : Two w p c cap r size ways cs v l) (ha : Agree size cs l) (hV : Vars w) : Calls Tryd.prog 19 #[.pointer (some ⟨p, 0, none⟩), .pointer (some ⟨r, 0, none⟩), .agg (dc x).toArray] w fun e w' => e = .returned (.bool true) ∧ Done w' p c cap r size ways x.d l ∧ Chg [c, r] w w' := by
  by_cases h0 : x.d = 0
  · exact do_add x hx h ha hV h0
  by_cases h1 : x.d = 1
  · exact do_has x hx h ha hV h1
  by_cases h2 : x.d = 2
  · exact do_clear x hx h ha hV h2
  exact do_merge x hx h ha hV ⟨h0, h1, h2⟩
def dd0 : Dd := ⟨0, [], .slice none 0 0, []⟩
/-- A row of deeds that came in. -/
structure Deeds (w : World) (v : Value) (L : List Dd) : Prop where
  rd : RdE dc 34 dd0 w v L
  ok : ∀ x ∈ L, DdV w x
theorem Deeds.keep {w w' : World} {v : Value} {L : List Dd} (h : Deeds w v L) (hc : Chg [] w w') : Deeds w' v L := ⟨h.rd.far hc (by simp), fun x hx => (h.ok x hx).keep hc⟩
theorem infoD : (Tryd.prog.info? 47).map (·.size) = some 34 := by kernel_rfl
theorem run_loadD {w : World} {b off : Nat} {x : Dd} (hc : At w b off (dc x)) (hs : Sum32 x.s) : (loadVar 47 ⟨b, off, none⟩).run Tryd.prog w = .ok (.agg (dc x).toArray) w :=
  run_loadA 47 w b off (dc x) _ hc Tryd.underlying47 rfl (by rw [dc_len hs]; exact infoD)
theorem Deeds.at {w : World} {v : Value} {L : List Dd} (h : Deeds w v L) {i : Nat} (hi : i < L.length) : ∃ b off cap, v = .slice (some ⟨b, off, none⟩) L.length cap ∧ At w b (off + i * 34) (dc (L.getD i dd0)) := by
  obtain ⟨b, off, cap, e, hc⟩ := h.rd.at' i hi
  refine ⟨b, off, cap, e, fun j v hv => ?_⟩
  have hl := (h.rd.each _ (getD_mem' (d := dd0) hi)).1
  have hj : j < 34 := by
    rcases Nat.lt_or_ge j 34 with q | q
    · exact q
    · rw [List.getElem?_eq_none (by omega)] at hv; cases hv
  exact (hc j hj).trans hv
set_option maxHeartbeats 8000000 in
set_option maxRecDepth 100000 in
theorem play_any {w : World} (a b : Nat) (ha : a < 65536) (hb : b < 256) (v : Value) (L : List Dd) (hL : Deeds w v L) (hV : Vars w) :
    Calls Tryd.prog 13 #[.int .u16 (a : Int), .int .u8 (b : Int), v] w fun e w' => ∃ p c cap r, (w.heap.size ≤ p ∧ w.heap.size ≤ c ∧ w.heap.size ≤ r) ∧ e = .returned (.tuple #[.pointer (some ⟨p, 0, none⟩), .pointer (some ⟨r, 0, none⟩), .bool true]) ∧ (∃ cs v l, Two w' p c cap r (1 + a % 300) (1 + b % 8) cs v l ∧ Agree (1 + a % 300) cs l) ∧ Below w.heap.size w w' := by
  have HL := Hid.mk hL
  have HV := Hid.mk hV
  have t0 := sizes_any (w := w) a b ha hb
  have hft : ft ((1 + a % 300 : Nat) : Int) ((1 + b % 8 : Nat) : Int) = true := decide_eq_true (by omega)
  have hsz : 1 + a % 300 ≤ 300 := by omega
  generalize 1 + a % 300 = size at t0 hft hsz ⊢
  generalize 1 + b % 8 = ways at t0 hft ⊢
  have t1 := new_ok (w := w) size ways hft
  obtain ⟨c, Hc⟩ : ∃ c, Hid (w.heap.size = c) := ⟨_, ⟨rfl⟩⟩
  rw [Hc.out] at t1
  have Hz : Hid (0 < w.heap.size) := ⟨vars_pos hV⟩
  obtain ⟨aD, cD, e, hcD, hcM, _⟩ := hL.rd.shape
  obtain ⟨n, Hn⟩ : ∃ n, Hid (L.length = n) := ⟨_, ⟨rfl⟩⟩
  rw [Hn.out] at e hcD
  subst e
  have hnb : n ≤ 9223372036854775807 := by unfold maxLen at hcM; omega
  clear hL hV hcD hcM
  go_enter Tryd.func13, Tryd.ntmps13
  go_upto_region 6 with (first
    | (go_at_call 20; refine t0.mono ?_; rintro e wx ⟨rfl, ex⟩; subst ex)
    | (go_at_call 8; refine t1.mono ?_; rintro e w1 ⟨p, hp, rfl, hF1, hb1⟩; have HF1 := Hid.mk hF1; have HB1 := Hid.mk hb1; have Hp := Hid.mk hp; clear hF1 hb1 hp; have t2 := rnew_ok (w := w1) size ways hft)
    | (go_at_call 9; refine t2.mono ?_; rintro e w2 ⟨rfl, hR2, hb2⟩; have HR2 := Hid.mk hR2; have HB2 := Hid.mk hb2; clear hR2 hb2))
  obtain ⟨r, Hr⟩ : ∃ r, Hid (w1.heap.size = r) := ⟨_, ⟨rfl⟩⟩
  rw [Hr.out] at HR2 HB2 ⊢
  have Hge : Hid (w.heap.size ≤ c ∧ c < p ∧ p < r ∧ 0 < c) := ⟨by
    have h1 := HF1.out.lt
    have h2 := Hp.out
    have h3 := Hc.out
    have h4 := Hr.out
    have h5 := Hz.out
    omega⟩
  have HT2 : Hid (Two w2 p c ((size + 63) / 64) r size ways (List.replicate ((size + 63) / 64) 0) (.slice none 0 0) []) := ⟨by
    have h2 := Hge.out
    exact ⟨HF1.out.far (X := []) (Chg.ofBelow (by rw [Hr.out]; exact HB2.out)) (by simp) (by simp), HR2.out, hft, by omega, by omega, by omega, by omega, by omega, by simp⟩⟩
  have HA2 := Hid.mk (Agree.none size)
  have HBw2 : Hid (Below w.heap.size w w2) := ⟨by
    have h1 : Below w.heap.size w w1 := by rw [Hc.out]; exact HB1.out
    exact h1.trans (HB2.out.mono (by rw [← Hr.out]; exact h1.size))⟩
  obtain ⟨cap, Hcap⟩ : ∃ c, Hid ((size + 63) / 64 = c) := ⟨_, ⟨rfl⟩⟩
  obtain ⟨cs0, Hcs0⟩ : ∃ c, Hid (List.replicate ((size + 63) / 64) 0 = c) := ⟨_, ⟨rfl⟩⟩
  rw [Hcs0.out] at HT2 HA2
  rw [Hcap.out] at HT2
  go_wp2_with fail
  go_loopg [15] 80 (fun gg s15 wr => ∃ (k : Nat) (cs : List Nat) (v : Value) (l : List Int), k ≤ n ∧ k ≤ 80 ∧ 80 - k ≤ gg ∧ s15 = .int .i64 (k : Int) ∧ Hid (Two wr p c cap r size ways cs v l) ∧ Hid (Agree size cs l) ∧ Hid (Below w.heap.size w wr))
  case atStart => exact ⟨0, cs0, .slice none 0 0, [], Nat.zero_le _, Nat.zero_le _, Nat.le_refl _, rfl, HT2, HA2, HBw2⟩
  case round =>
    obtain ⟨k, cs, v, l, hk1, hk2, hgg, rfl, HT, HA, HGr⟩ := hrel
    by_cases hlt : k < n ∧ k < 80
    · obtain ⟨hlt1, hlt2⟩ := hlt
      have hz1 : (k : Int) < (n : Int) := by omega
      have hz2 : (k : Int) < 80 := by omega
      have hkL : k < L.length := by rw [Hn.out]; exact hlt1
      have hd0 : Chg [c, r] wr wr.drew := (Chg.refl _ wr).drew
      have hd0e : Chg [] wr wr.drew := (Chg.refl _ wr).drew
      obtain ⟨bD, oD, kD, eD, _⟩ := (HL.out.at hkL)
      rw [Hn.out] at eD
      simp at eD
      obtain ⟨rfl, rfl⟩ := eD
      have Hxk : Hid (DdV w (L.getD k dd0)) := ⟨HL.out.ok _ (getD_mem' hkL)⟩
      obtain ⟨es, Hes⟩ : ∃ es, Hid ((dc (L.getD k dd0)).toArray = es) := ⟨_, ⟨rfl⟩⟩
      have HSS : Hid (∀ w', Below w.heap.size w w' → (loadVar 47 ⟨bD, oD + k * 34, none⟩).run Tryd.prog w' = .ok (.agg es) w') := ⟨fun w' hb => by
        obtain ⟨b', o', k', e', hAt⟩ := (HL.out.keep (Chg.ofBelow hb)).at hkL
        simp at e'
        obtain ⟨⟨rfl, rfl⟩, _⟩ := e'
        rw [← Hes.out]
        exact run_loadD hAt Hxk.out.s⟩
      have HBd : Hid (Below w.heap.size w wr.drew) := ⟨HGr.out.trans (hd0e.below HGr.out.size (by simp))⟩
      have hS0 : (fun w' => (loadVar 47 ⟨bD, oD + k * 34, none⟩).run Tryd.prog w' = .ok (.agg es) w') wr.drew := HSS.out _ HBd.out
      have t1 := do_any (w := wr.drew) (L.getD k dd0) (Hxk.out.keep (Chg.ofBelow HBd.out)) (HT.out.keep hd0e) HA.out (vars_far (X := []) HV.out (Chg.ofBelow HBd.out) (by simp))
      rw [Hes.out] at t1
      go_upto_region 9 with fail
      refine wp_region_held_drew (S := (fun w' => (loadVar 47 ⟨bD, oD + k * 34, none⟩).run Tryd.prog w' = .ok (.agg es) w')) (by kernel_rfl) hS0 (fun hS => ?_)
      refine wpAnyH_take (i := 0) (v := .pointer (some ⟨p, 0, none⟩)) rfl (by kernel_rfl) (by kernel_rfl) (by kernel_rfl) (fun _ _ _ h => h) (Or.inl ⟨by kernel_rfl, fun _ _ => by kernel_rfl⟩) hS ?_
      refine wpAnyH_take (i := 1) (v := .pointer (some ⟨r, 0, none⟩)) rfl (by kernel_rfl) (by kernel_rfl) (by kernel_rfl) (fun _ _ _ h => h) (Or.inl ⟨by kernel_rfl, fun _ _ => by kernel_rfl⟩) hS ?_
      refine wpAnyH_take (i := 2) (v := .slice (some ⟨bD, oD, none⟩) n cD) rfl (by kernel_rfl) (by kernel_rfl) (by kernel_rfl) (fun _ _ _ h => h) (Or.inl ⟨by kernel_rfl, fun _ _ => by kernel_rfl⟩) hS ?_
      refine wpAnyH_take (i := 3) (v := .int .i64 (k : Int)) rfl (by kernel_rfl) (by kernel_rfl) (by kernel_rfl) (fun _ _ _ h => h) (Or.inl ⟨by kernel_rfl, fun _ _ => by kernel_rfl⟩) hS ?_
      refine wpAnyH_take (i := 4) (v := .pointer (some ⟨bD, oD + k * 34, none⟩)) rfl (by kernel_rfl) (by kernel_rfl) (by kernel_rfl) (fun _ _ _ h => h) (Or.inl ⟨by kernel_rfl, fun wx hx => by go_simp⟩) hS ?_
      refine wpAnyH_take (i := 5) (v := .agg es) rfl (by kernel_rfl) (by kernel_rfl) (by kernel_rfl) (fun _ _ _ h => h) (Or.inl ⟨by kernel_rfl, fun wx hx => exec_load rfl bD (oD + k * 34) (by kernel_rfl) hx⟩) hS ?_
      refine wpAnyH_ready (rs := [6]) (by kernel_rfl) (by simp) (AllReadyH.cons rfl (fun Kc hK => ?_) AllReadyH.nil)
      go_simp
      refine t1.mono ?_
      rintro e w4 ⟨rfl, hD4, hC4⟩
      obtain ⟨cs4, v4, l4, hT4, hA4, _⟩ := hD4
      obtain ⟨a1, c1, e1, _⟩ := hT4.rf.on.shape
      subst e1
      obtain ⟨n1, Hn1⟩ : ∃ n, Hid (l4.length = n) := ⟨_, ⟨rfl⟩⟩
      have HT4 := Hid.mk hT4
      rw [Hn1.out] at HT4
      have HA4 := Hid.mk hA4
      have HB4 : Hid (Below w.heap.size w w4) := ⟨HGr.out.trans ((hd0.trans hC4).below HGr.out.size (by have := Hge.out; simp; omega))⟩
      have HV4 : Hid (Vars w4) := ⟨vars_far (X := []) HV.out (Chg.ofBelow HB4.out) (by simp)⟩
      have t2 := ones_two HT4.out HA4.out HV4.out
      rw [Hn1.out] at t2
      refine hK.out _ _ (HSS.out _ HB4.out) (fun hS => ?_)
      clear hK hT4 hA4 hC4
      refine wpAnyH_more (S' := (fun w' => (loadVar 47 ⟨bD, oD + k * 34, none⟩).run Tryd.prog w' = .ok (.agg es) w' ∧ w'.cell? ⟨r, 2, none⟩ = some (.slice a1 n1 c1))) (fun _ h => h.1) _ _ _ _ ?_
      have hS2 : (fun w' => (loadVar 47 ⟨bD, oD + k * 34, none⟩).run Tryd.prog w' = .ok (.agg es) w' ∧ w'.cell? ⟨r, 2, none⟩ = some (.slice a1 n1 c1)) w4 := ⟨hS, HT4.out.rf.c2⟩
      clear hS
      have hS := hS2
      clear hS2
      refine wpAnyH_take (i := 7) (v := .bool false) rfl (by kernel_rfl) (by kernel_rfl) (by kernel_rfl) (fun _ _ _ h => h) (Or.inl ⟨by kernel_rfl, fun wx hx => by go_simp⟩) hS ?_
      refine wpAnyH_take (i := 8) (v := .bool false) rfl (by kernel_rfl) (by kernel_rfl) (by kernel_rfl) (fun _ _ _ h => h) (Or.inl ⟨by kernel_rfl, fun _ _ => by kernel_rfl⟩) hS ?_
      refine wpAnyH_take (i := 9) (v := .pointer (some ⟨p, 0, none⟩)) rfl (by kernel_rfl) (by kernel_rfl) (by kernel_rfl) (fun _ _ _ h => h) (Or.inl ⟨by kernel_rfl, fun _ _ => by kernel_rfl⟩) hS ?_
      refine wpAnyH_take (i := 11) (v := .pointer (some ⟨r, 0, none⟩)) rfl (by kernel_rfl) (by kernel_rfl) (by kernel_rfl) (fun _ _ _ h => h) (Or.inl ⟨by kernel_rfl, fun _ _ => by kernel_rfl⟩) hS ?_
      refine wpAnyH_take (i := 12) (v := .pointer (some ⟨r, 0, none⟩)) rfl (by kernel_rfl) (by kernel_rfl) (by kernel_rfl) (fun _ _ _ h => h) (Or.inl ⟨by kernel_rfl, fun wx hx => by go_simp⟩) hS ?_
      refine wpAnyH_take (i := 13) (v := .pointer (some ⟨r, 2, none⟩)) rfl (by kernel_rfl) (by kernel_rfl) (by kernel_rfl) (fun _ _ _ h => h) (Or.inl ⟨by kernel_rfl, fun wx hx => by go_simp⟩) hS ?_
      refine wpAnyH_take (i := 14) (v := .slice a1 n1 c1) rfl (by kernel_rfl) (by kernel_rfl) (by kernel_rfl) (fun _ _ _ h => h) (Or.inl ⟨by kernel_rfl, fun wx hx => by have h1 := hx.2; go_simp⟩) hS ?_
      refine wpAnyH_take (i := 15) (v := .int .i64 (n1 : Int)) rfl (by kernel_rfl) (by kernel_rfl) (by kernel_rfl) (fun _ _ _ h => h) (Or.inl ⟨by kernel_rfl, fun wx hx => by go_simp⟩) hS ?_
      refine wpAnyH_ready (rs := [10]) (by kernel_rfl) (by simp) (AllReadyH.cons rfl (fun Kc hK => ?_) AllReadyH.nil)
      go_simp
      refine t2.mono ?_
      rintro e w5 ⟨rfl, hb5⟩
      have HT5 : Hid (Two w5 p c cap r size ways cs4 (.slice a1 n1 c1) l4) := ⟨HT4.out.below hb5⟩
      have HB5 : Hid (Below w.heap.size w w5) := ⟨HB4.out.trans (hb5.mono HB4.out.size)⟩
      refine hK.out _ _ ⟨HSS.out _ HB5.out, HT5.out.rf.c2⟩ (fun hS => ?_)
      clear hK hb5
      refine wpAnyH_take (i := 16) (v := .bool false) rfl (by kernel_rfl) (by kernel_rfl) (by kernel_rfl) (fun _ _ _ h => h) (Or.inl ⟨by kernel_rfl, fun wx hx => by go_simp⟩) hS ?_
      refine wpAnyH_take (i := 17) (v := .bool false) rfl (by kernel_rfl) (by kernel_rfl) (by kernel_rfl) (fun _ _ _ h => h) (Or.inl ⟨by kernel_rfl, fun wx hx => by go_simp⟩) hS ?_
      refine wpAnyH_done (by kernel_rfl) ?_ _
      clear hS hS0
      go_simp
      go_wp2_with fail
      go_roundg (80 - (k + 1))
      case measure => omega
      case rel => exact ⟨k + 1, _, _, _, by omega, by omega, by omega, by go_num, HT5, HA4, HB5⟩
    · have HE : Hid (∃ cs v l, Two wr p c cap r size ways cs v l ∧ Agree size cs l) := ⟨⟨_, _, _, HT.out, HA.out⟩⟩
      by_cases hk3 : k < n
      · have hz1 : (k : Int) < (n : Int) := by omega
        have hz2 : ¬ (k : Int) < 80 := by omega
        go_wp2_with fail
        go_ret3
        exact ⟨p, c, cap, r, by have := Hge.out; omega, rfl, HE.out, HGr.out⟩
      · have hz1 : ¬ (k : Int) < (n : Int) := by omega
        go_wp2_with fail
        go_ret3
        exact ⟨p, c, cap, r, by have := Hge.out; omega, rfl, HE.out, HGr.out⟩
end Go.Proofs.YtiloclekhddkfabDoor
