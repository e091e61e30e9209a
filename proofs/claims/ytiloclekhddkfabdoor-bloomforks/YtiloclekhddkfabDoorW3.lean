/- The walk of BloomFinds. -/
import Derived.Test.YtiloclekhddkfabDoorA4
namespace Go.Proofs.YtiloclekhddkfabDoor
open Go.RowKit
theorem wp_loadD {ops : Array Oper} {rest : List Oper} {o : Oper} {a : Act} {w : World} {Q : Exit → Act → World → Prop} (hgd : o.guard = none) (x : Operand) (ho : o.op = .load 47 x)
    (b off : Nat) (hx : a.eval x = .pointer (some ⟨b, off, none⟩)) (es : Array Value) (hr : (loadVar 47 ⟨b, off, none⟩).run Tryd.prog w = .ok (.agg es) w)
    (h : wpList Tryd.prog ops Q rest (a.put o.dst (.agg es)) w) : wpList Tryd.prog ops Q (o :: rest) a w := by
  refine wpList_plain hgd fun K hK => ?_
  unfold Oper.wp execOp
  simp only [ho, hx, Instr.loadAt, Instr.sureAddr, Sem.run_bind, Sem.run_pure, Result.andThen_ok, hr]
  exact hK _ _ h
set_option maxHeartbeats 8000000 in
set_option maxRecDepth 100000 in
theorem finds_walk {w : World} (a b : Nat) (ha : a < 65536) (hb : b < 256) (v : Value) (L : List Dd) (hL : Deeds w v L) (s : List Int) (hs : Sum32 s) (u : Value) (M : List Dd) (hM : Deeds w u M) (hV : Vars w) : Calls Tryd.prog 5 #[.int .u16 (a : Int), .int .u8 (b : Int), v, .agg (sc s).toArray, u] w fun e w' => e = .returned (.bool true) ∧ Below w.heap.size w w' := by
  have hbox := run_boxS
  have HV := Hid.mk hV
  have Hs := Hid.mk hs
  obtain ⟨g, Hg⟩ : ∃ g, Hid (w.heap.size = g) := ⟨_, ⟨rfl⟩⟩
  obtain ⟨W, HW⟩ : ∃ W, Hid (w.alloc (.cells (sc s).toArray 22) = W) := ⟨_, ⟨rfl⟩⟩
  have HBW : Hid (Below w.heap.size w W) := ⟨by rw [← HW.out]; exact (Below.refl _ w).alloc (Nat.le_refl _) _⟩
  have HA0 : Hid (SumAt W g s) := ⟨by rw [← HW.out, ← Hg.out]; exact heap_alloc_new w _⟩
  have HVW : Hid (Vars W) := ⟨vars_far (X := []) hV (Chg.ofBelow HBW.out) (by simp)⟩
  have t1 := play_any (w := W) a b ha hb v L (hL.keep (Chg.ofBelow HBW.out)) HVW.out
  generalize 1 + a % 300 = size at t1
  generalize 1 + b % 8 = ways at t1
  have HgW : Hid (g < W.heap.size) := ⟨HA0.out.lt⟩
  have HM := Hid.mk (hM.keep (Chg.ofBelow HBW.out))
  obtain ⟨aD, cD, e, hcD, hcM, _⟩ := hM.rd.shape
  obtain ⟨n, Hn⟩ : ∃ n, Hid (M.length = n) := ⟨_, ⟨rfl⟩⟩
  rw [Hn.out] at e hcD
  subst e
  have hnb : n ≤ 9223372036854775807 := by unfold maxLen at hcM; omega
  clear hV hs hL hM hcD hcM
  go_enter Tryd.func5, Tryd.ntmps5
  go_upto_region 1 with fail
  rw [HW.out, Hg.out]
  go_upto_region 5 with (first
    | (go_at_call 13; refine t1.mono ?_; rintro e w1 ⟨p, c, cap, r, hge, rfl, ⟨cs, vv, l, hT, hA⟩, hb1⟩; have HT := Hid.mk hT; have HA := Hid.mk hA; have HB1 := Hid.mk hb1; have Hge := Hid.mk hge; clear hT hA hb1 hge; have HAt1 : Hid (SumAt w1 g s) := ⟨HA0.out.far (X := []) (Chg.ofBelow HB1.out) (by simp)⟩; have t2 := add_two HT.out HA.out s Hs.out)
    | (refine wpList_unguard (by kernel_rfl) ?_; refine wp_loadS rfl (.tmp 8) rfl g 0 (by kernel_rfl) s (At.row HAt1.out) Hs.out ?_)
    | (go_at_call 17; refine t2.mono ?_; rintro e w2 ⟨rfl, hT2, hC2⟩; have HT2 := Hid.mk hT2; have HC2 := Hid.mk hC2; clear hT2 hC2; have HAt2 : Hid (SumAt w2 g s) := ⟨HAt1.out.far HC2.out (by have := Hge.out; have := HgW.out; simp; omega)⟩; have t3 := radd_two HT2.out (by have := HA.out.small; have := HT.out.bd; omega) s Hs.out)
    | (refine wp_loadS rfl (.tmp 8) rfl g 0 (by kernel_rfl) s (At.row HAt2.out) Hs.out ?_)
    | (go_at_call 18; refine t3.mono ?_; rintro e w3 ⟨rfl, ⟨v3, hT3, -⟩, hC3⟩; have HT3 := Hid.mk hT3; have HC3 := Hid.mk hC3; clear hT3 hC3))
  have HA3 := Hid.mk (HA.out.add (ways := ways) s HT.out.ok)
  have HB3 : Hid (Below W.heap.size W w3) := ⟨HB1.out.trans (((HC2.out.mono (by simp)).trans (HC3.out.mono (by simp)) : Chg [c, r] w1 w3).below HB1.out.size (by have := Hge.out; simp; omega))⟩
  have HI3 : Hid (∀ y ∈ plc s size ways, y ∈ layF l (plc s size ways)) := ⟨fun y hy => (mem_layF _ _ _).2 (.inr hy)⟩
  obtain ⟨PL, HPL⟩ : ∃ l, Hid (plc s size ways = l) := ⟨_, ⟨rfl⟩⟩
  rw [HPL.out] at HI3 HT3 HA3
  clear HT2 HT HA t2 t3
  go_wp2_with fail
  go_loopg [14] 60 (fun gg s14 wr => ∃ (k : Nat) (cs : List Nat) (v : Value) (l : List Int), k ≤ n ∧ k ≤ 60 ∧ 60 - k ≤ gg ∧ s14 = .int .i64 (k : Int) ∧ Hid (Two wr p c cap r size ways cs v l) ∧ Hid (Agree size cs l) ∧ Hid (∀ y ∈ PL, y ∈ l) ∧ Hid (Below W.heap.size W wr))
  case atStart => exact ⟨0, _, v3, _, Nat.zero_le _, Nat.zero_le _, Nat.le_refl _, rfl, HT3, HA3, HI3, HB3⟩
  case round =>
    obtain ⟨k, cs, v, l, hk1, hk2, hgg, rfl, HT, HA, HI, HGr⟩ := hrel
    by_cases hlt : k < n ∧ k < 60
    · obtain ⟨hlt1, hlt2⟩ := hlt
      have hz1 : (k : Int) < (n : Int) := by omega
      have hz2 : (k : Int) < 60 := by omega
      have hkL : k < M.length := by rw [Hn.out]; exact hlt1
      have HMr := Hid.mk (HM.out.keep (Chg.ofBelow HGr.out))
      obtain ⟨bD, oD, kD, eD, hAt⟩ := HMr.out.at hkL
      rw [Hn.out] at eD
      simp at eD
      obtain ⟨rfl, rfl⟩ := eD
      have Hxk : Hid (DdV wr (M.getD k dd0)) := ⟨HMr.out.ok _ (getD_mem' hkL)⟩
      have hce : wr.cell? ⟨bD, oD + k * 34, none⟩ = some (.int .i64 (M.getD k dd0).d) := by simpa using hAt 0 _ (dc_0 _)
      have Hld : Hid ((loadVar 47 ⟨bD, oD + k * 34, none⟩).run Tryd.prog wr = .ok (.agg (dc (M.getD k dd0)).toArray) wr) := ⟨run_loadD hAt Hxk.out.s⟩
      have t4 := do_any (w := wr) (M.getD k dd0) Hxk.out HT.out HA.out (vars_far (X := []) HVW.out (Chg.ofBelow HGr.out) (by simp))
      obtain ⟨es, Hes⟩ : ∃ es, Hid ((dc (M.getD k dd0)).toArray = es) := ⟨_, ⟨rfl⟩⟩
      rw [Hes.out] at t4 Hld
      clear hAt
      generalize (M.getD k dd0).d = D at t4 hce
      by_cases hD : D = 2
      · subst hD
        go_wp2_with fail
        go_roundg (60 - (k + 1))
        case measure => omega
        case rel => exact ⟨k + 1, _, _, _, by omega, by omega, by omega, by go_num, HT, HA, HI, HGr⟩
      · have hDz : (D != 2) = true := by simp; exact hD
        go_wp2_with (first
          | (refine wpList_unguard (by kernel_rfl) ?_; refine wp_loadD rfl (.tmp 55) rfl bD (oD + k * 34) (by kernel_rfl) es Hld.out ?_)
          | (go_at_call 19; refine t4.mono ?_; rintro e w4 ⟨rfl, ⟨cs4, v4, l4, hT4, hA4, hI4⟩, hC4⟩; have HT4 := Hid.mk hT4; have HA4 := Hid.mk hA4; have HI4 : Hid (∀ y ∈ PL, y ∈ l4) := ⟨fun y hy => hI4 hD y (HI.out y hy)⟩; have HB4 : Hid (Below W.heap.size W w4) := ⟨HGr.out.trans (hC4.below HGr.out.size (by have := Hge.out; simp; omega))⟩; clear hT4 hA4 hI4 hC4))
        go_roundg (60 - (k + 1))
        case measure => omega
        case rel => exact ⟨k + 1, _, _, _, by omega, by omega, by omega, by go_num, HT4, HA4, HI4, HB4⟩
    · have t5 := live_any (w := wr) (vars_far (X := []) HVW.out (Chg.ofBelow HGr.out) (by simp))
      have Hdec : Hid (decide (∀ y ∈ plc s size ways, y ∈ l) = true) := ⟨decide_eq_true (by rw [HPL.out]; exact HI.out)⟩
      have HAtr : Hid (SumAt wr g s) := ⟨HA0.out.far (X := []) (Chg.ofBelow HGr.out) (by simp)⟩
      by_cases hk3 : k < n
      · have hz1 : (k : Int) < (n : Int) := by omega
        have hz2 : ¬ (k : Int) < 60 := by omega
        go_wp2_with (first
          | (go_at_call 12; refine t5.mono ?_; rintro e w6 ⟨rfl, hb6⟩; have HB6 := Hid.mk hb6; clear hb6; have HAt6 : Hid (SumAt w6 g s) := ⟨HAtr.out.far (X := []) (Chg.ofBelow HB6.out) (by simp)⟩; have t6 := has_two (HT.out.below HB6.out) HA.out s Hs.out; rw [Hdec.out] at t6)
          | (refine wpList_unguard (by kernel_rfl) ?_; refine wp_loadS rfl (.tmp 8) rfl g 0 (by kernel_rfl) s (At.row HAt6.out) Hs.out ?_)
          | (go_at_call 14; refine t6.mono ?_; rintro e w7 ⟨rfl, hb7⟩; have HB7 := Hid.mk hb7; clear hb7))
        go_ret
        exact ⟨rfl, HBW.out.trans ((((HGr.out.trans (HB6.out.mono HGr.out.size)).trans (HB7.out.mono (Nat.le_trans HGr.out.size HB6.out.size)))).mono HBW.out.size)⟩
      · have hz1 : ¬ (k : Int) < (n : Int) := by omega
        go_wp2_with (first
          | (go_at_call 12; refine t5.mono ?_; rintro e w6 ⟨rfl, hb6⟩; have HB6 := Hid.mk hb6; clear hb6; have HAt6 : Hid (SumAt w6 g s) := ⟨HAtr.out.far (X := []) (Chg.ofBelow HB6.out) (by simp)⟩; have t6 := has_two (HT.out.below HB6.out) HA.out s Hs.out; rw [Hdec.out] at t6)
          | (refine wpList_unguard (by kernel_rfl) ?_; refine wp_loadS rfl (.tmp 8) rfl g 0 (by kernel_rfl) s (At.row HAt6.out) Hs.out ?_)
          | (go_at_call 14; refine t6.mono ?_; rintro e w7 ⟨rfl, hb7⟩; have HB7 := Hid.mk hb7; clear hb7))
        go_ret
        exact ⟨rfl, HBW.out.trans ((((HGr.out.trans (HB6.out.mono HGr.out.size)).trans (HB7.out.mono (Nat.le_trans HGr.out.size HB6.out.size)))).mono HBW.out.size)⟩
end Go.Proofs.YtiloclekhddkfabDoor
