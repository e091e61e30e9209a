/- The taker: all facts, here one tick. -/
import Derived.Test.YtdcmagdglmmdkaaN7
namespace Go.Proofs.Ytdcmagdglmmdkaa
open Go.RowKit
theorem fc_all (n : Int) : (fc n).all (·.oneCell') = true := by rfl
theorem fc_one (n : Int) : ∀ u ∈ fc n, u.oneCell' = true := List.all_eq_true.1 (fc_all n)
section
variable {w : World}
set_option maxHeartbeats 8000000 in
set_option maxRecDepth 100000 in
theorem facts_tick {p : Nat} {v : Value} {bs : List Int} {n j k : Int} (hT : TkAt w p v 0) (hv : Oct.Bs w v bs) (hvb : ∀ g, v.ownBlock = some g → g < w.heap.size ∧ g ≠ p) (hby : ∀ x ∈ bs, 0 ≤ x ∧ x < 256) (h0 : nm bs 0 = .ok (1, j)) (h1 : nm bs j = .ok (8, k)) (h2 : nm bs k = .ok (n, (bs.length : Int))) :
    Calls Try.prog 34 #[.pointer (some ⟨p, 0, none⟩)] w fun e w' => ∃ v', e = .returned v' ∧ OwnE fc 14 35 w' w.heap.size v' [n] ∧ Chg [p] w w' := by
  have HV : Hid (Oct.Bs w v bs) := ⟨hv⟩
  have HVb := Hid.mk hvb
  have HBY := Hid.mk hby
  have H1 := Hid.mk h1
  have H2 := Hid.mk h2
  have Hpl : Hid (p < w.heap.size) := ⟨hT.lt⟩
  have t72 := count_ok 300 hT hv hby h0 (by decide)
  obtain ⟨av, cv, rfl, _⟩ := hv
  obtain ⟨nb, Hnb⟩ : ∃ n, Hid (bs.length = n) := ⟨_, ⟨rfl⟩⟩
  rw [Hnb.out] at t72 HV HVb H2
  clear hT hvb hby h0 h1 h2
  go_enter Try.func34, Try.ntmps34
  go_upto_region 6 with (go_at_call 72; refine t72.mono ?_; rintro e w1 ⟨rfl, hT1, hc1⟩; clear t72)
  have HT1 : Hid (TkAt w1 p (.slice av nb cv) j) := ⟨hT1⟩
  have HC1 : Hid (Chg [p] w w1) := ⟨hc1⟩
  clear hT1 hc1
  go_loopw [4, 11] (fun l i wr => ∃ q : Nat, q ≤ 1 ∧ i = .int .i64 (q : Int) ∧ Hid (Chg [p] w wr) ∧ ((q = 0 ∧ l = .slice none 0 0 ∧ Hid (TkAt wr p (.slice av nb cv) j)) ∨ (q = 1 ∧ Hid (OwnE fc 14 35 wr w.heap.size l [n]) ∧ Hid (TkAt wr p (.slice av nb cv) (nb : Int))))) (fun _ i _ => 1 - (intOf i).toNat)
  case atStart => exact ⟨0, by decide, rfl, HC1, .inl ⟨rfl, rfl, HT1⟩⟩
  case round =>
    obtain ⟨q, hq, rfl, HCr, hr⟩ := hrel
    rcases hr with ⟨rfl, rfl, HTr⟩ | ⟨rfl, HOr, HTr⟩
    · have t74 := fact_tick HTr.out (bs_far HV.out HCr.out (fun g hg => by simpa using (HVb.out g hg).2)) (fun g hg => ⟨Nat.lt_of_lt_of_le (HVb.out g hg).1 HCr.out.size, (HVb.out g hg).2⟩) HBY.out H1.out H2.out
      have hts : (tk n).size = 14 := rfl
      have hl1 : (([] : List Int).length + [n].length) * 168 ≤ 140737488355328 := by simp
      have hl2 : ([] : List Int).length + [n].length ≤ maxLen := by simp [maxLen]
      go_wp2_with (first
        | (go_at_call 74; refine t74.mono ?_; rintro e w2 ⟨rfl, hT2, hc2⟩; clear t74; have HT2 : Hid (TkAt w2 p (.slice av nb cv) (nb : Int)) := ⟨hT2⟩; have HC2 : Hid (Chg [p] w w2) := ⟨HCr.out.trans hc2⟩; have HRd : Hid (RdE fc 14 0 (w2.alloc (.cells (tk n) 35)) (.slice (some ⟨w2.heap.size, 0, none⟩) 1 1) [n]) := ⟨rde_one w2 n rfl (fc_one n) 35⟩; have hb3 : w.heap.size ≤ (w2.alloc (.cells (tk n) 35)).heap.size := Nat.le_trans HC2.out.size (by simp); clear hT2 hc2)
        | (refine wp_sliceE eltF rfl (.tmp 15) rfl (tk n) rfl hts (by decide) ?_)
        | (at_builtin; refine wp_appE (d := 0) eltF rfl (.tmp 13) (.tmp 16) rfl rfl (OwnE.nil fc 14 35 _ w.heap.size) rfl HRd.out hl1 hl2 hb3 ?_; intro v4 w4 hO4 hC4 _; have HO4 : Hid (OwnE fc 14 35 w4 w.heap.size v4 [n]) := ⟨hO4⟩; have HC24 : Hid (Chg [] w2 w4) := ⟨(Chg.ofBelow ((Below.refl _ w2).alloc (Nat.le_refl _) _)).trans hC4⟩; clear hO4 hC4))
      go_roundw
      case rel => exact ⟨1, by decide, by go_num, ⟨HC2.out.thenNew HC24.out (by simp)⟩, .inr ⟨rfl, HO4, ⟨HT2.out.far HC24.out (by simp)⟩⟩⟩
      case measure => simp [intOf]
    · obtain ⟨la, lc, rfl, _⟩ := (HOr.out.rd 0).shape
      have hS0 : (fun w' => w'.cell? ⟨p, 0, none⟩ = some (.slice av nb cv) ∧ w'.cell? ⟨p, 1, none⟩ = some (.int .i64 (nb : Int))) wr.drew := ⟨HTr.out.c0, HTr.out.c1⟩
      go_upto_region 9 with fail
      refine wp_region_held_drew (S := (fun w' => w'.cell? ⟨p, 0, none⟩ = some (.slice av nb cv) ∧ w'.cell? ⟨p, 1, none⟩ = some (.int .i64 (nb : Int)))) (by kernel_rfl) hS0 (fun hS => ?_)
      refine wpAnyH_take (i := 0) (v := .pointer (some ⟨p, 0, none⟩)) rfl (by kernel_rfl) (by kernel_rfl) (by kernel_rfl) (fun _ _ _ h => h) (Or.inl ⟨by kernel_rfl, fun _ _ => by kernel_rfl⟩) hS ?_
      refine wpAnyH_take (i := 1) (v := .pointer (some ⟨p, 0, none⟩)) rfl (by kernel_rfl) (by kernel_rfl) (by kernel_rfl) (fun _ _ _ h => h) (Or.inl ⟨by kernel_rfl, fun wx hx => by go_simp⟩) hS ?_
      refine wpAnyH_take (i := 2) (v := .pointer (some ⟨p, 1, none⟩)) rfl (by kernel_rfl) (by kernel_rfl) (by kernel_rfl) (fun _ _ _ h => h) (Or.inl ⟨by kernel_rfl, fun wx hx => by go_simp⟩) hS ?_
      refine wpAnyH_take (i := 3) (v := .int .i64 (nb : Int)) rfl (by kernel_rfl) (by kernel_rfl) (by kernel_rfl) (fun _ _ _ h => h) (Or.inl ⟨by kernel_rfl, fun wx hx => by obtain ⟨hx1, hx2⟩ := hx; go_simp⟩) hS ?_
      refine wpAnyH_take (i := 4) (v := .pointer (some ⟨p, 0, none⟩)) rfl (by kernel_rfl) (by kernel_rfl) (by kernel_rfl) (fun _ _ _ h => h) (Or.inl ⟨by kernel_rfl, fun _ _ => by kernel_rfl⟩) hS ?_
      refine wpAnyH_take (i := 5) (v := .pointer (some ⟨p, 0, none⟩)) rfl (by kernel_rfl) (by kernel_rfl) (by kernel_rfl) (fun _ _ _ h => h) (Or.inl ⟨by kernel_rfl, fun wx hx => by go_simp⟩) hS ?_
      refine wpAnyH_take (i := 6) (v := .pointer (some ⟨p, 0, none⟩)) rfl (by kernel_rfl) (by kernel_rfl) (by kernel_rfl) (fun _ _ _ h => h) (Or.inl ⟨by kernel_rfl, fun wx hx => by go_simp⟩) hS ?_
      refine wpAnyH_take (i := 7) (v := .slice av nb cv) rfl (by kernel_rfl) (by kernel_rfl) (by kernel_rfl) (fun _ _ _ h => h) (Or.inl ⟨by kernel_rfl, fun wx hx => by obtain ⟨hx1, hx2⟩ := hx; go_simp⟩) hS ?_
      refine wpAnyH_take (i := 8) (v := .int .i64 (nb : Int)) rfl (by kernel_rfl) (by kernel_rfl) (by kernel_rfl) (fun _ _ _ h => h) (Or.inl ⟨by kernel_rfl, fun wx hx => by go_simp⟩) hS ?_
      refine wpAnyH_take (i := 9) (v := .bool false) rfl (by kernel_rfl) (by kernel_rfl) (by kernel_rfl) (fun _ _ _ h => h) (Or.inl ⟨by kernel_rfl, fun wx hx => by go_simp⟩) hS ?_
      refine wpAnyH_done (by kernel_rfl) ?_ _
      clear hS hS0
      go_simp
      go_wp2_with fail
      go_ret
      exact ⟨_, rfl, HOr.out.far (Chg.refl [] wr).drew (by simp), HCr.out.drew⟩
end
end Go.Proofs.Ytdcmagdglmmdkaa
