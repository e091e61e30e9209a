/- container/heap.down over a row of shares. -/
import Derived.Test.YtjcojpddjhjhbaaC5
namespace Go.Proofs.Ytjcojpddjhjhbaa
open Go.RowKit Go.Lib Go.Shelf

set_option maxHeartbeats 8000000 in
set_option maxRecDepth 100000 in
theorem down35 {w : World} {base b g m c : Nat} {M : List Sh} (h : Box w b base (.slice (some ⟨g, 0, none⟩) m c) M) (hm : M.length = m) (hc : c ≤ maxLen) (hr : AllRt M) {n : Nat} (hnm : n ≤ m) (hnb : n ≤ 10000000000000) (hu : HDn M n 0) (hbg : b ≠ g) :
    Calls Try.prog 35 #[.iface 59 (.pointer (some ⟨b, 0, none⟩)), .int .i64 0, .int .i64 (n : Int)] w fun e w' => ∃ x, e = .returned (.bool x) ∧ ∃ M', Box w' b base (.slice (some ⟨g, 0, none⟩) m c) M' ∧ M'.Perm M ∧ Heap M' n ∧ (∀ k, n ≤ k → At M' k = At M k) ∧ Chg [g] w w' := by
  have e71 := eg71
  have e72 := eg72
  have HX := Hid.mk h
  have Hm := Hid.mk hm
  have HR := Hid.mk hr
  have HD := Hid.mk hu
  have Hbg := Hid.mk hbg
  have hcx : c ≤ 9223372036854775807 := hc
  have hnc : m ≤ c := by have := (h.own.rd s0).shape; obtain ⟨a', c', e', h1, _⟩ := this; simp at e'; omega
  clear h hm hr hu hbg
  go_enter Try.func35, Try.ntmps35
  go_wp2_with fail
  go_loopg [7, 8, 9, 10] n (fun gg s7 _ _ _ wr => ∃ i : Nat, ∃ M' : List Sh, i ≤ n ∧ n - i ≤ gg ∧ s7 = .int .i64 (i : Int) ∧ Hid (Box wr b base (.slice (some ⟨g, 0, none⟩) m c) M') ∧ Hid (M'.Perm M) ∧ Hid (HDn M' n i) ∧ Hid (∀ k, n ≤ k → At M' k = At M k) ∧ Hid (Chg [g] w wr))
  case atStart => exact ⟨0, M, Nat.zero_le _, Nat.le_refl _, rfl, HX, ⟨List.Perm.refl _⟩, HD, ⟨fun _ _ => rfl⟩, ⟨Chg.refl _ _⟩⟩
  case round =>
    clear HX HD
    obtain ⟨i, M', hi, hgg, rfl, HX, HP, HD, HF, HG⟩ := hrel
    rename World => wo
    have Hl : Hid (M'.length = m) := ⟨by rw [HP.out.length_eq, Hm.out]⟩
    have HRt : Hid (AllRt M') := ⟨fun s hs => HR.out s (HP.out.mem_iff.1 hs)⟩
    obtain ⟨q1, Hq1⟩ : ∃ q, Hid (2 * i + 1 = q) := ⟨_, ⟨rfl⟩⟩
    have hq1 : 2 * (i : Int) + 1 = (q1 : Int) := by have := Hq1.out; omega
    have hib : i ≤ 10000000000000 := by omega
    by_cases h1 : q1 < n
    · have h1z : ¬ (n : Int) ≤ (q1 : Int) := by omega
      have hq1p : ¬ (q1 : Int) < 0 := by omega
      have hiq : i < q1 := by have := Hq1.out; omega
      obtain ⟨q2, Hq2⟩ : ∃ q, Hid (q1 + 1 = q) := ⟨_, ⟨rfl⟩⟩
      have hq2 : (q1 : Int) + 1 = (q2 : Int) := by have := Hq2.out; omega
      have hq2b : q2 ≤ n := by have := Hq2.out; omega
      have hiq2 : i < q2 := by have := Hq2.out; omega
      have Hch : Hid (∀ k, 0 < k → par k = i → k = q1 ∨ k = q2) := ⟨fun k k0 hk => by have := Hq1.out; have := Hq2.out; unfold par at hk; omega⟩
      have Hp1 : Hid (par q1 = i) := ⟨by rw [← Hq1.out]; unfold par; omega⟩
      have Hp2 : Hid (par q2 = i) := ⟨by rw [← Hq2.out, ← Hq1.out]; unfold par; omega⟩
      by_cases h2 : q2 < n
      · have h2z : (q2 : Int) < (n : Int) := by omega
        have m1 := finds_less wo b _ HX.out.cell
        have t1 := less71 HX.out.own Hl.out hc HRt.out (i := q2) (j := q1) (by omega) (by omega)
        obtain ⟨y, Hy⟩ : ∃ z, Hid (shl (M'.getD q2 s0) (M'.getD q1 s0) = z) := ⟨_, ⟨rfl⟩⟩
        rw [Hy.out] at t1
        cases y with
        | true =>
          have Hlow : Hid (∀ k, 0 < k → k < n → par k = i → shl (At M' k) (At M' q2) = false) := ⟨fun k k0 _ hk => by
            rcases Hch.out k k0 hk with rfl | rfl
            · exact shl_as (rt_at HRt.out _) (rt_at HRt.out _) Hy.out
            · exact shl_irr (rt_at HRt.out _)⟩
          go_upto_region 8 with (refine t1.mono ?_; rintro e w1 ⟨rfl, hg1⟩; have HX1 := Hid.mk (HX.out.gw hg1); have HG1 := Hid.mk (HG.out.trans (Chg.ofBelow hg1.below)); clear t1 hg1 m1)
          have m5 := finds_less w1 b _ HX1.out.cell
          have t5 := less71 HX1.out.own Hl.out hc HRt.out (i := q2) (j := i) (by omega) (by omega)
          obtain ⟨z, Hz⟩ : ∃ z, Hid (shl (M'.getD q2 s0) (M'.getD i s0) = z) := ⟨_, ⟨rfl⟩⟩
          rw [Hz.out] at t5
          have HdS := Hid.mk (dn_step HRt.out (by rw [Hl.out]; exact hnm) HD.out (j := q2) (by omega) h2 Hp2.out Hlow.out)
          have HdE : Hid (z = false → Heap M' n) := ⟨fun hz => dn_stop HD.out (fun k k0 hk hp => shl_nt (rt_at HRt.out _) (rt_at HRt.out _) (rt_at HRt.out _) (Hlow.out k k0 hk hp) (by rw [← hz, ← Hz.out]; rfl))⟩
          rw [show At M' q2 = M'.getD q2 s0 from rfl, show At M' i = M'.getD i s0 from rfl, Hz.out] at HdS
          cases z with
          | false =>
            go_wp2_with fail
            refine t5.mono ?_
            rintro e w5 ⟨rfl, hg5⟩
            have HX5 := Hid.mk (HX1.out.gw hg5)
            have HG5 := Hid.mk (HG1.out.trans (Chg.ofBelow hg5.below))
            have HE := Hid.mk (HdE.out (by trivial))
            clear t5 hg5 m5
            go_wp2_with fail
            go_ret
            exact ⟨_, rfl, M', HX5.out, HP.out, HE.out, HF.out, HG5.out⟩
          | true =>
            go_wp2_with fail
            refine t5.mono ?_
            rintro e w5 ⟨rfl, hg5⟩
            have HX5 := Hid.mk (HX1.out.gw hg5)
            have HG5 := Hid.mk (HG1.out.trans (Chg.ofBelow hg5.below))
            have HS := Hid.mk (HdS.out (by trivial))
            clear t5 hg5 m5
            have m6 := finds_swap w5 b _ HX5.out.cell
            have t6 := swap72 HX5.out.own Hl.out hc (i := i) (j := q2) (by omega) (by omega)
            go_wp2_with fail
            refine t6.mono ?_
            rintro e w6 ⟨rfl, hO6, hG6⟩
            have HX6 : Hid (Box w6 b base (.slice (some ⟨g, 0, none⟩) m c) (swp M' i q2)) := ⟨⟨(hG6.block b HX5.out.lt (by simpa using Hbg.out)).trans HX5.out.box, hO6⟩⟩
            have HG6 := Hid.mk (HG5.out.trans hG6)
            have HP6 : Hid ((swp M' i q2).Perm M) := ⟨(swp_perm (by rw [Hl.out]; omega) (by rw [Hl.out]; omega)).trans HP.out⟩
            have HF6 : Hid (∀ k, n ≤ k → At (swp M' i q2) k = At M k) := ⟨fun k hk => by rw [swp_at (by rw [Hl.out]; omega) (by rw [Hl.out]; omega), if_neg (by omega), if_neg (by omega)]; exact HF.out k hk⟩
            clear t6 hO6 hG6 m6
            go_wp2_with fail
            go_roundg (n - q2)
            case measure => omega
            case rel => exact ⟨q2, swp M' i q2, by omega, Nat.le_refl _, rfl, HX6, HP6, HS, HF6, HG6⟩
        | false =>
          have Hlow : Hid (∀ k, 0 < k → k < n → par k = i → shl (At M' k) (At M' q1) = false) := ⟨fun k k0 _ hk => by
            rcases Hch.out k k0 hk with rfl | rfl
            · exact shl_irr (rt_at HRt.out _)
            · exact Hy.out⟩
          go_upto_region 8 with (refine t1.mono ?_; rintro e w1 ⟨rfl, hg1⟩; have HX1 := Hid.mk (HX.out.gw hg1); have HG1 := Hid.mk (HG.out.trans (Chg.ofBelow hg1.below)); clear t1 hg1 m1)
          have m5 := finds_less w1 b _ HX1.out.cell
          have t5 := less71 HX1.out.own Hl.out hc HRt.out (i := q1) (j := i) (by omega) (by omega)
          obtain ⟨z, Hz⟩ : ∃ z, Hid (shl (M'.getD q1 s0) (M'.getD i s0) = z) := ⟨_, ⟨rfl⟩⟩
          rw [Hz.out] at t5
          have HdS := Hid.mk (dn_step HRt.out (by rw [Hl.out]; exact hnm) HD.out (j := q1) (by omega) h1 Hp1.out Hlow.out)
          have HdE : Hid (z = false → Heap M' n) := ⟨fun hz => dn_stop HD.out (fun k k0 hk hp => shl_nt (rt_at HRt.out _) (rt_at HRt.out _) (rt_at HRt.out _) (Hlow.out k k0 hk hp) (by rw [← hz, ← Hz.out]; rfl))⟩
          rw [show At M' q1 = M'.getD q1 s0 from rfl, show At M' i = M'.getD i s0 from rfl, Hz.out] at HdS
          cases z with
          | false =>
            go_wp2_with fail
            refine t5.mono ?_
            rintro e w5 ⟨rfl, hg5⟩
            have HX5 := Hid.mk (HX1.out.gw hg5)
            have HG5 := Hid.mk (HG1.out.trans (Chg.ofBelow hg5.below))
            have HE := Hid.mk (HdE.out (by trivial))
            clear t5 hg5 m5
            go_wp2_with fail
            go_ret
            exact ⟨_, rfl, M', HX5.out, HP.out, HE.out, HF.out, HG5.out⟩
          | true =>
            go_wp2_with fail
            refine t5.mono ?_
            rintro e w5 ⟨rfl, hg5⟩
            have HX5 := Hid.mk (HX1.out.gw hg5)
            have HG5 := Hid.mk (HG1.out.trans (Chg.ofBelow hg5.below))
            have HS := Hid.mk (HdS.out (by trivial))
            clear t5 hg5 m5
            have m6 := finds_swap w5 b _ HX5.out.cell
            have t6 := swap72 HX5.out.own Hl.out hc (i := i) (j := q1) (by omega) (by omega)
            go_wp2_with fail
            refine t6.mono ?_
            rintro e w6 ⟨rfl, hO6, hG6⟩
            have HX6 : Hid (Box w6 b base (.slice (some ⟨g, 0, none⟩) m c) (swp M' i q1)) := ⟨⟨(hG6.block b HX5.out.lt (by simpa using Hbg.out)).trans HX5.out.box, hO6⟩⟩
            have HG6 := Hid.mk (HG5.out.trans hG6)
            have HP6 : Hid ((swp M' i q1).Perm M) := ⟨(swp_perm (by rw [Hl.out]; omega) (by rw [Hl.out]; omega)).trans HP.out⟩
            have HF6 : Hid (∀ k, n ≤ k → At (swp M' i q1) k = At M k) := ⟨fun k hk => by rw [swp_at (by rw [Hl.out]; omega) (by rw [Hl.out]; omega), if_neg (by omega), if_neg (by omega)]; exact HF.out k hk⟩
            clear t6 hO6 hG6 m6
            go_wp2_with fail
            go_roundg (n - q1)
            case measure => omega
            case rel => exact ⟨q1, swp M' i q1, by omega, Nat.le_refl _, rfl, HX6, HP6, HS, HF6, HG6⟩
      · have h2z : ¬ (q2 : Int) < (n : Int) := by omega
        have Hlow : Hid (∀ k, 0 < k → k < n → par k = i → shl (At M' k) (At M' q1) = false) := ⟨fun k k0 hk' hk => by
          rcases Hch.out k k0 hk with rfl | rfl
          · exact shl_irr (rt_at HRt.out _)
          · omega⟩
        go_upto_region 8 with fail
        have m5 := finds_less wo b _ HX.out.cell
        have t5 := less71 HX.out.own Hl.out hc HRt.out (i := q1) (j := i) (by omega) (by omega)
        obtain ⟨z, Hz⟩ : ∃ z, Hid (shl (M'.getD q1 s0) (M'.getD i s0) = z) := ⟨_, ⟨rfl⟩⟩
        rw [Hz.out] at t5
        have HdS := Hid.mk (dn_step HRt.out (by rw [Hl.out]; exact hnm) HD.out (j := q1) (by omega) h1 Hp1.out Hlow.out)
        have HdE : Hid (z = false → Heap M' n) := ⟨fun hz => dn_stop HD.out (fun k k0 hk hp => shl_nt (rt_at HRt.out _) (rt_at HRt.out _) (rt_at HRt.out _) (Hlow.out k k0 hk hp) (by rw [← hz, ← Hz.out]; rfl))⟩
        rw [show At M' q1 = M'.getD q1 s0 from rfl, show At M' i = M'.getD i s0 from rfl, Hz.out] at HdS
        cases z with
        | false =>
          go_wp2_with fail
          refine t5.mono ?_
          rintro e w5 ⟨rfl, hg5⟩
          have HX5 := Hid.mk (HX.out.gw hg5)
          have HG5 := Hid.mk (HG.out.trans (Chg.ofBelow hg5.below))
          have HE := Hid.mk (HdE.out (by trivial))
          clear t5 hg5 m5
          go_wp2_with fail
          go_ret
          exact ⟨_, rfl, M', HX5.out, HP.out, HE.out, HF.out, HG5.out⟩
        | true =>
          go_wp2_with fail
          refine t5.mono ?_
          rintro e w5 ⟨rfl, hg5⟩
          have HX5 := Hid.mk (HX.out.gw hg5)
          have HG5 := Hid.mk (HG.out.trans (Chg.ofBelow hg5.below))
          have HS := Hid.mk (HdS.out (by trivial))
          clear t5 hg5 m5
          have m6 := finds_swap w5 b _ HX5.out.cell
          have t6 := swap72 HX5.out.own Hl.out hc (i := i) (j := q1) (by omega) (by omega)
          go_wp2_with fail
          refine t6.mono ?_
          rintro e w6 ⟨rfl, hO6, hG6⟩
          have HX6 : Hid (Box w6 b base (.slice (some ⟨g, 0, none⟩) m c) (swp M' i q1)) := ⟨⟨(hG6.block b HX5.out.lt (by simpa using Hbg.out)).trans HX5.out.box, hO6⟩⟩
          have HG6 := Hid.mk (HG5.out.trans hG6)
          have HP6 : Hid ((swp M' i q1).Perm M) := ⟨(swp_perm (by rw [Hl.out]; omega) (by rw [Hl.out]; omega)).trans HP.out⟩
          have HF6 : Hid (∀ k, n ≤ k → At (swp M' i q1) k = At M k) := ⟨fun k hk => by rw [swp_at (by rw [Hl.out]; omega) (by rw [Hl.out]; omega), if_neg (by omega), if_neg (by omega)]; exact HF.out k hk⟩
          clear t6 hO6 hG6 m6
          go_wp2_with fail
          go_roundg (n - q1)
          case measure => omega
          case rel => exact ⟨q1, swp M' i q1, by omega, Nat.le_refl _, rfl, HX6, HP6, HS, HF6, HG6⟩
    · have h1z : (n : Int) ≤ (q1 : Int) := by omega
      have HE := Hid.mk (dn_stop HD.out (fun k k0 hk hp => by have := Hq1.out; unfold par at hp; omega))
      go_wp2_with fail
      go_ret
      exact ⟨_, rfl, M', HX.out, HP.out, HE.out, HF.out, HG.out⟩
end Go.Proofs.Ytjcojpddjhjhbaa
