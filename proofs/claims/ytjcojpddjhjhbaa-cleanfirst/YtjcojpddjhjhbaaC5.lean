/- container/heap.up over a row of shares. -/
import Derived.Test.YtjcojpddjhjhbaaC4
namespace Go.Proofs.Ytjcojpddjhjhbaa
open Go.RowKit Go.Lib Go.Shelf

theorem quo_par {j : Nat} (h : 0 < j) : ((j : Int) - 1).tdiv 2 = ((par j : Nat) : Int) := by
  obtain ⟨k, rfl⟩ : ∃ k, j = k + 1 := ⟨j - 1, by omega⟩
  have e : ((k + 1 : Nat) : Int) - 1 = (k : Int) := by omega
  rw [e]
  unfold par
  rw [Nat.add_sub_cancel]
  exact (Int.ofNat_tdiv k 2).symm
set_option maxHeartbeats 4000000 in
set_option maxRecDepth 100000 in
theorem up30 {w : World} {base b g n c : Nat} {M : List Sh} (h : Box w b base (.slice (some ⟨g, 0, none⟩) n c) M) (hn : M.length = n) (hc : c ≤ maxLen) (hr : AllRt M) {j : Nat} (hj : j < n) (hu : HUp M n j) (hbg : b ≠ g) :
    Calls Try.prog 30 #[.iface 59 (.pointer (some ⟨b, 0, none⟩)), .int .i64 (j : Int)] w fun e w' => e = .returned (.tuple #[]) ∧ ∃ M', Box w' b base (.slice (some ⟨g, 0, none⟩) n c) M' ∧ M'.Perm M ∧ Heap M' n ∧ Chg [g] w w' := by
  have e71 := eg71
  have e72 := eg72
  have HX := Hid.mk h
  have Hn := Hid.mk hn
  have HR := Hid.mk hr
  have HU := Hid.mk hu
  have Hbg := Hid.mk hbg
  have hcx : c ≤ 9223372036854775807 := hc
  have hnc : n ≤ c := by have := (h.own.rd s0).shape; obtain ⟨a', c', e', h1, _⟩ := this; simp at e'; omega
  clear h hn hr hu hbg
  go_enter Try.func30, Try.ntmps30
  go_wp2_with fail
  go_loopg [1, 4] n (fun gg s1 _ wr => ∃ i : Nat, ∃ M' : List Sh, i < n ∧ i ≤ gg ∧ s1 = .int .i64 (i : Int) ∧ Hid (Box wr b base (.slice (some ⟨g, 0, none⟩) n c) M') ∧ Hid (M'.Perm M) ∧ Hid (HUp M' n i) ∧ Hid (Chg [g] w wr))
  case atStart => exact ⟨j, M, hj, by omega, rfl, HX, ⟨List.Perm.refl _⟩, HU, ⟨Chg.refl _ _⟩⟩
  case round =>
    clear HX HU
    obtain ⟨i, M', hi, hgg, rfl, HX, HP, HU, HG⟩ := hrel
    rename World => wo
    have Hl : Hid (M'.length = n) := ⟨by rw [HP.out.length_eq, Hn.out]⟩
    have HRt : Hid (AllRt M') := ⟨fun s hs => HR.out s (HP.out.mem_iff.1 hs)⟩
    by_cases h0 : i = 0
    · subst h0
      go_wp2_with fail
      go_end0
      exact ⟨rfl, M', HX.out, HP.out, up_stop HU.out (.inl rfl), HG.out⟩
    · have h1 : 0 < i := by omega
      have hq := quo_par h1
      have hpi : par i < i := by unfold par; omega
      obtain ⟨p, Hp⟩ : ∃ p, Hid (par i = p) := ⟨_, ⟨rfl⟩⟩
      rw [Hp.out] at hq hpi
      have hpn : p < n := by omega
      have hne : ((p : Int) == (i : Int)) = false := by simp; omega
      have m1 := finds_less wo b _ HX.out.cell
      have t1 := less71 HX.out.own Hl.out hc HRt.out hi hpn
      obtain ⟨z, Hz⟩ : ∃ z, Hid (shl (M'.getD i s0) (M'.getD p s0) = z) := ⟨_, ⟨rfl⟩⟩
      rw [Hz.out] at t1
      have HuS := Hid.mk (up_step HRt.out (by rw [Hl.out]; exact HU.out) h1 (by rw [Hl.out]; exact hi))
      have HuE := Hid.mk (fun hz => up_stop HU.out (.inr hz))
      rw [Hp.out, show At M' i = M'.getD i s0 from rfl, show At M' p = M'.getD p s0 from rfl, Hz.out, Hl.out] at HuS
      rw [Hp.out, show At M' i = M'.getD i s0 from rfl, show At M' p = M'.getD p s0 from rfl, Hz.out] at HuE
      cases z with
      | false =>
        go_wp2_with fail
        refine t1.mono ?_
        rintro e w1 ⟨rfl, hg1⟩
        have HG1 := Hid.mk hg1
        clear t1 hg1 m1
        go_wp2_with fail
        go_end0
        exact ⟨rfl, M', HX.out.gw HG1.out, HP.out, HuE.out (by trivial), HG.out.trans (Chg.ofBelow HG1.out.below)⟩
      | true =>
        go_wp2_with fail
        refine t1.mono ?_
        rintro e w1 ⟨rfl, hg1⟩
        have HX1 := Hid.mk (HX.out.gw hg1)
        have HG1 := Hid.mk (HG.out.trans (Chg.ofBelow hg1.below))
        clear t1 hg1 m1
        have m2 := finds_swap w1 b _ HX1.out.cell
        have t2 := swap72 HX1.out.own Hl.out hc hpn hi
        go_wp2_with fail
        refine t2.mono ?_
        rintro e w2 ⟨rfl, hO2, hG2⟩
        have HX2 : Hid (Box w2 b base (.slice (some ⟨g, 0, none⟩) n c) (swp M' p i)) := ⟨⟨(hG2.block b HX1.out.lt (by simpa using Hbg.out)).trans HX1.out.box, hO2⟩⟩
        have HG2 := Hid.mk (HG1.out.trans hG2)
        have HP2 : Hid ((swp M' p i).Perm M) := ⟨(swp_perm (by rw [Hl.out]; exact hpn) (by rw [Hl.out]; exact hi)).trans HP.out⟩
        clear t2 hO2 hG2 m2
        go_wp2_with fail
        go_roundg p
        case measure => omega
        case rel => exact ⟨p, swp M' p i, hpn, Nat.le_refl _, rfl, HX2, HP2, ⟨HuS.out (by trivial)⟩, HG2⟩
end Go.Proofs.Ytjcojpddjhjhbaa
