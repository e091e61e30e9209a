/- A row of shares: Swap. -/
import Derived.Test.YtjcojpddjhjhbaaC2
import Derived.Test.YtjcojpddjhjhbaaP1
import Derived.BigRegion
import Derived.RegionTactic
namespace Go.Proofs.Ytjcojpddjhjhbaa
open Go.RowKit Go.Lib

theorem set_share {w : World} {base g n cap : Nat} {L : List Sh} (h : OwnE sh3 3 27 w base (.slice (some ⟨g, 0, none⟩) n cap) L) (hn : L.length = n) {k : Nat} (hk : k < n) (a b c : Int) :
    OwnE sh3 3 27 (((w.setCell ⟨g, k * 3, none⟩ (.int .i64 a)).setCell ⟨g, k * 3 + 1, none⟩ (.int .i64 b)).setCell ⟨g, k * 3 + 2, none⟩ (.int .i64 c)) base (.slice (some ⟨g, 0, none⟩) n cap) (L.set k (a, b, c)) := by
  have h0 := h.own
  rw [hn] at h0
  have h1 := own_setCell (own_setCell (own_setCell h0 (k * 3) (.int .i64 a)) (k * 3 + 1) (.int .i64 b)) (k * 3 + 2) (.int .i64 c)
  have hl : (fl sh3 L).length = n * 3 := h0.1
  have e : (((fl sh3 L).set (k * 3) (.int .i64 a)).set (k * 3 + 1) (.int .i64 b)).set (k * 3 + 2) (.int .i64 c) = fl sh3 (L.set k (a, b, c)) := by
    apply List.ext_getElem?
    intro p
    rw [fl_set sh3 3 s0 L (fun x hx => (h.each x hx).1) k (by omega) (a, b, c) rfl p, List.getElem?_set, List.getElem?_set, List.getElem?_set]
    simp only [List.length_set]
    by_cases h2 : p / 3 = k
    · rw [show (if p / 3 = k ∧ 0 < 3 then (sh3 (a, b, c))[p % 3]? else (fl sh3 L)[p]?) = (sh3 (a, b, c))[p % 3]? from if_pos ⟨h2, by omega⟩]
      have h3 : p % 3 = 0 ∨ p % 3 = 1 ∨ p % 3 = 2 := by omega
      rcases h3 with h3 | h3 | h3
      · have hp : k * 3 = p := by omega
        rw [if_neg (by omega), if_neg (by omega), if_pos hp, if_pos (by omega), h3]
        rfl
      · have hp : k * 3 + 1 = p := by omega
        rw [if_neg (by omega), if_pos hp, if_pos (by omega), h3]
        rfl
      · have hp : k * 3 + 2 = p := by omega
        rw [if_pos hp, if_pos (by omega), h3]
        rfl
    · rw [show (if p / 3 = k ∧ 0 < 3 then (sh3 (a, b, c))[p % 3]? else (fl sh3 L)[p]?) = (fl sh3 L)[p]? from if_neg (by omega), if_neg (by omega), if_neg (by omega), if_neg (by omega)]
  rw [e] at h1
  exact ⟨by rw [List.length_set, hn]; exact h1, fun x _ => sh3_one x⟩
section
variable {w : World}
set_option maxHeartbeats 8000000 in
set_option maxRecDepth 100000 in
theorem swap72 {base g n c : Nat} {L : List Sh} (h : OwnE sh3 3 27 w base (.slice (some ⟨g, 0, none⟩) n c) L) (hn : L.length = n) (hc : c ≤ maxLen) {i j : Nat} (hi : i < n) (hj : j < n) :
    Calls Try.prog 72 #[.slice (some ⟨g, 0, none⟩) n c, .int .i64 (i : Int), .int .i64 (j : Int)] w fun e w' => e = .returned (.tuple #[]) ∧ OwnE sh3 3 27 w' base (.slice (some ⟨g, 0, none⟩) n c) (swp L i j) ∧ Chg [g] w w' := by
  have H := Hid.mk h
  have Hn := Hid.mk hn
  have hi0 := own_cellE h s0 (j := 0) (i := i) (by omega) (by decide)
  have hi1 := own_cellE h s0 (j := 1) (i := i) (by omega) (by decide)
  have hi2 := own_cellE h s0 (j := 2) (i := i) (by omega) (by decide)
  have hj0 := own_cellE h s0 (j := 0) (i := j) (by omega) (by decide)
  have hj1 := own_cellE h s0 (j := 1) (i := j) (by omega) (by decide)
  have hj2 := own_cellE h s0 (j := 2) (i := j) (by omega) (by decide)
  unfold swp
  obtain ⟨⟨x1, x2, x3⟩, Hx⟩ : ∃ x, Hid (L.getD i s0 = x) := ⟨_, ⟨rfl⟩⟩
  obtain ⟨⟨y1, y2, y3⟩, Hy⟩ : ∃ x, Hid (L.getD j s0 = x) := ⟨_, ⟨rfl⟩⟩
  rw [Hx.out] at hi0 hi1 hi2 ⊢
  rw [Hy.out] at hj0 hj1 hj2 ⊢
  simp [sh3] at hi0 hi1 hi2 hj0 hj1 hj2
  obtain ⟨cur, hrow, _⟩ := own_rowE h
  have Hrow := Hid.mk hrow
  have hcx : c ≤ 9223372036854775807 := hc
  have hnc : n ≤ c := by have := (h.rd s0).shape; obtain ⟨a', c', e', h1, _⟩ := this; simp at e'; omega
  have hiz : (i : Int) < (n : Int) := by omega
  have hjz : (j : Int) < (n : Int) := by omega
  have f0 : w.frozen? ⟨g, i * 3, none⟩ = false := frozen_of_row w g _ _ 27 hrow
  have f1 : w.frozen? ⟨g, i * 3 + 1, none⟩ = false := frozen_of_row w g _ _ 27 hrow
  have f2 : w.frozen? ⟨g, i * 3 + 2, none⟩ = false := frozen_of_row w g _ _ 27 hrow
  have k0 : w.frozen? ⟨g, j * 3, none⟩ = false := frozen_of_row w g _ _ 27 hrow
  have k1 : w.frozen? ⟨g, j * 3 + 1, none⟩ = false := frozen_of_row w g _ _ 27 hrow
  have k2 : w.frozen? ⟨g, j * 3 + 2, none⟩ = false := frozen_of_row w g _ _ 27 hrow
  clear h hn hrow
  by_cases hij : i = j
  · subst hij
    have e := Hx.out.symm.trans Hy.out
    cases e
    clear k0 k1 k2 Hy
    go_enter Try.func72, Try.ntmps72
    go_upto_region 0 with fail
    go_region
    go_end0
    have h1 := set_share H.out Hn.out hi x1 x2 x3
    have h2 := set_share h1 (by rw [List.length_set]; exact Hn.out) hj x1 x2 x3
    refine ⟨rfl, h2.far (Chg.refl (X := []) _).drew (by simp), ?_⟩
    exact ((((((((Chg.refl [g] w).setCell (.inl (by simp)) _).setCell (.inl (by simp)) _).setCell (.inl (by simp)) _).setCell (.inl (by simp)) _).setCell (.inl (by simp)) _).setCell (.inl (by simp)) _).drew)
  · skip
    have n0 : ¬ i * 3 = j * 3 := by omega
    have m0 : ¬ j * 3 = i * 3 := by omega
    have n1 : ¬ i * 3 = j * 3 + 1 := by omega
    have m1 : ¬ j * 3 + 1 = i * 3 := by omega
    have n2 : ¬ i * 3 = j * 3 + 2 := by omega
    have m2 : ¬ j * 3 + 2 = i * 3 := by omega
    have n3 : ¬ i * 3 + 1 = j * 3 := by omega
    have m3 : ¬ j * 3 = i * 3 + 1 := by omega
    have n4 : ¬ i * 3 + 1 = j * 3 + 1 := by omega
    have m4 : ¬ j * 3 + 1 = i * 3 + 1 := by omega
    have n5 : ¬ i * 3 + 1 = j * 3 + 2 := by omega
    have m5 : ¬ j * 3 + 2 = i * 3 + 1 := by omega
    have n6 : ¬ i * 3 + 2 = j * 3 := by omega
    have m6 : ¬ j * 3 = i * 3 + 2 := by omega
    have n7 : ¬ i * 3 + 2 = j * 3 + 1 := by omega
    have m7 : ¬ j * 3 + 1 = i * 3 + 2 := by omega
    have n8 : ¬ i * 3 + 2 = j * 3 + 2 := by omega
    have m8 : ¬ j * 3 + 2 = i * 3 + 2 := by omega
    clear hij
    go_enter Try.func72, Try.ntmps72
    go_upto_region 0 with fail
    go_region
    go_end0
    have h1 := set_share H.out Hn.out hi y1 y2 y3
    have h2 := set_share h1 (by rw [List.length_set]; exact Hn.out) hj x1 x2 x3
    refine ⟨rfl, h2.far (Chg.refl (X := []) _).drew (by simp), ?_⟩
    exact ((((((((Chg.refl [g] w).setCell (.inl (by simp)) _).setCell (.inl (by simp)) _).setCell (.inl (by simp)) _).setCell (.inl (by simp)) _).setCell (.inl (by simp)) _).setCell (.inl (by simp)) _).drew)
end
end Go.Proofs.Ytjcojpddjhjhbaa
