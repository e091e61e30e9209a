/- A row of shares: Len, Less. -/
import Derived.Test.YtjcojpddjhjhbaaC1
import Derived.Test.YtjcojpddjhjhbaaMultiC
namespace Go.Proofs.Ytjcojpddjhjhbaa
open Go.RowKit Go.Lib

theorem elt_of {t : TypeId} (h : Try.prog.underlying t = some (.slice 27)) : Elt Try.prog t 27 3 24 := by
  have h1 : ((Try.prog.info? 27).map (fun i => (i.size, i.bytes, (i.zero.map (fun z => z.cells.size))))) = some (3, 24, some 3) := by kernel_rfl
  refine ⟨h, ?_, by decide⟩
  cases hi : Try.prog.info? 27 with
  | none => rw [hi] at h1; simp at h1
  | some i =>
    rw [hi] at h1
    simp at h1
    obtain ⟨h1, h2, z, h3, h4⟩ := h1
    exact ⟨i, z, rfl, h3, h1, h2, h4⟩
theorem eltS : Elt Try.prog 24 27 3 24 := elt_of Try.underlying24
theorem eltH : Elt Try.prog 56 27 3 24 := elt_of Try.underlying56
theorem Gw.cell {w w' : World} (h : Gw w w') {a : Addr} {v : Value} (hc : w.cell? a = some v) : w'.cell? a = some v := (h.below.cell (World.block_lt_of_cell? _ _ hc)).trans hc
section
variable {w : World}
theorem len70 (a : Option Addr) (n c : Nat) : Calls Try.prog 70 #[.slice a n c] w fun e w' => e = .returned (.int .i64 (n : Int)) ∧ w = w' := by
  go_enter Try.func70, Try.ntmps70
  go_wp2_with fail
  go_ret
  exact ⟨rfl, rfl⟩
set_option maxHeartbeats 8000000 in
set_option maxRecDepth 100000 in
theorem less71 {base g n c : Nat} {L : List Sh} (h : OwnE sh3 3 27 w base (.slice (some ⟨g, 0, none⟩) n c) L) (hn : L.length = n) (hc : c ≤ maxLen) (hr : ∀ s ∈ L, Rt s) {i j : Nat} (hi : i < n) (hj : j < n) :
    Calls Try.prog 71 #[.slice (some ⟨g, 0, none⟩) n c, .int .i64 (i : Int), .int .i64 (j : Int)] w fun e w' => e = .returned (.bool (shl (L.getD i s0) (L.getD j s0))) ∧ Gw w w' := by
  have hi0 := own_cellE h s0 (j := 0) (i := i) (by omega) (by decide)
  have hi1 := own_cellE h s0 (j := 1) (i := i) (by omega) (by decide)
  have hi2 := own_cellE h s0 (j := 2) (i := i) (by omega) (by decide)
  have hj0 := own_cellE h s0 (j := 0) (i := j) (by omega) (by decide)
  have hj1 := own_cellE h s0 (j := 1) (i := j) (by omega) (by decide)
  have hj2 := own_cellE h s0 (j := 2) (i := j) (by omega) (by decide)
  have t1 := fun (W : World) => compare_any (w := W) (L.getD i s0) (L.getD j s0) (hr _ (getD_mem' (by omega))) (hr _ (getD_mem' (by omega)))
  unfold shl
  obtain ⟨⟨x1, x2, x3⟩, Hx⟩ : ∃ x, Hid (L.getD i s0 = x) := ⟨_, ⟨rfl⟩⟩
  obtain ⟨⟨y1, y2, y3⟩, Hy⟩ : ∃ x, Hid (L.getD j s0 = x) := ⟨_, ⟨rfl⟩⟩
  rw [Hx.out] at hi0 hi1 hi2 t1 ⊢
  rw [Hy.out] at hj0 hj1 hj2 t1 ⊢
  obtain ⟨z, Hz⟩ : ∃ z, Hid (shc (x1, x2, x3) (y1, y2, y3) = z) := ⟨_, ⟨rfl⟩⟩
  rw [Hz.out] at t1 ⊢
  simp only [sh3, List.toArray] at t1
  simp [sh3] at hi0 hi1 hi2 hj0 hj1 hj2
  have HK : Hid (∀ w', Gw w w' → w'.cell? ⟨g, i * 3, none⟩ = some (.int .i64 x1) ∧ w'.cell? ⟨g, i * 3 + 1, none⟩ = some (.int .i64 x2) ∧ w'.cell? ⟨g, i * 3 + 2, none⟩ = some (.int .i64 x3) ∧ w'.cell? ⟨g, j * 3, none⟩ = some (.int .i64 y1) ∧ w'.cell? ⟨g, j * 3 + 1, none⟩ = some (.int .i64 y2) ∧ w'.cell? ⟨g, j * 3 + 2, none⟩ = some (.int .i64 y3)) := ⟨fun w' hw => ⟨hw.cell hi0, hw.cell hi1, hw.cell hi2, hw.cell hj0, hw.cell hj1, hw.cell hj2⟩⟩
  have hcx : c ≤ 9223372036854775807 := hc
  have hnc : n ≤ c := by have := (h.rd s0).shape; obtain ⟨a', c', e', h1, _⟩ := this; simp at e'; omega
  have hiz : (i : Int) < (n : Int) := by omega
  have hjz : (j : Int) < (n : Int) := by omega
  clear h hr hi0 hi1 hi2 hj0 hj1 hj2 Hx Hy hn
  go_enter Try.func71, Try.ntmps71
  go_upto_region 1 with fail
  refine wp_region_held_drew (S := fun w' => Gw w w') (by kernel_rfl) (Gw.drew w) (fun hS => ?_)
  refine wpAnyH_take (i := 0) (v := .slice (some ⟨g, 0, none⟩) n c) rfl (by kernel_rfl) (by kernel_rfl) (by kernel_rfl) (fun _ _ _ h => h) (Or.inl ⟨by kernel_rfl, fun _ _ => by kernel_rfl⟩) hS ?_
  refine wpAnyH_take (i := 1) (v := .int .i64 (i : Int)) rfl (by kernel_rfl) (by kernel_rfl) (by kernel_rfl) (fun _ _ _ h => h) (Or.inl ⟨by kernel_rfl, fun _ _ => by kernel_rfl⟩) hS ?_
  refine wpAnyH_take (i := 2) (v := .pointer (some ⟨g, i * 3, none⟩)) rfl (by kernel_rfl) (by kernel_rfl) (by kernel_rfl) (fun _ _ _ h => h) (Or.inl ⟨by kernel_rfl, fun wx hx => by go_simp⟩) hS ?_
  refine wpAnyH_take (i := 3) (v := .agg #[.int .i64 x1, .int .i64 x2, .int .i64 x3]) rfl (by kernel_rfl) (by kernel_rfl) (by kernel_rfl) (fun _ _ _ h => h) (Or.inl ⟨by kernel_rfl, fun wx hx => by have hx0 := HK.out wx hx; obtain ⟨hx1, hx2, hx3, hx4, hx5, hx6⟩ := hx0; go_simp⟩) hS ?_
  refine wpAnyH_take (i := 4) (v := .slice (some ⟨g, 0, none⟩) n c) rfl (by kernel_rfl) (by kernel_rfl) (by kernel_rfl) (fun _ _ _ h => h) (Or.inl ⟨by kernel_rfl, fun _ _ => by kernel_rfl⟩) hS ?_
  refine wpAnyH_take (i := 5) (v := .int .i64 (j : Int)) rfl (by kernel_rfl) (by kernel_rfl) (by kernel_rfl) (fun _ _ _ h => h) (Or.inl ⟨by kernel_rfl, fun _ _ => by kernel_rfl⟩) hS ?_
  refine wpAnyH_take (i := 6) (v := .pointer (some ⟨g, j * 3, none⟩)) rfl (by kernel_rfl) (by kernel_rfl) (by kernel_rfl) (fun _ _ _ h => h) (Or.inl ⟨by kernel_rfl, fun wx hx => by go_simp⟩) hS ?_
  refine wpAnyH_take (i := 7) (v := .agg #[.int .i64 y1, .int .i64 y2, .int .i64 y3]) rfl (by kernel_rfl) (by kernel_rfl) (by kernel_rfl) (fun _ _ _ h => h) (Or.inl ⟨by kernel_rfl, fun wx hx => by have hx0 := HK.out wx hx; obtain ⟨hx1, hx2, hx3, hx4, hx5, hx6⟩ := hx0; go_simp⟩) hS ?_
  refine wpAnyH_ready (rs := [8]) (by kernel_rfl) (by simp) (AllReadyH.cons rfl (fun Kc hK => ?_) AllReadyH.nil)
  go_simp
  refine (t1 _).mono ?_
  rintro e w5 ⟨rfl, hg5⟩
  refine hK.out _ _ (hS.trans hg5) (fun hS => ?_)
  clear hK
  refine wpAnyH_take (i := 9) (v := .bool (decide (z < 0))) rfl (by kernel_rfl) (by kernel_rfl) (by kernel_rfl) (fun _ _ _ h => h) (Or.inl ⟨by kernel_rfl, fun wx hx => by go_simp⟩) hS ?_
  refine wpAnyH_take (i := 10) (v := .bool (decide (z < 0))) rfl (by kernel_rfl) (by kernel_rfl) (by kernel_rfl) (fun _ _ _ h => h) (Or.inl ⟨by kernel_rfl, fun wx hx => by go_simp⟩) hS ?_
  have HS := Hid.mk hS
  clear hS
  refine wpAnyH_done (by kernel_rfl) ?_ _
  go_simp
  go_wp2_with fail
  go_ret
  exact ⟨rfl, HS.out⟩
end
end Go.Proofs.Ytjcojpddjhjhbaa
