/- A row of trees: Len, Less. -/
import Derived.Test.YtfecngncapenjaaH1
namespace Go.Proofs.Ytfecngncapenjaa
open Go.RowKit Go.Lib

theorem elt_of {t : TypeId} (h : Try.prog.underlying t = some (.slice 46)) : Elt Try.prog t 46 3 40 := by
  have h1 : ((Try.prog.info? 46).map (fun i => (i.size, i.bytes, (i.zero.map (fun z => z.cells.size))))) = some (3, 40, some 3) := by kernel_rfl
  refine ⟨h, ?_, by decide⟩
  cases hi : Try.prog.info? 46 with
  | none => rw [hi] at h1; simp at h1
  | some i =>
    rw [hi] at h1
    simp at h1
    obtain ⟨h1, h2, z, h3, h4⟩ := h1
    exact ⟨i, z, rfl, h3, h1, h2, h4⟩
theorem eltH : Elt Try.prog 43 46 3 40 := elt_of Try.underlying43
theorem Gw.cell {w w' : World} (h : Gw w w') {a : Addr} {v : Value} (hc : w.cell? a = some v) : w'.cell? a = some v := (h.below.cell (World.block_lt_of_cell? _ _ hc)).trans hc
section
variable {w : World}
theorem len72 (a : Option Addr) (n c : Nat) : Calls Try.prog 72 #[.slice a n c] w fun e w' => e = .returned (.int .i64 (n : Int)) ∧ w = w' := by
  go_enter Try.func72, Try.ntmps72
  go_wp2_with fail
  go_ret
  exact ⟨rfl, rfl⟩
set_option maxHeartbeats 8000000 in
set_option maxRecDepth 100000 in
theorem less73 {base g n c : Nat} {L : List Sh} (h : OwnE sh3 3 46 w base (.slice (some ⟨g, 0, none⟩) n c) L) (hn : L.length = n) (hc : c ≤ maxLen) {i j : Nat} (hi : i < n) (hj : j < n) :
    Calls Try.prog 73 #[.slice (some ⟨g, 0, none⟩) n c, .int .i64 (i : Int), .int .i64 (j : Int)] w fun e w' => e = .returned (.bool (shl (L.getD i s0) (L.getD j s0))) ∧ Gw w w' := by
  have hi0 := own_cellE h s0 (j := 0) (i := i) (by omega) (by decide)
  have hi1 := own_cellE h s0 (j := 1) (i := i) (by omega) (by decide)
  have hj0 := own_cellE h s0 (j := 0) (i := j) (by omega) (by decide)
  have hj1 := own_cellE h s0 (j := 1) (i := j) (by omega) (by decide)
  unfold shl
  obtain ⟨⟨x1, x2, x3⟩, Hx⟩ : ∃ x, Hid (L.getD i s0 = x) := ⟨_, ⟨rfl⟩⟩
  obtain ⟨⟨y1, y2, y3⟩, Hy⟩ : ∃ x, Hid (L.getD j s0 = x) := ⟨_, ⟨rfl⟩⟩
  rw [Hx.out] at hi0 hi1 ⊢
  rw [Hy.out] at hj0 hj1 ⊢
  simp [sh3] at hi0 hi1 hj0 hj1
  have HK : Hid (∀ w', Gw w w' → w'.cell? ⟨g, i * 3, none⟩ = some (.int .i64 x1) ∧ w'.cell? ⟨g, i * 3 + 1, none⟩ = some (.int .u8 x2) ∧ w'.cell? ⟨g, j * 3, none⟩ = some (.int .i64 y1) ∧ w'.cell? ⟨g, j * 3 + 1, none⟩ = some (.int .u8 y2)) := ⟨fun w' h => ⟨h.cell hi0, h.cell hi1, h.cell hj0, h.cell hj1⟩⟩
  have A1 : ∀ (W : World), Calls Try.prog 76 #[.int .i64 x1, .int .i64 y1] W fun e w' => e = .returned (.int .i64 (cmpI x1 y1)) ∧ w' = W := fun W => cmp_q _ _
  have A2 : ∀ (W : World), Calls Try.prog 77 #[.int .u8 x2, .int .u8 y2] W fun e w' => e = .returned (.int .i64 (cmpI x2 y2)) ∧ w' = W := fun W => cmp_q8 _ _
  simp only
  rw [← cmp_shl x1 x2 y1 y2]
  generalize cmpI x1 y1 = c1 at A1 ⊢
  generalize cmpI x2 y2 = c2 at A2 ⊢
  obtain ⟨z, Hz⟩ : ∃ z, Hid ((if c1 = 0 then c2 else c1) = z) := ⟨_, ⟨rfl⟩⟩
  rw [Hz.out]
  have hcx : c ≤ 9223372036854775807 := hc
  have hnc : n ≤ c := by have := (h.rd s0).shape; obtain ⟨a', c', e', h1, _⟩ := this; simp at e'; omega
  have hiz : (i : Int) < (n : Int) := by omega
  have hjz : (j : Int) < (n : Int) := by omega
  clear h hn hi0 hi1 hj0 hj1 Hx Hy hc
  go_enter Try.func73, Try.ntmps73
  go_upto_region 1 with fail
  refine wp_region_held_drew (S := fun w' => Gw w w') (by kernel_rfl) (Gw.drew w) (fun hS => ?_)
  refine wpAnyH_take (i := 0) (v := .slice (some ⟨g, 0, none⟩) n c) rfl (by kernel_rfl) (by kernel_rfl) (by kernel_rfl) (fun _ _ _ h => h) (Or.inl ⟨by kernel_rfl, fun _ _ => by kernel_rfl⟩) hS ?_
  refine wpAnyH_take (i := 1) (v := .int .i64 (i : Int)) rfl (by kernel_rfl) (by kernel_rfl) (by kernel_rfl) (fun _ _ _ h => h) (Or.inl ⟨by kernel_rfl, fun _ _ => by kernel_rfl⟩) hS ?_
  refine wpAnyH_take (i := 2) (v := .pointer (some ⟨g, i * 3, none⟩)) rfl (by kernel_rfl) (by kernel_rfl) (by kernel_rfl) (fun _ _ _ h => h) (Or.inl ⟨by kernel_rfl, fun wx hx => by go_simp⟩) hS ?_
  refine wpAnyH_take (i := 3) (v := .pointer (some ⟨g, i * 3, none⟩)) rfl (by kernel_rfl) (by kernel_rfl) (by kernel_rfl) (fun _ _ _ h => h) (Or.inl ⟨by kernel_rfl, fun wx hx => by go_simp⟩) hS ?_
  refine wpAnyH_take (i := 4) (v := .int .i64 x1) rfl (by kernel_rfl) (by kernel_rfl) (by kernel_rfl) (fun _ _ _ h => h) (Or.inl ⟨by kernel_rfl, fun wx hx => by have hx0 := HK.out wx hx; obtain ⟨hx1, hx2, hx3, hx4⟩ := hx0; go_simp⟩) hS ?_
  refine wpAnyH_take (i := 5) (v := .slice (some ⟨g, 0, none⟩) n c) rfl (by kernel_rfl) (by kernel_rfl) (by kernel_rfl) (fun _ _ _ h => h) (Or.inl ⟨by kernel_rfl, fun _ _ => by kernel_rfl⟩) hS ?_
  refine wpAnyH_take (i := 6) (v := .int .i64 (j : Int)) rfl (by kernel_rfl) (by kernel_rfl) (by kernel_rfl) (fun _ _ _ h => h) (Or.inl ⟨by kernel_rfl, fun _ _ => by kernel_rfl⟩) hS ?_
  refine wpAnyH_take (i := 7) (v := .pointer (some ⟨g, j * 3, none⟩)) rfl (by kernel_rfl) (by kernel_rfl) (by kernel_rfl) (fun _ _ _ h => h) (Or.inl ⟨by kernel_rfl, fun wx hx => by go_simp⟩) hS ?_
  refine wpAnyH_take (i := 8) (v := .pointer (some ⟨g, j * 3, none⟩)) rfl (by kernel_rfl) (by kernel_rfl) (by kernel_rfl) (fun _ _ _ h => h) (Or.inl ⟨by kernel_rfl, fun wx hx => by go_simp⟩) hS ?_
  refine wpAnyH_take (i := 9) (v := .int .i64 y1) rfl (by kernel_rfl) (by kernel_rfl) (by kernel_rfl) (fun _ _ _ h => h) (Or.inl ⟨by kernel_rfl, fun wx hx => by have hx0 := HK.out wx hx; obtain ⟨hx1, hx2, hx3, hx4⟩ := hx0; go_simp⟩) hS ?_
  refine wpAnyH_take (i := 11) (v := .slice (some ⟨g, 0, none⟩) n c) rfl (by kernel_rfl) (by kernel_rfl) (by kernel_rfl) (fun _ _ _ h => h) (Or.inl ⟨by kernel_rfl, fun _ _ => by kernel_rfl⟩) hS ?_
  refine wpAnyH_take (i := 12) (v := .int .i64 (i : Int)) rfl (by kernel_rfl) (by kernel_rfl) (by kernel_rfl) (fun _ _ _ h => h) (Or.inl ⟨by kernel_rfl, fun _ _ => by kernel_rfl⟩) hS ?_
  refine wpAnyH_take (i := 13) (v := .pointer (some ⟨g, i * 3, none⟩)) rfl (by kernel_rfl) (by kernel_rfl) (by kernel_rfl) (fun _ _ _ h => h) (Or.inl ⟨by kernel_rfl, fun wx hx => by go_simp⟩) hS ?_
  refine wpAnyH_take (i := 14) (v := .pointer (some ⟨g, i * 3 + 1, none⟩)) rfl (by kernel_rfl) (by kernel_rfl) (by kernel_rfl) (fun _ _ _ h => h) (Or.inl ⟨by kernel_rfl, fun wx hx => by go_simp⟩) hS ?_
  refine wpAnyH_take (i := 15) (v := .int .u8 x2) rfl (by kernel_rfl) (by kernel_rfl) (by kernel_rfl) (fun _ _ _ h => h) (Or.inl ⟨by kernel_rfl, fun wx hx => by have hx0 := HK.out wx hx; obtain ⟨hx1, hx2, hx3, hx4⟩ := hx0; go_simp⟩) hS ?_
  refine wpAnyH_take (i := 16) (v := .slice (some ⟨g, 0, none⟩) n c) rfl (by kernel_rfl) (by kernel_rfl) (by kernel_rfl) (fun _ _ _ h => h) (Or.inl ⟨by kernel_rfl, fun _ _ => by kernel_rfl⟩) hS ?_
  refine wpAnyH_take (i := 17) (v := .int .i64 (j : Int)) rfl (by kernel_rfl) (by kernel_rfl) (by kernel_rfl) (fun _ _ _ h => h) (Or.inl ⟨by kernel_rfl, fun _ _ => by kernel_rfl⟩) hS ?_
  refine wpAnyH_take (i := 18) (v := .pointer (some ⟨g, j * 3, none⟩)) rfl (by kernel_rfl) (by kernel_rfl) (by kernel_rfl) (fun _ _ _ h => h) (Or.inl ⟨by kernel_rfl, fun wx hx => by go_simp⟩) hS ?_
  refine wpAnyH_take (i := 19) (v := .pointer (some ⟨g, j * 3 + 1, none⟩)) rfl (by kernel_rfl) (by kernel_rfl) (by kernel_rfl) (fun _ _ _ h => h) (Or.inl ⟨by kernel_rfl, fun wx hx => by go_simp⟩) hS ?_
  refine wpAnyH_take (i := 20) (v := .int .u8 y2) rfl (by kernel_rfl) (by kernel_rfl) (by kernel_rfl) (fun _ _ _ h => h) (Or.inl ⟨by kernel_rfl, fun wx hx => by have hx0 := HK.out wx hx; obtain ⟨hx1, hx2, hx3, hx4⟩ := hx0; go_simp⟩) hS ?_
  refine wpAnyH_ready (rs := [10]) (by kernel_rfl) (by simp) (AllReadyH.cons rfl (fun Kc hK => ?_) AllReadyH.nil)
  go_simp
  refine (A1 _).mono ?_
  rintro e w5 ⟨rfl, rfl⟩
  refine hK.out _ _ hS (fun hS => ?_)
  clear hK
  refine wpAnyH_ready (rs := [21]) (by kernel_rfl) (by simp) (AllReadyH.cons rfl (fun Kc hK => ?_) AllReadyH.nil)
  go_simp
  refine (A2 _).mono ?_
  rintro e w6 ⟨rfl, rfl⟩
  refine hK.out _ _ hS (fun hS => ?_)
  clear hK
  refine wpAnyH_ready (rs := [22]) (by kernel_rfl) (by simp) (AllReadyH.cons rfl (fun Kc hK => ?_) AllReadyH.nil)
  go_simp
  obtain ⟨V, HV⟩ : ∃ x, Hid ((w.alloc (.cells #[.int .i64 c1, .int .i64 c2] 3)).drew = x) := ⟨_, ⟨rfl⟩⟩
  rw [HV.out]
  have HGV : Hid (Gw w V) := ⟨by rw [← HV.out]; exact (Gw.alloc _ _).trans (Gw.drew _)⟩
  have HVr : Hid (V.heap[w.heap.size]? = some (.cells #[.int .i64 c1, .int .i64 c2] 3 (0, 0))) := ⟨by rw [← HV.out]; exact heap_alloc_new w _⟩
  have A51 := or_q (w := V) w.heap.size c1 c2 (by rw [cell_of_row _ _ _ _ _ _ HVr.out]; rfl) (by rw [cell_of_row _ _ _ _ _ _ HVr.out]; rfl)
  rw [Hz.out] at A51
  refine hK.out _ _ HGV.out (fun hS => ?_)
  clear hK
  refine wpAnyH_ready (rs := [23]) (by kernel_rfl) (by simp) (AllReadyH.cons rfl (fun Kc hK => ?_) AllReadyH.nil)
  go_simp
  refine A51.mono ?_
  rintro e w7 ⟨rfl, rfl⟩
  refine hK.out _ _ hS (fun hS => ?_)
  clear hK
  refine wpAnyH_take (i := 24) (v := .bool (decide (z < 0))) rfl (by kernel_rfl) (by kernel_rfl) (by kernel_rfl) (fun _ _ _ h => h) (Or.inl ⟨by kernel_rfl, fun wx hx => by go_simp⟩) hS ?_
  refine wpAnyH_take (i := 25) (v := .bool (decide (z < 0))) rfl (by kernel_rfl) (by kernel_rfl) (by kernel_rfl) (fun _ _ _ h => h) (Or.inl ⟨by kernel_rfl, fun wx hx => by go_simp⟩) hS ?_
  refine wpAnyH_done (by kernel_rfl) ?_ _
  go_simp
  go_wp2_with fail
  go_ret
  exact ⟨rfl, HGV.out⟩
end
end Go.Proofs.Ytfecngncapenjaa
