/- The walk of GearCuts. -/
import Derived.Test.YtngeefipeghjiaaL2
import Derived.Test.YtngeefipeghjiaaR5
namespace Go.Proofs.Ytngeefipeghjiaa
open Go.RowKit

theorem bs_small {w : World} {a : Option Addr} {n cap : Nat} {ps : List Int} (h : Bs w (.slice a n cap) ps) : Bs w (.slice a (min n 3000) cap) (ps.take 3000) := by
  have hn : ps.length = n := by obtain ⟨_, _, e, _⟩ := h; simp at e; exact e.2.1.symm
  by_cases q : n ≤ 3000
  · rw [Nat.min_eq_left q, List.take_of_length_le (by omega)]; exact h
  · rw [Nat.min_eq_right (by omega)]; exact h.take (by omega)
theorem allL_len (E : List Int → Bool) (ps : List Int) : (allL E ps).length ≤ ps.length + 1 := by
  have := feed_len E ps []
  unfold allL more
  split
  · omega
  · simp; omega
theorem empty_rows (w : World) (S : Nat → Prop) : RowsB w S (.slice none 0 0) [] := (OwnR.nil w S 0).rows
set_option maxHeartbeats 4000000 in
set_option maxRecDepth 100000 in
theorem walk_gearCuts (v : Value) (b : Int × Int × Int) (seed : Int) (pv : Value) (ps : List Int) (w : World) (hv : CutV v b) (hw : (Lit.int .u64 seed).wf = true) (hp : Bs w pv ps) : Calls Try.prog 4 #[v, .int .u64 seed, pv] w fun e w' => e = .returned (.bool true) ∧ Below w.heap.size w w' := by
  obtain ⟨h0, h1⟩ := u64_rng hw
  clear hw
  obtain ⟨mn, av, mx⟩ := b
  unfold CutV at hv
  subst hv
  simp only
  obtain ⟨w1, HW1⟩ : ∃ w1, Hid (w.alloc (.cells #[.int .i64 mn, .int .i64 av, .int .i64 mx] 24) = w1) := ⟨_, ⟨rfl⟩⟩
  have Hb : Hid (Below w.heap.size w w1) := ⟨by rw [← HW1.out]; exact (Below.refl _ w).alloc (Nat.le_refl _) _⟩
  have Hx : Hid (w1.heap[w.heap.size]? = some (.cells #[.int .i64 mn, .int .i64 av, .int .i64 mx] 24 (0, 0))) := ⟨by rw [← HW1.out]; exact heap_alloc_new w _⟩
  have Hsz : Hid (w1.heap.size = w.heap.size + 1) := ⟨by rw [← HW1.out]; simp⟩
  have hp' := hp
  obtain ⟨ao, cap, rfl, hpl, _⟩ := hp'
  have hsm := bs_small hp
  obtain ⟨n, Hn⟩ : ∃ n, Hid (min ps.length 3000 = n) := ⟨_, ⟨rfl⟩⟩
  obtain ⟨ps2, Hps⟩ : ∃ ps2, Hid (ps.take 3000 = ps2) := ⟨_, ⟨rfl⟩⟩
  rw [Hn.out, Hps.out] at hsm
  have hps : ps2.length ≤ 1000000000000 := by rw [← Hps.out]; have := List.length_take_le 3000 ps; omega
  have HP : Hid (Bs w1 (.slice ao n cap) ps2) := ⟨hsm.below Hb.out⟩
  have t := small_any ao ps.length cap hpl w1
  rw [Hn.out] at t
  clear hp hsm
  go_enter Try.func4, Try.ntmps4
  go_upto_region 1 with fail
  rw [HW1.out]
  go_upto_region 2 with (go_at_call 14; refine t.mono ?_; rintro e w1' ⟨rfl, rfl⟩)
  obtain ⟨B, HBB⟩ : ∃ B, Hid (w.heap.size = B) := ⟨_, ⟨rfl⟩⟩
  rw [HBB.out] at Hx Hsz Hb ⊢
  have hSS : ∀ w', Below (B + 1) w1 w' → w'.cell? ⟨B, 0, none⟩ = some (.int .i64 mn) ∧ w'.cell? ⟨B, 1, none⟩ = some (.int .i64 av) ∧ w'.cell? ⟨B, 2, none⟩ = some (.int .i64 mx) := fun w' hb' => by
    have hy := (hb'.block B (by omega)).trans Hx.out
    refine ⟨?_, ?_, ?_⟩
    · rw [cell_of_row _ _ _ _ _ _ hy]; rfl
    · rw [cell_of_row _ _ _ _ _ _ hy]; rfl
    · rw [cell_of_row _ _ _ _ _ _ hy]; rfl
  have Hw1 : Hid (Below (B + 1) w1 w1) := ⟨Below.refl _ _⟩
  obtain ⟨L, HL⟩ : ∃ L, Hid (allL (endB mn av mx (tabV seed)) ps2 = L) := ⟨_, ⟨rfl⟩⟩
  by_cases hok : okC mn av mx
  · obtain ⟨nn, HNN⟩ : ∃ nn, Hid ((allL (endB mn av mx (tabV seed)) ps2).length = nn) := ⟨_, ⟨rfl⟩⟩
    go_wp2_with fail
    refine wp_region_held_drew (S := (fun w' => w'.cell? ⟨B, 0, none⟩ = some (.int .i64 mn) ∧ w'.cell? ⟨B, 1, none⟩ = some (.int .i64 av) ∧ w'.cell? ⟨B, 2, none⟩ = some (.int .i64 mx))) (by kernel_rfl) (hSS w1.drew Hw1.out.drew) (fun hS => ?_)
    refine wpAnyH_take (i := 0) (v := .agg #[.int .i64 mn, .int .i64 av, .int .i64 mx]) rfl (by kernel_rfl) (by kernel_rfl) (by kernel_rfl) (fun _ _ _ h => h) (Or.inl ⟨by kernel_rfl, fun wx hx => by obtain ⟨hx0, hx1, hx2⟩ := hx; go_simp⟩) hS ?_
    refine wpAnyH_take (i := 1) (v := .int .u64 seed) rfl (by kernel_rfl) (by kernel_rfl) (by kernel_rfl) (fun _ _ _ h => h) (Or.inl ⟨by kernel_rfl, fun _ _ => by kernel_rfl⟩) hS ?_
    refine wpAnyH_take (i := 3) (v := .slice ao n cap) rfl (by kernel_rfl) (by kernel_rfl) (by kernel_rfl) (fun _ _ _ h => h) (Or.inl ⟨by kernel_rfl, fun _ _ => by kernel_rfl⟩) hS ?_
    refine wpAnyH_ready (rs := [2]) (by kernel_rfl) (by simp) (AllReadyH.cons rfl (fun Kc hK => ?_) AllReadyH.nil)
    go_simp
    refine (rtable_any seed _).mono ?_
    rintro e w2 ⟨ta, rfl, hta, hb⟩
    have Hw2 : Hid (Below (B + 1) w1 w2) := ⟨Hw1.out.drew.trans (hb.mono (by have := Hw1.out.size; have := Hsz.out; show B + 1 ≤ w1.heap.size; omega))⟩
    have HGw2 : Hid (Below w1.heap.size w1 w2) := ⟨(Below.refl _ w1).drew.trans hb⟩
    clear hb
    go_simp
    refine hK.out _ _ (hSS w2 Hw2.out) (fun hS => ?_)
    clear hK
    refine wpAnyH_ready (rs := [4]) (by kernel_rfl) (by simp) (AllReadyH.cons rfl (fun Kc hK => ?_) AllReadyH.nil)
    go_simp
    refine (all_any hok ta _ hta (.slice ao n cap) ps2 (HP.out.below (Hw2.out.mono (by rw [Hsz.out]; exact Nat.le_refl _))) hps).mono ?_
    rintro e w3 ⟨rv1, rfl, hO1, hOB1, hb⟩
    have Hw3 : Hid (Below (B + 1) w1 w3) := ⟨Hw2.out.trans (hb.mono (by have := Hw2.out.size; have := Hsz.out; omega))⟩
    have HGw3 : Hid (Below w2.heap.size w2 w3) := ⟨hb⟩
    have HO1 := Hid.mk hO1
    obtain ⟨a1, c1, rfl, hc1, _⟩ := hO1.rows.shape
    clear hO1 hb hOB1
    rw [HNN.out] at HO1 hc1 ⊢
    go_simp
    refine hK.out _ _ (hSS w3 Hw3.out) (fun hS => ?_)
    clear hK
    refine wpAnyH_take (i := 5) (v := .tuple #[.slice a1 nn c1, .int .i64 0]) rfl (by kernel_rfl) (by kernel_rfl) (by kernel_rfl) (fun _ _ _ h => h) (Or.inl ⟨by kernel_rfl, fun _ _ => by kernel_rfl⟩) hS ?_
    refine wpAnyH_take (i := 6) (v := .slice a1 nn c1) rfl (by kernel_rfl) (by kernel_rfl) (by kernel_rfl) (fun _ _ _ h => h) (Or.inl ⟨by kernel_rfl, fun _ _ => by kernel_rfl⟩) hS ?_
    refine wpAnyH_take (i := 7) (v := .int .i64 0) rfl (by kernel_rfl) (by kernel_rfl) (by kernel_rfl) (fun _ _ _ h => h) (Or.inl ⟨by kernel_rfl, fun _ _ => by kernel_rfl⟩) hS ?_
    refine wpAnyH_take (i := 8) (v := .slice a1 nn c1) rfl (by kernel_rfl) (by kernel_rfl) (by kernel_rfl) (fun _ _ _ h => h) (Or.inl ⟨by kernel_rfl, fun _ _ => by kernel_rfl⟩) hS ?_
    refine wpAnyH_take (i := 9) (v := .int .i64 0) rfl (by kernel_rfl) (by kernel_rfl) (by kernel_rfl) (fun _ _ _ h => h) (Or.inl ⟨by kernel_rfl, fun _ _ => by kernel_rfl⟩) hS ?_
    refine wpAnyH_done (by kernel_rfl) ?_ _
    clear hS
    go_simp
    go_wp2_with fail
    refine wp_region_held_drew (S := (fun w' => w'.cell? ⟨B, 0, none⟩ = some (.int .i64 mn) ∧ w'.cell? ⟨B, 1, none⟩ = some (.int .i64 av) ∧ w'.cell? ⟨B, 2, none⟩ = some (.int .i64 mx))) (by kernel_rfl) (hSS w3.drew Hw3.out.drew) (fun hS => ?_)
    refine wpAnyH_take (i := 0) (v := .agg #[.int .i64 mn, .int .i64 av, .int .i64 mx]) rfl (by kernel_rfl) (by kernel_rfl) (by kernel_rfl) (fun _ _ _ h => h) (Or.inl ⟨by kernel_rfl, fun wx hx => by obtain ⟨hx0, hx1, hx2⟩ := hx; go_simp⟩) hS ?_
    refine wpAnyH_take (i := 1) (v := .int .u64 seed) rfl (by kernel_rfl) (by kernel_rfl) (by kernel_rfl) (fun _ _ _ h => h) (Or.inl ⟨by kernel_rfl, fun _ _ => by kernel_rfl⟩) hS ?_
    refine wpAnyH_take (i := 3) (v := .slice ao n cap) rfl (by kernel_rfl) (by kernel_rfl) (by kernel_rfl) (fun _ _ _ h => h) (Or.inl ⟨by kernel_rfl, fun _ _ => by kernel_rfl⟩) hS ?_
    refine wpAnyH_ready (rs := [2]) (by kernel_rfl) (by simp) (AllReadyH.cons rfl (fun Kc hK => ?_) AllReadyH.nil)
    go_simp
    refine (rtable_any seed _).mono ?_
    rintro e w4 ⟨tb, rfl, htb, hb⟩
    have Hw4 : Hid (Below (B + 1) w1 w4) := ⟨Hw3.out.drew.trans (hb.mono (by have := Hw3.out.size; have := Hsz.out; show B + 1 ≤ w3.heap.size; omega))⟩
    have HGw4 : Hid (Below w3.heap.size w3 w4) := ⟨(Below.refl _ w3).drew.trans hb⟩
    clear hb
    go_simp
    refine hK.out _ _ (hSS w4 Hw4.out) (fun hS => ?_)
    clear hK
    refine wpAnyH_ready (rs := [4]) (by kernel_rfl) (by simp) (AllReadyH.cons rfl (fun Kc hK => ?_) AllReadyH.nil)
    go_simp
    refine (rall_any hok tb _ htb (.slice ao n cap) ps2 (HP.out.below (Hw4.out.mono (by rw [Hsz.out]; exact Nat.le_refl _))) hps).mono ?_
    rintro e w5 ⟨rv2, rfl, hO2, hOB2, hb⟩
    have Hw5 : Hid (Below (B + 1) w1 w5) := ⟨Hw4.out.trans (hb.mono (by have := Hw4.out.size; have := Hsz.out; omega))⟩
    have HGw5 : Hid (Below w4.heap.size w4 w5) := ⟨hb⟩
    have HO2 := Hid.mk hO2
    obtain ⟨a2, c2, rfl, hc2, _⟩ := hO2.rows.shape
    clear hO2 hb hOB2
    rw [HNN.out] at HO2 hc2 ⊢
    go_simp
    refine hK.out _ _ (hSS w5 Hw5.out) (fun hS => ?_)
    clear hK
    refine wpAnyH_take (i := 5) (v := .tuple #[.slice a2 nn c2, .int .i64 0]) rfl (by kernel_rfl) (by kernel_rfl) (by kernel_rfl) (fun _ _ _ h => h) (Or.inl ⟨by kernel_rfl, fun _ _ => by kernel_rfl⟩) hS ?_
    refine wpAnyH_take (i := 6) (v := .slice a2 nn c2) rfl (by kernel_rfl) (by kernel_rfl) (by kernel_rfl) (fun _ _ _ h => h) (Or.inl ⟨by kernel_rfl, fun _ _ => by kernel_rfl⟩) hS ?_
    refine wpAnyH_take (i := 7) (v := .int .i64 0) rfl (by kernel_rfl) (by kernel_rfl) (by kernel_rfl) (fun _ _ _ h => h) (Or.inl ⟨by kernel_rfl, fun _ _ => by kernel_rfl⟩) hS ?_
    refine wpAnyH_take (i := 8) (v := .slice a2 nn c2) rfl (by kernel_rfl) (by kernel_rfl) (by kernel_rfl) (fun _ _ _ h => h) (Or.inl ⟨by kernel_rfl, fun _ _ => by kernel_rfl⟩) hS ?_
    refine wpAnyH_take (i := 9) (v := .int .i64 0) rfl (by kernel_rfl) (by kernel_rfl) (by kernel_rfl) (fun _ _ _ h => h) (Or.inl ⟨by kernel_rfl, fun _ _ => by kernel_rfl⟩) hS ?_
    refine wpAnyH_done (by kernel_rfl) ?_ _
    clear hS
    go_simp
    have tl := live_any w5
    have HR1 : Hid (RowsB w5 (fun k => w2.heap.size ≤ k) (.slice a1 nn c1) (allL (endB mn av mx (tabV seed)) ps2)) := ⟨HO1.out.rows.still (Chg.ofBelow (HGw4.out.trans (HGw5.out.mono HGw4.out.size)))⟩
    have HR2 : Hid (RowsB w5 (fun k => w4.heap.size ≤ k) (.slice a2 nn c2) (allL (endB mn av mx (tabV seed)) ps2)) := ⟨HO2.out.rows⟩
    have hLl : (allL (endB mn av mx (tabV seed)) ps2).length ≤ 1000000000000 := by
      have h3 : ps2.length ≤ 3000 := by rw [← Hps.out]; exact List.length_take_le 3000 ps
      have := allL_len (endB mn av mx (tabV seed)) ps2
      omega
    clear hSS t
    go_wp2_with (first | (go_at_call 9; refine tl.mono ?_; rintro e w6 ⟨rfl, hb6⟩; have ts := same_yes (HR1.out.still (Chg.ofBelow hb6)) (HR2.out.still (Chg.ofBelow hb6)) hLl) | (go_at_call 17; refine ts.mono ?_; rintro e w7 ⟨rfl, hG7⟩))
    go_ret
    exact ⟨rfl, by rw [HBB.out]; exact Hb.out.trans (((Hw5.out.mono (by omega)).trans (hb6.mono (by have := Hw5.out.size; rw [Hsz.out] at this; omega))).trans (hG7.below (by have := Hw5.out.size; have := hb6.size; have := Hsz.out; omega) (by simp)))⟩
  · go_wp2_with fail
    refine wp_region_held_drew (S := (fun w' => w'.cell? ⟨B, 0, none⟩ = some (.int .i64 mn) ∧ w'.cell? ⟨B, 1, none⟩ = some (.int .i64 av) ∧ w'.cell? ⟨B, 2, none⟩ = some (.int .i64 mx))) (by kernel_rfl) (hSS w1.drew Hw1.out.drew) (fun hS => ?_)
    refine wpAnyH_take (i := 0) (v := .agg #[.int .i64 mn, .int .i64 av, .int .i64 mx]) rfl (by kernel_rfl) (by kernel_rfl) (by kernel_rfl) (fun _ _ _ h => h) (Or.inl ⟨by kernel_rfl, fun wx hx => by obtain ⟨hx0, hx1, hx2⟩ := hx; go_simp⟩) hS ?_
    refine wpAnyH_take (i := 1) (v := .int .u64 seed) rfl (by kernel_rfl) (by kernel_rfl) (by kernel_rfl) (fun _ _ _ h => h) (Or.inl ⟨by kernel_rfl, fun _ _ => by kernel_rfl⟩) hS ?_
    refine wpAnyH_take (i := 3) (v := .slice ao n cap) rfl (by kernel_rfl) (by kernel_rfl) (by kernel_rfl) (fun _ _ _ h => h) (Or.inl ⟨by kernel_rfl, fun _ _ => by kernel_rfl⟩) hS ?_
    refine wpAnyH_ready (rs := [2]) (by kernel_rfl) (by simp) (AllReadyH.cons rfl (fun Kc hK => ?_) AllReadyH.nil)
    go_simp
    refine (rtable_any seed _).mono ?_
    rintro e w2 ⟨ta, rfl, h2, hb⟩
    have Hw2 : Hid (Below (B + 1) w1 w2) := ⟨Hw1.out.drew.trans (hb.mono (by have := Hw1.out.size; have := Hsz.out; show B + 1 ≤ w1.heap.size; omega))⟩
    have HGw2 : Hid (Below w1.heap.size w1 w2) := ⟨(Below.refl _ w1).drew.trans hb⟩
    clear hb
    go_simp
    refine hK.out _ _ (hSS w2 Hw2.out) (fun hS => ?_)
    clear hK
    refine wpAnyH_ready (rs := [4]) (by kernel_rfl) (by simp) (AllReadyH.cons rfl (fun Kc hK => ?_) AllReadyH.nil)
    go_simp
    refine (all_bad hok ta h2.1 (.slice ao n cap)).mono ?_
    rintro e w3 ⟨rfl, hb⟩
    have Hw3 : Hid (Below (B + 1) w1 w3) := ⟨Hw2.out.trans (hb.mono (by have := Hw2.out.size; have := Hsz.out; omega))⟩
    have HGw3 : Hid (Below w2.heap.size w2 w3) := ⟨hb⟩
    clear hb
    go_simp
    refine hK.out _ _ (hSS w3 Hw3.out) (fun hS => ?_)
    clear hK
    refine wpAnyH_take (i := 5) (v := .tuple #[.slice none 0 0, .int .i64 2]) rfl (by kernel_rfl) (by kernel_rfl) (by kernel_rfl) (fun _ _ _ h => h) (Or.inl ⟨by kernel_rfl, fun _ _ => by kernel_rfl⟩) hS ?_
    refine wpAnyH_take (i := 6) (v := .slice none 0 0) rfl (by kernel_rfl) (by kernel_rfl) (by kernel_rfl) (fun _ _ _ h => h) (Or.inl ⟨by kernel_rfl, fun _ _ => by kernel_rfl⟩) hS ?_
    refine wpAnyH_take (i := 7) (v := .int .i64 2) rfl (by kernel_rfl) (by kernel_rfl) (by kernel_rfl) (fun _ _ _ h => h) (Or.inl ⟨by kernel_rfl, fun _ _ => by kernel_rfl⟩) hS ?_
    refine wpAnyH_take (i := 8) (v := .slice none 0 0) rfl (by kernel_rfl) (by kernel_rfl) (by kernel_rfl) (fun _ _ _ h => h) (Or.inl ⟨by kernel_rfl, fun _ _ => by kernel_rfl⟩) hS ?_
    refine wpAnyH_take (i := 9) (v := .int .i64 2) rfl (by kernel_rfl) (by kernel_rfl) (by kernel_rfl) (fun _ _ _ h => h) (Or.inl ⟨by kernel_rfl, fun _ _ => by kernel_rfl⟩) hS ?_
    refine wpAnyH_done (by kernel_rfl) ?_ _
    clear hS
    go_simp
    go_wp2_with fail
    refine wp_region_held_drew (S := (fun w' => w'.cell? ⟨B, 0, none⟩ = some (.int .i64 mn) ∧ w'.cell? ⟨B, 1, none⟩ = some (.int .i64 av) ∧ w'.cell? ⟨B, 2, none⟩ = some (.int .i64 mx))) (by kernel_rfl) (hSS w3.drew Hw3.out.drew) (fun hS => ?_)
    refine wpAnyH_take (i := 0) (v := .agg #[.int .i64 mn, .int .i64 av, .int .i64 mx]) rfl (by kernel_rfl) (by kernel_rfl) (by kernel_rfl) (fun _ _ _ h => h) (Or.inl ⟨by kernel_rfl, fun wx hx => by obtain ⟨hx0, hx1, hx2⟩ := hx; go_simp⟩) hS ?_
    refine wpAnyH_take (i := 1) (v := .int .u64 seed) rfl (by kernel_rfl) (by kernel_rfl) (by kernel_rfl) (fun _ _ _ h => h) (Or.inl ⟨by kernel_rfl, fun _ _ => by kernel_rfl⟩) hS ?_
    refine wpAnyH_take (i := 3) (v := .slice ao n cap) rfl (by kernel_rfl) (by kernel_rfl) (by kernel_rfl) (fun _ _ _ h => h) (Or.inl ⟨by kernel_rfl, fun _ _ => by kernel_rfl⟩) hS ?_
    refine wpAnyH_ready (rs := [2]) (by kernel_rfl) (by simp) (AllReadyH.cons rfl (fun Kc hK => ?_) AllReadyH.nil)
    go_simp
    refine (rtable_any seed _).mono ?_
    rintro e w4 ⟨tb, rfl, htb, hb⟩
    have Hw4 : Hid (Below (B + 1) w1 w4) := ⟨Hw3.out.drew.trans (hb.mono (by have := Hw3.out.size; have := Hsz.out; show B + 1 ≤ w3.heap.size; omega))⟩
    have HGw4 : Hid (Below w3.heap.size w3 w4) := ⟨(Below.refl _ w3).drew.trans hb⟩
    clear hb
    go_simp
    refine hK.out _ _ (hSS w4 Hw4.out) (fun hS => ?_)
    clear hK
    refine wpAnyH_ready (rs := [4]) (by kernel_rfl) (by simp) (AllReadyH.cons rfl (fun Kc hK => ?_) AllReadyH.nil)
    go_simp
    refine (rall_bad hok tb (.slice ao n cap)).mono ?_
    rintro e w5 ⟨rfl, hb⟩
    have Hw5 : Hid (Below (B + 1) w1 w5) := ⟨Hw4.out.trans (hb.mono (by have := Hw4.out.size; have := Hsz.out; omega))⟩
    have HGw5 : Hid (Below w4.heap.size w4 w5) := ⟨hb⟩
    clear hb
    go_simp
    refine hK.out _ _ (hSS w5 Hw5.out) (fun hS => ?_)
    clear hK
    refine wpAnyH_take (i := 5) (v := .tuple #[.slice none 0 0, .int .i64 2]) rfl (by kernel_rfl) (by kernel_rfl) (by kernel_rfl) (fun _ _ _ h => h) (Or.inl ⟨by kernel_rfl, fun _ _ => by kernel_rfl⟩) hS ?_
    refine wpAnyH_take (i := 6) (v := .slice none 0 0) rfl (by kernel_rfl) (by kernel_rfl) (by kernel_rfl) (fun _ _ _ h => h) (Or.inl ⟨by kernel_rfl, fun _ _ => by kernel_rfl⟩) hS ?_
    refine wpAnyH_take (i := 7) (v := .int .i64 2) rfl (by kernel_rfl) (by kernel_rfl) (by kernel_rfl) (fun _ _ _ h => h) (Or.inl ⟨by kernel_rfl, fun _ _ => by kernel_rfl⟩) hS ?_
    refine wpAnyH_take (i := 8) (v := .slice none 0 0) rfl (by kernel_rfl) (by kernel_rfl) (by kernel_rfl) (fun _ _ _ h => h) (Or.inl ⟨by kernel_rfl, fun _ _ => by kernel_rfl⟩) hS ?_
    refine wpAnyH_take (i := 9) (v := .int .i64 2) rfl (by kernel_rfl) (by kernel_rfl) (by kernel_rfl) (fun _ _ _ h => h) (Or.inl ⟨by kernel_rfl, fun _ _ => by kernel_rfl⟩) hS ?_
    refine wpAnyH_done (by kernel_rfl) ?_ _
    clear hS
    go_simp
    have tl := live_any w5
    clear hSS t
    go_wp2_with (first | (go_at_call 9; refine tl.mono ?_; rintro e w6 ⟨rfl, hb6⟩; have ts := same_yes (empty_rows w6 (fun _ => True)) (empty_rows w6 (fun _ => True)) (by simp)) | (go_at_call 17; refine ts.mono ?_; rintro e w7 ⟨rfl, hG7⟩))
    go_ret
    exact ⟨rfl, by rw [HBB.out]; exact Hb.out.trans (((Hw5.out.mono (by omega)).trans (hb6.mono (by have := Hw5.out.size; rw [Hsz.out] at this; omega))).trans (hG7.below (by have := Hw5.out.size; have := hb6.size; have := Hsz.out; omega) (by simp)))⟩
end Go.Proofs.Ytngeefipeghjiaa
