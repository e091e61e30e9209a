/- DiskTorn's walk. By gv2.py. -/
import Derived.Test.YtmcikhdfpmkpnaaV1
namespace Go.Proofs.Ytmcikhdfpmkpnaa
open Go.RowKit Go.Maps Go.Sort Go.Shelf

set_option maxRecDepth 8000 in
set_option maxHeartbeats 8000000 in
theorem torn_any (n : Int) (v : Value) (ds : List Dd) (kv : Value) (c : Cr) (w : World) (hv : Deeds w v ds) (hk : Ks w kv c.keep) (hkf : 0 < c.keep.length → ∀ k, kv.ownBlock = some k → k < w.heap.size) : Calls Try.prog 6 #[.int .i64 n, v, .agg #[kv, .int .i64 c.torn, .int .i64 c.at']] w fun e w' => e = .returned (.bool true) ∧ Below w.heap.size w w' := by
  have hB0 : Below w.heap.size w (w.alloc (.cells #[kv, .int .i64 c.torn, .int .i64 c.at'] 40)) := (Below.refl _ w).alloc (Nat.le_refl _) _
  have hrow : (w.alloc (.cells #[kv, .int .i64 c.torn, .int .i64 c.at'] 40)).heap[w.heap.size]? = some (.cells #[kv, .int .i64 c.torn, .int .i64 c.at'] 40 (0, 0)) := heap_alloc_new w _
  have t1 := play_any n v ds _ (hv.below hB0)
  have HX0 : Hid (Ks (w.alloc (.cells #[kv, .int .i64 c.torn, .int .i64 c.at'] 40)) kv c.keep ∧ (0 < c.keep.length → ∀ k, kv.ownBlock = some k → k < (w.alloc (.cells #[kv, .int .i64 c.torn, .int .i64 c.at'] 40)).heap.size)) := ⟨hk.below hB0, fun h0 k hz => Nat.lt_of_lt_of_le (hkf h0 k hz) hB0.size⟩
  obtain ⟨ao, cap, rfl, _⟩ := hv
  clear hk hkf
  go_enter Try.func6, Try.ntmps6
  generalize ds.length = dn at t1 ⊢
  go_upto_block 0 with (first
    | (go_at_call 15; generalize w.alloc (.cells #[kv, .int .i64 c.torn, .int .i64 c.at'] 40) = w0 at hB0 hrow t1 HX0 ⊢; refine t1.mono ?_; rintro e w1 ⟨p, g, bm, q, D, rfl, hP, hD, hb1⟩; clear t1 hD; obtain ⟨vq, arq, hR⟩ := hP.r; obtain ⟨aq, cq, rfl, hcl⟩ := hR.own.shape; have z0 := hR.cells.1; have HW1 : Hid (At w1 p g bm w0.heap.size D ∧ Below w0.heap.size w0 w1 ∧ (∀ g', aq = some ⟨g', 0, none⟩ → g' ∉ [p, g, bm]) ∧ ∀ j, j < D.S.length → ∃ g', aq = some ⟨g', 0, none⟩ ∧ w1.cell? ⟨g', j * 3, none⟩ = some (.string (strOfNums (sec D.S j).1)) ∧ w1.cell? ⟨g', j * 3 + 1, none⟩ = some (.string (strOfNums ((sec D.S j).2.getD []))) ∧ w1.cell? ⟨g', j * 3 + 2, none⟩ = some (.bool (sec D.S j).2.isSome)) := ⟨hP.a, hb1, (fun g' e => by subst e; obtain ⟨cur, hh⟩ := hR.elem (g := g') rfl; have h9 := no_cells hP.a hh (by decide) (by decide); simp; omega), hcl⟩; have HB0 : Hid (Below w.heap.size w w0) := ⟨hB0⟩; have HRow : Hid (w0.heap[w.heap.size]? = some (.cells #[kv, .int .i64 c.torn, .int .i64 c.at'] 40 (0, 0))) := ⟨hrow⟩; have hrw := (hb1.block _ (Array.getElem?_eq_some_iff.1 hrow).1).trans hrow; have y0 : w1.cell? ⟨w.heap.size, 0, none⟩ = some kv := cell_of_row w1 w.heap.size 0 _ 40 _ hrw; have y1 : w1.cell? ⟨w.heap.size, 1, none⟩ = some (.int .i64 c.torn) := cell_of_row w1 w.heap.size 1 _ 40 _ hrw; have y2 : w1.cell? ⟨w.heap.size, 2, none⟩ = some (.int .i64 c.at') := cell_of_row w1 w.heap.size 2 _ 40 _ hrw; have t2 := crash_gen hP.a kv c.keep c.torn c.at' (HX0.out.1.below hb1) (fun h0 z hz => (by have h1 := HX0.out.2 h0 z hz; have h2 := hP.a.bp; omega)); clear hP hb1 hB0 hrow hrw hR hcl)
    | (go_at_call 17; refine t2.mono ?_; rintro e w2 ⟨rfl, hA2, hc2⟩; clear t2 y0 y1 y2 z0; have HB2 : Hid (Below w0.heap.size w0 w2) := ⟨HW1.out.2.1.trans (hc2.below HW1.out.2.1.size (by have h3 := HW1.out.1.bp; simp; omega))⟩; have HA2 : Hid (At w2 p g bm w0.heap.size (crD D c)) := ⟨hA2⟩; have HC2 : Hid (∀ j, j < D.S.length → ∃ g', aq = some ⟨g', 0, none⟩ ∧ w2.cell? ⟨g', j * 3, none⟩ = some (.string (strOfNums (sec D.S j).1)) ∧ w2.cell? ⟨g', j * 3 + 1, none⟩ = some (.string (strOfNums ((sec D.S j).2.getD []))) ∧ w2.cell? ⟨g', j * 3 + 2, none⟩ = some (.bool (sec D.S j).2.isSome)) := ⟨fun j hj => (by obtain ⟨g', e, h1, h2, h3⟩ := HW1.out.2.2.2 j hj; have hn := HW1.out.2.2.1 g' e; exact ⟨g', e, (hc2.cell (World.block_lt_of_cell? _ _ h1) hn).trans h1, (hc2.cell (World.block_lt_of_cell? _ _ h2) hn).trans h2, (hc2.cell (World.block_lt_of_cell? _ _ h3) hn).trans h3⟩)⟩; have HOk : Hid ((∀ s ∈ D.S, OkS s) ∧ D.S.length ≤ 4096) := ⟨(by obtain ⟨_, _, _, _, hh⟩ := HW1.out.1; exact ⟨hh.ok, hh.len⟩)⟩; clear hA2 hc2 HW1))
  obtain ⟨N, HN⟩ : ∃ N, Hid (D.S.length = N) := ⟨_, ⟨rfl⟩⟩
  have hN5 : N ≤ 4096 := by rw [← HN.out]; exact HOk.out.2
  rw [HN.out] at HC2 ⊢
  go_wp2_with fail
  go_loopg [11, 12, 13, 14] N (fun gg s11 s12 _ _ wr => ∃ kk t : Nat, kk ≤ N ∧ N - kk ≤ gg ∧ s11 = .int .i64 (t : Int) ∧ s12 = .int .i64 (kk : Int) ∧ (t = 0 ∨ t = 1 ∧ c.torn < (place D.S kk : Int)) ∧ Hid (Below w2.heap.size w2 wr))
  case atStart => exact ⟨0, 0, Nat.zero_le _, by omega, rfl, rfl, Or.inl rfl, ⟨Below.refl _ _⟩⟩
  case round =>
    obtain ⟨kk, t, hkk, hgg, rfl, rfl, hto, HB⟩ := hrel
    by_cases hlt : kk < N
    · have hltz : (kk : Int) < (N : Int) := by omega
      have hkS : kk < D.S.length := by rw [HN.out]; exact hlt
      obtain ⟨g', rfl, k0, k1, k2⟩ := HC2.out kk hlt
      have j0 := (HB.out.cell (World.block_lt_of_cell? _ _ k0)).trans k0
      have j1 := (HB.out.cell (World.block_lt_of_cell? _ _ k1)).trans k1
      have j2 := (HB.out.cell (World.block_lt_of_cell? _ _ k2)).trans k2
      have HBr : Hid (Below w0.heap.size w0 wr) := ⟨HB2.out.trans (HB.out.mono HB2.out.size)⟩
      have j3 : wr.cell? ⟨w.heap.size, 2, none⟩ = some (.int .i64 c.at') := cell_of_row wr w.heap.size 2 _ 40 _ ((HBr.out.block _ (Array.getElem?_eq_some_iff.1 HRow.out).1).trans HRow.out)
      clear k0 k1 k2
      have HM0 : Hid ((t = 0 ∨ t = 1 ∧ c.torn < (place D.S kk : Int))) := ⟨hto⟩
      have HM : Hid ((t = 0 ∨ t = 1 ∧ c.torn < (place D.S (kk + 1) : Int))) := ⟨by
        have := place_mono D.S (show kk ≤ kk + 1 by omega)
        omega⟩
      have HTn := torn_case HOk.out.1 c hkS
      obtain ⟨hr1, hr2, hr3⟩ := torn_read (c := c) HOk.out.1 hkS
      have ta := read_any (HA2.out.below HB.out) (kk : Int)
      have hyt := (rdB_byt (HA2.out.below HB.out) (kk : Int)).1
      rw [hr1] at ta
      obtain ⟨pg, Hpg⟩ : ∃ pg, Hid (rdB (crD D c) (kk : Int) = pg) := ⟨_, ⟨rfl⟩⟩
      rw [Hpg.out] at ta hyt hr2 hr3
      have HTn2 : Hid (TornCase D.S c kk pg) := ⟨by rw [← hr3]; exact HTn⟩
      clear HTn hr1 hr3 hto
      go_upto_region 14 with (go_at_call 21; refine ta.mono ?_; rintro e w3 ⟨rv, rfl, hO3, hb3⟩; clear ta; have hcv := hO3.bs hyt; obtain ⟨ra, rc, rfl, _⟩ := hO3.mine; rw [hr2] at hcv ⊢; have HBs : Hid (Bs w3 (.slice ra 128 rc) pg) := ⟨hcv⟩; have HB3 : Hid (Below w2.heap.size w2 w3) := ⟨HB.out.trans (hb3.mono HB.out.size)⟩; have l0 := (hb3.cell (World.block_lt_of_cell? _ _ j0)).trans j0; have l1 := (hb3.cell (World.block_lt_of_cell? _ _ j1)).trans j1; have l2 := (hb3.cell (World.block_lt_of_cell? _ _ j2)).trans j2; have l3 := (hb3.cell (World.block_lt_of_cell? _ _ j3)).trans j3; clear j0 j1 j2 j3 hO3 hb3)
      have hcv2 : (convert 37 9 (.slice ra 128 rc)).run Try.prog w3.drew = .ok (.string (strOfNums pg)) w3.drew := run_str (HBs.out.below (Below.refl _ w3).drew)
      clear hcv
      obtain ⟨sS, HsS⟩ : ∃ sS, Hid (strOfNums (sec D.S kk).1 = sS) := ⟨_, ⟨rfl⟩⟩
      obtain ⟨sL, HsL⟩ : ∃ sL, Hid (strOfNums ((sec D.S kk).2.getD []) = sL) := ⟨_, ⟨rfl⟩⟩
      obtain ⟨di, Hdi⟩ : ∃ di, Hid ((sec D.S kk).2.isSome = di) := ⟨_, ⟨rfl⟩⟩
      obtain ⟨sb, Hsb⟩ : ∃ sb, Hid (strOfNums pg = sb) := ⟨_, ⟨rfl⟩⟩
      obtain ⟨at', Hat⟩ : ∃ a, Hid (c.at' = a) := ⟨_, ⟨rfl⟩⟩
      rw [HsS.out] at l0
      rw [HsL.out] at l1
      rw [Hdi.out] at l2
      rw [Hat.out] at l3
      rw [Hsb.out] at hcv2
      have hS0 : w3.drew.cell? ⟨g', kk * 3, none⟩ = some (.string sS) ∧ w3.drew.cell? ⟨g', kk * 3 + 1, none⟩ = some (.string sL) ∧ w3.drew.cell? ⟨g', kk * 3 + 2, none⟩ = some (.bool di) ∧ w3.drew.cell? ⟨w.heap.size, 2, none⟩ = some (.int .i64 at') ∧ (convert 37 9 (.slice ra 128 rc)).run Try.prog w3.drew = .ok (.string sb) w3.drew := ⟨l0, l1, l2, l3, hcv2⟩
      clear l0 l1 l2 l3 hcv2 hyt hr2
      by_cases hA : sb = sS
      · clear HTn2 HsS HsL Hdi Hsb Hat Hpg
        subst hA
        refine wp_region_held_drew (S := (fun w' => w'.cell? ⟨g', kk * 3, none⟩ = some (.string sb) ∧ w'.cell? ⟨g', kk * 3 + 1, none⟩ = some (.string sL) ∧ w'.cell? ⟨g', kk * 3 + 2, none⟩ = some (.bool di) ∧ w'.cell? ⟨w.heap.size, 2, none⟩ = some (.int .i64 at') ∧ (convert 37 9 (.slice ra 128 rc)).run Try.prog w' = .ok (.string sb) w')) (by kernel_rfl) hS0 (fun hS => ?_)
        refine wpAnyH_take (i := 0) (v := (.slice ra 128 rc)) rfl (by kernel_rfl) (by kernel_rfl) (by kernel_rfl) (fun _ _ _ h => h) (Or.inl ⟨by kernel_rfl, fun wx hx => by kernel_rfl⟩) hS ?_
        refine wpAnyH_take (i := 1) (v := (.string sb)) rfl (by kernel_rfl) (by kernel_rfl) (by kernel_rfl) (fun _ _ _ h => h) (Or.inl ⟨by kernel_rfl, fun wx hx => by obtain ⟨hx0, hx1, hx2, hx3, hx4⟩ := hx; go_simp⟩) hS ?_
        refine wpAnyH_take (i := 2) (v := (.slice (some ⟨g', 0, none⟩) N cq)) rfl (by kernel_rfl) (by kernel_rfl) (by kernel_rfl) (fun _ _ _ h => h) (Or.inl ⟨by kernel_rfl, fun wx hx => by kernel_rfl⟩) hS ?_
        refine wpAnyH_take (i := 3) (v := (.int .i64 (kk : Int))) rfl (by kernel_rfl) (by kernel_rfl) (by kernel_rfl) (fun _ _ _ h => h) (Or.inl ⟨by kernel_rfl, fun wx hx => by kernel_rfl⟩) hS ?_
        refine wpAnyH_take (i := 4) (v := (.pointer (some ⟨g', kk * 3, none⟩))) rfl (by kernel_rfl) (by kernel_rfl) (by kernel_rfl) (fun _ _ _ h => h) (Or.inl ⟨by kernel_rfl, fun wx hx => by go_simp⟩) hS ?_
        refine wpAnyH_take (i := 5) (v := (.pointer (some ⟨g', kk * 3, none⟩))) rfl (by kernel_rfl) (by kernel_rfl) (by kernel_rfl) (fun _ _ _ h => h) (Or.inl ⟨by kernel_rfl, fun wx hx => by go_simp⟩) hS ?_
        refine wpAnyH_take (i := 6) (v := (.string sb)) rfl (by kernel_rfl) (by kernel_rfl) (by kernel_rfl) (fun _ _ _ h => h) (Or.inl ⟨by kernel_rfl, fun wx hx => by obtain ⟨hx0, hx1, hx2, hx3, hx4⟩ := hx; go_simp⟩) hS ?_
        refine wpAnyH_take (i := 7) (v := (.bool true)) rfl (by kernel_rfl) (by kernel_rfl) (by kernel_rfl) (fun _ _ _ h => h) (Or.inl ⟨by kernel_rfl, fun wx hx => by go_simp⟩) hS ?_
        refine wpAnyH_take (i := 8) (v := (.bool true)) rfl (by kernel_rfl) (by kernel_rfl) (by kernel_rfl) (fun _ _ _ h => h) (Or.inl ⟨by kernel_rfl, fun wx hx => by kernel_rfl⟩) hS ?_
        refine wpAnyH_take (i := 9) (v := undef) rfl (by kernel_rfl) (by kernel_rfl) (by kernel_rfl) (fun _ _ _ h => h) (Or.inr ⟨by kernel_rfl, rfl⟩) hS ?_
        refine wpAnyH_take (i := 10) (v := undef) rfl (by kernel_rfl) (by kernel_rfl) (by kernel_rfl) (fun _ _ _ h => h) (Or.inr ⟨by kernel_rfl, rfl⟩) hS ?_
        refine wpAnyH_take (i := 11) (v := undef) rfl (by kernel_rfl) (by kernel_rfl) (by kernel_rfl) (fun _ _ _ h => h) (Or.inr ⟨by kernel_rfl, rfl⟩) hS ?_
        refine wpAnyH_take (i := 12) (v := undef) rfl (by kernel_rfl) (by kernel_rfl) (by kernel_rfl) (fun _ _ _ h => h) (Or.inr ⟨by kernel_rfl, rfl⟩) hS ?_
        refine wpAnyH_take (i := 13) (v := undef) rfl (by kernel_rfl) (by kernel_rfl) (by kernel_rfl) (fun _ _ _ h => h) (Or.inr ⟨by kernel_rfl, rfl⟩) hS ?_
        refine wpAnyH_take (i := 14) (v := undef) rfl (by kernel_rfl) (by kernel_rfl) (by kernel_rfl) (fun _ _ _ h => h) (Or.inr ⟨by kernel_rfl, rfl⟩) hS ?_
        refine wpAnyH_take (i := 15) (v := undef) rfl (by kernel_rfl) (by kernel_rfl) (by kernel_rfl) (fun _ _ _ h => h) (Or.inr ⟨by kernel_rfl, rfl⟩) hS ?_
        refine wpAnyH_take (i := 16) (v := undef) rfl (by kernel_rfl) (by kernel_rfl) (by kernel_rfl) (fun _ _ _ h => h) (Or.inr ⟨by kernel_rfl, rfl⟩) hS ?_
        refine wpAnyH_take (i := 17) (v := undef) rfl (by kernel_rfl) (by kernel_rfl) (by kernel_rfl) (fun _ _ _ h => h) (Or.inr ⟨by kernel_rfl, rfl⟩) hS ?_
        refine wpAnyH_take (i := 18) (v := undef) rfl (by kernel_rfl) (by kernel_rfl) (by kernel_rfl) (fun _ _ _ h => h) (Or.inr ⟨by kernel_rfl, rfl⟩) hS ?_
        refine wpAnyH_take (i := 19) (v := undef) rfl (by kernel_rfl) (by kernel_rfl) (by kernel_rfl) (fun _ _ _ h => h) (Or.inr ⟨by kernel_rfl, rfl⟩) hS ?_
        refine wpAnyH_take (i := 20) (v := undef) rfl (by kernel_rfl) (by kernel_rfl) (by kernel_rfl) (fun _ _ _ h => h) (Or.inr ⟨by kernel_rfl, rfl⟩) hS ?_
        refine wpAnyH_take (i := 21) (v := undef) rfl (by kernel_rfl) (by kernel_rfl) (by kernel_rfl) (fun _ _ _ h => h) (Or.inr ⟨by kernel_rfl, rfl⟩) hS ?_
        refine wpAnyH_take (i := 22) (v := undef) rfl (by kernel_rfl) (by kernel_rfl) (by kernel_rfl) (fun _ _ _ h => h) (Or.inr ⟨by kernel_rfl, rfl⟩) hS ?_
        refine wpAnyH_take (i := 23) (v := undef) rfl (by kernel_rfl) (by kernel_rfl) (by kernel_rfl) (fun _ _ _ h => h) (Or.inr ⟨by kernel_rfl, rfl⟩) hS ?_
        refine wpAnyH_take (i := 24) (v := (.bool true)) rfl (by kernel_rfl) (by kernel_rfl) (by kernel_rfl) (fun _ _ _ h => h) (Or.inl ⟨by kernel_rfl, fun wx hx => by go_simp⟩) hS ?_
        refine wpAnyH_take (i := 25) (v := (.bool true)) rfl (by kernel_rfl) (by kernel_rfl) (by kernel_rfl) (fun _ _ _ h => h) (Or.inl ⟨by kernel_rfl, fun wx hx => by kernel_rfl⟩) hS ?_
        refine wpAnyH_done (by kernel_rfl) ?_ _
        clear hS
        go_simp
        go_wp2_with fail
        go_roundg (N - (kk + 1))
        case measure => omega
        case rel => exact ⟨kk + 1, t, by omega, by omega, rfl, by go_num, HM.out, ⟨HB3.out.drew⟩⟩
      · have hdi : di = true := by
          rw [← Hdi.out]
          rcases HTn2.out with h | ⟨l, hl, _⟩
          · exact absurd (by rw [← Hsb.out, ← HsS.out, h]) hA
          · rw [hl]; rfl
        subst hdi
        have hA' : ¬ sb.toList = sS.toList := fun e => hA (toList_inj e)
        by_cases hB : sb = sL
        · clear HTn2 HsS HsL Hdi Hsb Hat Hpg
          subst hB
          refine wp_region_held_drew (S := (fun w' => w'.cell? ⟨g', kk * 3, none⟩ = some (.string sS) ∧ w'.cell? ⟨g', kk * 3 + 1, none⟩ = some (.string sb) ∧ w'.cell? ⟨g', kk * 3 + 2, none⟩ = some (.bool true) ∧ w'.cell? ⟨w.heap.size, 2, none⟩ = some (.int .i64 at') ∧ (convert 37 9 (.slice ra 128 rc)).run Try.prog w' = .ok (.string sb) w')) (by kernel_rfl) hS0 (fun hS => ?_)
          refine wpAnyH_take (i := 0) (v := (.slice ra 128 rc)) rfl (by kernel_rfl) (by kernel_rfl) (by kernel_rfl) (fun _ _ _ h => h) (Or.inl ⟨by kernel_rfl, fun wx hx => by kernel_rfl⟩) hS ?_
          refine wpAnyH_take (i := 1) (v := (.string sb)) rfl (by kernel_rfl) (by kernel_rfl) (by kernel_rfl) (fun _ _ _ h => h) (Or.inl ⟨by kernel_rfl, fun wx hx => by obtain ⟨hx0, hx1, hx2, hx3, hx4⟩ := hx; go_simp⟩) hS ?_
          refine wpAnyH_take (i := 2) (v := (.slice (some ⟨g', 0, none⟩) N cq)) rfl (by kernel_rfl) (by kernel_rfl) (by kernel_rfl) (fun _ _ _ h => h) (Or.inl ⟨by kernel_rfl, fun wx hx => by kernel_rfl⟩) hS ?_
          refine wpAnyH_take (i := 3) (v := (.int .i64 (kk : Int))) rfl (by kernel_rfl) (by kernel_rfl) (by kernel_rfl) (fun _ _ _ h => h) (Or.inl ⟨by kernel_rfl, fun wx hx => by kernel_rfl⟩) hS ?_
          refine wpAnyH_take (i := 4) (v := (.pointer (some ⟨g', kk * 3, none⟩))) rfl (by kernel_rfl) (by kernel_rfl) (by kernel_rfl) (fun _ _ _ h => h) (Or.inl ⟨by kernel_rfl, fun wx hx => by go_simp⟩) hS ?_
          refine wpAnyH_take (i := 5) (v := (.pointer (some ⟨g', kk * 3, none⟩))) rfl (by kernel_rfl) (by kernel_rfl) (by kernel_rfl) (fun _ _ _ h => h) (Or.inl ⟨by kernel_rfl, fun wx hx => by go_simp⟩) hS ?_
          refine wpAnyH_take (i := 6) (v := (.string sS)) rfl (by kernel_rfl) (by kernel_rfl) (by kernel_rfl) (fun _ _ _ h => h) (Or.inl ⟨by kernel_rfl, fun wx hx => by obtain ⟨hx0, hx1, hx2, hx3, hx4⟩ := hx; go_simp⟩) hS ?_
          refine wpAnyH_take (i := 7) (v := (.bool false)) rfl (by kernel_rfl) (by kernel_rfl) (by kernel_rfl) (fun _ _ _ h => h) (Or.inl ⟨by kernel_rfl, fun wx hx => by go_simp⟩) hS ?_
          refine wpAnyH_take (i := 8) (v := (.bool false)) rfl (by kernel_rfl) (by kernel_rfl) (by kernel_rfl) (fun _ _ _ h => h) (Or.inl ⟨by kernel_rfl, fun wx hx => by kernel_rfl⟩) hS ?_
          refine wpAnyH_take (i := 9) (v := (.slice (some ⟨g', 0, none⟩) N cq)) rfl (by kernel_rfl) (by kernel_rfl) (by kernel_rfl) (fun _ _ _ h => h) (Or.inl ⟨by kernel_rfl, fun wx hx => by kernel_rfl⟩) hS ?_
          refine wpAnyH_take (i := 10) (v := (.int .i64 (kk : Int))) rfl (by kernel_rfl) (by kernel_rfl) (by kernel_rfl) (fun _ _ _ h => h) (Or.inl ⟨by kernel_rfl, fun wx hx => by kernel_rfl⟩) hS ?_
          refine wpAnyH_take (i := 11) (v := (.pointer (some ⟨g', kk * 3, none⟩))) rfl (by kernel_rfl) (by kernel_rfl) (by kernel_rfl) (fun _ _ _ h => h) (Or.inl ⟨by kernel_rfl, fun wx hx => by go_simp⟩) hS ?_
          refine wpAnyH_take (i := 12) (v := (.pointer (some ⟨g', kk * 3 + 2, none⟩))) rfl (by kernel_rfl) (by kernel_rfl) (by kernel_rfl) (fun _ _ _ h => h) (Or.inl ⟨by kernel_rfl, fun wx hx => by go_simp⟩) hS ?_
          refine wpAnyH_take (i := 13) (v := (.bool true)) rfl (by kernel_rfl) (by kernel_rfl) (by kernel_rfl) (fun _ _ _ h => h) (Or.inl ⟨by kernel_rfl, fun wx hx => by obtain ⟨hx0, hx1, hx2, hx3, hx4⟩ := hx; go_simp⟩) hS ?_
          refine wpAnyH_take (i := 14) (v := (.bool true)) rfl (by kernel_rfl) (by kernel_rfl) (by kernel_rfl) (fun _ _ _ h => h) (Or.inl ⟨by kernel_rfl, fun wx hx => by kernel_rfl⟩) hS ?_
          refine wpAnyH_take (i := 15) (v := (.slice ra 128 rc)) rfl (by kernel_rfl) (by kernel_rfl) (by kernel_rfl) (fun _ _ _ h => h) (Or.inl ⟨by kernel_rfl, fun wx hx => by kernel_rfl⟩) hS ?_
          refine wpAnyH_take (i := 16) (v := (.string sb)) rfl (by kernel_rfl) (by kernel_rfl) (by kernel_rfl) (fun _ _ _ h => h) (Or.inl ⟨by kernel_rfl, fun wx hx => by obtain ⟨hx0, hx1, hx2, hx3, hx4⟩ := hx; go_simp⟩) hS ?_
          refine wpAnyH_take (i := 17) (v := (.slice (some ⟨g', 0, none⟩) N cq)) rfl (by kernel_rfl) (by kernel_rfl) (by kernel_rfl) (fun _ _ _ h => h) (Or.inl ⟨by kernel_rfl, fun wx hx => by kernel_rfl⟩) hS ?_
          refine wpAnyH_take (i := 18) (v := (.int .i64 (kk : Int))) rfl (by kernel_rfl) (by kernel_rfl) (by kernel_rfl) (fun _ _ _ h => h) (Or.inl ⟨by kernel_rfl, fun wx hx => by kernel_rfl⟩) hS ?_
          refine wpAnyH_take (i := 19) (v := (.pointer (some ⟨g', kk * 3, none⟩))) rfl (by kernel_rfl) (by kernel_rfl) (by kernel_rfl) (fun _ _ _ h => h) (Or.inl ⟨by kernel_rfl, fun wx hx => by go_simp⟩) hS ?_
          refine wpAnyH_take (i := 20) (v := (.pointer (some ⟨g', kk * 3 + 1, none⟩))) rfl (by kernel_rfl) (by kernel_rfl) (by kernel_rfl) (fun _ _ _ h => h) (Or.inl ⟨by kernel_rfl, fun wx hx => by go_simp⟩) hS ?_
          refine wpAnyH_take (i := 21) (v := (.string sb)) rfl (by kernel_rfl) (by kernel_rfl) (by kernel_rfl) (fun _ _ _ h => h) (Or.inl ⟨by kernel_rfl, fun wx hx => by obtain ⟨hx0, hx1, hx2, hx3, hx4⟩ := hx; go_simp⟩) hS ?_
          refine wpAnyH_take (i := 22) (v := (.bool true)) rfl (by kernel_rfl) (by kernel_rfl) (by kernel_rfl) (fun _ _ _ h => h) (Or.inl ⟨by kernel_rfl, fun wx hx => by go_simp⟩) hS ?_
          refine wpAnyH_take (i := 23) (v := (.bool true)) rfl (by kernel_rfl) (by kernel_rfl) (by kernel_rfl) (fun _ _ _ h => h) (Or.inl ⟨by kernel_rfl, fun wx hx => by go_simp⟩) hS ?_
          refine wpAnyH_take (i := 24) (v := (.bool true)) rfl (by kernel_rfl) (by kernel_rfl) (by kernel_rfl) (fun _ _ _ h => h) (Or.inl ⟨by kernel_rfl, fun wx hx => by go_simp⟩) hS ?_
          refine wpAnyH_take (i := 25) (v := (.bool true)) rfl (by kernel_rfl) (by kernel_rfl) (by kernel_rfl) (fun _ _ _ h => h) (Or.inl ⟨by kernel_rfl, fun wx hx => by kernel_rfl⟩) hS ?_
          refine wpAnyH_done (by kernel_rfl) ?_ _
          clear hS
          go_simp
          go_wp2_with fail
          go_roundg (N - (kk + 1))
          case measure => omega
          case rel => exact ⟨kk + 1, t, by omega, by omega, rfl, by go_num, HM.out, ⟨HB3.out.drew⟩⟩
        · have HT3 : Hid (∃ A s4 s9, at' = ((A : Nat) : Int) ∧ (A : Int) ≤ 128 ∧ sL.size = 128 ∧ sS.size = 128 ∧ sL.extract 0 A = s4 ∧ sS.extract A 128 = s9 ∧ s4 ++ s9 = sb ∧ s4.size + s9.size ≤ 128 ∧ t = 0 ∧ c.torn < (place D.S (kk + 1) : Int)) := ⟨torn_hit HOk.out.1 HTn2.out HM0.out Hsb.out HsS.out HsL.out Hat.out hA hB⟩
          obtain ⟨A, s4, s9, rfl, hA8, hzL, hzS, e4, e9, e10, e11, rfl, hpl⟩ := HT3.out
          have HM2 : Hid (c.torn < (place D.S (kk + 1) : Int)) := ⟨hpl⟩
          have hS1 : w3.drew.drew.cell? ⟨g', kk * 3, none⟩ = some (.string sS) ∧ w3.drew.drew.cell? ⟨g', kk * 3 + 1, none⟩ = some (.string sL) ∧ w3.drew.drew.cell? ⟨g', kk * 3 + 2, none⟩ = some (.bool true) ∧ w3.drew.drew.cell? ⟨w.heap.size, 2, none⟩ = some (.int .i64 (A : Int)) ∧ (convert 37 9 (.slice ra 128 rc)).run Try.prog w3.drew.drew = .ok (.string sb) w3.drew.drew := ⟨hS0.1, hS0.2.1, hS0.2.2.1, hS0.2.2.2.1, by have h9 := run_str (HBs.out.below (Below.refl _ w3).drew.drew); rw [Hsb.out] at h9; exact h9⟩
          have hB' : ¬ sb.toList = sL.toList := fun e => hB (toList_inj e)
          have hsl : (A : Int) ≤ (sL.size : Int) := by rw [hzL]; omega
          have hsx : (A : Int) ≤ (sS.size : Int) := by rw [hzS]; omega
          have e9' : sS.extract A sS.size = s9 := by rw [hzS]; exact e9
          have e12 : ¬ 9223372036854775807 < s4.size + s9.size := by omega
          have ha0 : (0 : Int) ≤ (A : Int) := by omega
          clear HT3 HTn2 HsS HsL Hdi Hsb Hat Hpg hpl e9 e11 hzL hzS HM HM0 HBs
          refine wp_region_held_drew (S := (fun w' => w'.cell? ⟨g', kk * 3, none⟩ = some (.string sS) ∧ w'.cell? ⟨g', kk * 3 + 1, none⟩ = some (.string sL) ∧ w'.cell? ⟨g', kk * 3 + 2, none⟩ = some (.bool true) ∧ w'.cell? ⟨w.heap.size, 2, none⟩ = some (.int .i64 (A : Int)) ∧ (convert 37 9 (.slice ra 128 rc)).run Try.prog w' = .ok (.string sb) w')) (by kernel_rfl) hS0 (fun hS => ?_)
          refine wpAnyH_take (i := 0) (v := (.slice ra 128 rc)) rfl (by kernel_rfl) (by kernel_rfl) (by kernel_rfl) (fun _ _ _ h => h) (Or.inl ⟨by kernel_rfl, fun wx hx => by kernel_rfl⟩) hS ?_
          refine wpAnyH_take (i := 1) (v := (.string sb)) rfl (by kernel_rfl) (by kernel_rfl) (by kernel_rfl) (fun _ _ _ h => h) (Or.inl ⟨by kernel_rfl, fun wx hx => by obtain ⟨hx0, hx1, hx2, hx3, hx4⟩ := hx; go_simp⟩) hS ?_
          refine wpAnyH_take (i := 2) (v := (.slice (some ⟨g', 0, none⟩) N cq)) rfl (by kernel_rfl) (by kernel_rfl) (by kernel_rfl) (fun _ _ _ h => h) (Or.inl ⟨by kernel_rfl, fun wx hx => by kernel_rfl⟩) hS ?_
          refine wpAnyH_take (i := 3) (v := (.int .i64 (kk : Int))) rfl (by kernel_rfl) (by kernel_rfl) (by kernel_rfl) (fun _ _ _ h => h) (Or.inl ⟨by kernel_rfl, fun wx hx => by kernel_rfl⟩) hS ?_
          refine wpAnyH_take (i := 4) (v := (.pointer (some ⟨g', kk * 3, none⟩))) rfl (by kernel_rfl) (by kernel_rfl) (by kernel_rfl) (fun _ _ _ h => h) (Or.inl ⟨by kernel_rfl, fun wx hx => by go_simp⟩) hS ?_
          refine wpAnyH_take (i := 5) (v := (.pointer (some ⟨g', kk * 3, none⟩))) rfl (by kernel_rfl) (by kernel_rfl) (by kernel_rfl) (fun _ _ _ h => h) (Or.inl ⟨by kernel_rfl, fun wx hx => by go_simp⟩) hS ?_
          refine wpAnyH_take (i := 6) (v := (.string sS)) rfl (by kernel_rfl) (by kernel_rfl) (by kernel_rfl) (fun _ _ _ h => h) (Or.inl ⟨by kernel_rfl, fun wx hx => by obtain ⟨hx0, hx1, hx2, hx3, hx4⟩ := hx; go_simp⟩) hS ?_
          refine wpAnyH_take (i := 7) (v := (.bool false)) rfl (by kernel_rfl) (by kernel_rfl) (by kernel_rfl) (fun _ _ _ h => h) (Or.inl ⟨by kernel_rfl, fun wx hx => by go_simp⟩) hS ?_
          refine wpAnyH_take (i := 8) (v := (.bool false)) rfl (by kernel_rfl) (by kernel_rfl) (by kernel_rfl) (fun _ _ _ h => h) (Or.inl ⟨by kernel_rfl, fun wx hx => by kernel_rfl⟩) hS ?_
          refine wpAnyH_take (i := 9) (v := (.slice (some ⟨g', 0, none⟩) N cq)) rfl (by kernel_rfl) (by kernel_rfl) (by kernel_rfl) (fun _ _ _ h => h) (Or.inl ⟨by kernel_rfl, fun wx hx => by kernel_rfl⟩) hS ?_
          refine wpAnyH_take (i := 10) (v := (.int .i64 (kk : Int))) rfl (by kernel_rfl) (by kernel_rfl) (by kernel_rfl) (fun _ _ _ h => h) (Or.inl ⟨by kernel_rfl, fun wx hx => by kernel_rfl⟩) hS ?_
          refine wpAnyH_take (i := 11) (v := (.pointer (some ⟨g', kk * 3, none⟩))) rfl (by kernel_rfl) (by kernel_rfl) (by kernel_rfl) (fun _ _ _ h => h) (Or.inl ⟨by kernel_rfl, fun wx hx => by go_simp⟩) hS ?_
          refine wpAnyH_take (i := 12) (v := (.pointer (some ⟨g', kk * 3 + 2, none⟩))) rfl (by kernel_rfl) (by kernel_rfl) (by kernel_rfl) (fun _ _ _ h => h) (Or.inl ⟨by kernel_rfl, fun wx hx => by go_simp⟩) hS ?_
          refine wpAnyH_take (i := 13) (v := (.bool true)) rfl (by kernel_rfl) (by kernel_rfl) (by kernel_rfl) (fun _ _ _ h => h) (Or.inl ⟨by kernel_rfl, fun wx hx => by obtain ⟨hx0, hx1, hx2, hx3, hx4⟩ := hx; go_simp⟩) hS ?_
          refine wpAnyH_take (i := 14) (v := (.bool true)) rfl (by kernel_rfl) (by kernel_rfl) (by kernel_rfl) (fun _ _ _ h => h) (Or.inl ⟨by kernel_rfl, fun wx hx => by kernel_rfl⟩) hS ?_
          refine wpAnyH_take (i := 15) (v := (.slice ra 128 rc)) rfl (by kernel_rfl) (by kernel_rfl) (by kernel_rfl) (fun _ _ _ h => h) (Or.inl ⟨by kernel_rfl, fun wx hx => by kernel_rfl⟩) hS ?_
          refine wpAnyH_take (i := 16) (v := (.string sb)) rfl (by kernel_rfl) (by kernel_rfl) (by kernel_rfl) (fun _ _ _ h => h) (Or.inl ⟨by kernel_rfl, fun wx hx => by obtain ⟨hx0, hx1, hx2, hx3, hx4⟩ := hx; go_simp⟩) hS ?_
          refine wpAnyH_take (i := 17) (v := (.slice (some ⟨g', 0, none⟩) N cq)) rfl (by kernel_rfl) (by kernel_rfl) (by kernel_rfl) (fun _ _ _ h => h) (Or.inl ⟨by kernel_rfl, fun wx hx => by kernel_rfl⟩) hS ?_
          refine wpAnyH_take (i := 18) (v := (.int .i64 (kk : Int))) rfl (by kernel_rfl) (by kernel_rfl) (by kernel_rfl) (fun _ _ _ h => h) (Or.inl ⟨by kernel_rfl, fun wx hx => by kernel_rfl⟩) hS ?_
          refine wpAnyH_take (i := 19) (v := (.pointer (some ⟨g', kk * 3, none⟩))) rfl (by kernel_rfl) (by kernel_rfl) (by kernel_rfl) (fun _ _ _ h => h) (Or.inl ⟨by kernel_rfl, fun wx hx => by go_simp⟩) hS ?_
          refine wpAnyH_take (i := 20) (v := (.pointer (some ⟨g', kk * 3 + 1, none⟩))) rfl (by kernel_rfl) (by kernel_rfl) (by kernel_rfl) (fun _ _ _ h => h) (Or.inl ⟨by kernel_rfl, fun wx hx => by go_simp⟩) hS ?_
          refine wpAnyH_take (i := 21) (v := (.string sL)) rfl (by kernel_rfl) (by kernel_rfl) (by kernel_rfl) (fun _ _ _ h => h) (Or.inl ⟨by kernel_rfl, fun wx hx => by obtain ⟨hx0, hx1, hx2, hx3, hx4⟩ := hx; go_simp⟩) hS ?_
          refine wpAnyH_take (i := 22) (v := (.bool false)) rfl (by kernel_rfl) (by kernel_rfl) (by kernel_rfl) (fun _ _ _ h => h) (Or.inl ⟨by kernel_rfl, fun wx hx => by go_simp⟩) hS ?_
          refine wpAnyH_take (i := 23) (v := (.bool false)) rfl (by kernel_rfl) (by kernel_rfl) (by kernel_rfl) (fun _ _ _ h => h) (Or.inl ⟨by kernel_rfl, fun wx hx => by go_simp⟩) hS ?_
          refine wpAnyH_take (i := 24) (v := (.bool false)) rfl (by kernel_rfl) (by kernel_rfl) (by kernel_rfl) (fun _ _ _ h => h) (Or.inl ⟨by kernel_rfl, fun wx hx => by go_simp⟩) hS ?_
          refine wpAnyH_take (i := 25) (v := (.bool false)) rfl (by kernel_rfl) (by kernel_rfl) (by kernel_rfl) (fun _ _ _ h => h) (Or.inl ⟨by kernel_rfl, fun wx hx => by kernel_rfl⟩) hS ?_
          refine wpAnyH_done (by kernel_rfl) ?_ _
          clear hS
          go_simp
          go_wp2_with fail
          refine wp_region_held_drew (S := (fun w' => w'.cell? ⟨g', kk * 3, none⟩ = some (.string sS) ∧ w'.cell? ⟨g', kk * 3 + 1, none⟩ = some (.string sL) ∧ w'.cell? ⟨g', kk * 3 + 2, none⟩ = some (.bool true) ∧ w'.cell? ⟨w.heap.size, 2, none⟩ = some (.int .i64 (A : Int)) ∧ (convert 37 9 (.slice ra 128 rc)).run Try.prog w' = .ok (.string sb) w')) (by kernel_rfl) hS1 (fun hS => ?_)
          refine wpAnyH_take (i := 0) (v := (.slice (some ⟨g', 0, none⟩) N cq)) rfl (by kernel_rfl) (by kernel_rfl) (by kernel_rfl) (fun _ _ _ h => h) (Or.inl ⟨by kernel_rfl, fun wx hx => by kernel_rfl⟩) hS ?_
          refine wpAnyH_take (i := 1) (v := (.int .i64 (kk : Int))) rfl (by kernel_rfl) (by kernel_rfl) (by kernel_rfl) (fun _ _ _ h => h) (Or.inl ⟨by kernel_rfl, fun wx hx => by kernel_rfl⟩) hS ?_
          refine wpAnyH_take (i := 2) (v := (.pointer (some ⟨g', kk * 3, none⟩))) rfl (by kernel_rfl) (by kernel_rfl) (by kernel_rfl) (fun _ _ _ h => h) (Or.inl ⟨by kernel_rfl, fun wx hx => by go_simp⟩) hS ?_
          refine wpAnyH_take (i := 3) (v := (.pointer (some ⟨g', kk * 3 + 2, none⟩))) rfl (by kernel_rfl) (by kernel_rfl) (by kernel_rfl) (fun _ _ _ h => h) (Or.inl ⟨by kernel_rfl, fun wx hx => by go_simp⟩) hS ?_
          refine wpAnyH_take (i := 4) (v := (.bool true)) rfl (by kernel_rfl) (by kernel_rfl) (by kernel_rfl) (fun _ _ _ h => h) (Or.inl ⟨by kernel_rfl, fun wx hx => by obtain ⟨hx0, hx1, hx2, hx3, hx4⟩ := hx; go_simp⟩) hS ?_
          refine wpAnyH_take (i := 5) (v := (.bool true)) rfl (by kernel_rfl) (by kernel_rfl) (by kernel_rfl) (fun _ _ _ h => h) (Or.inl ⟨by kernel_rfl, fun wx hx => by kernel_rfl⟩) hS ?_
          refine wpAnyH_take (i := 6) (v := (.pointer (some ⟨w.heap.size, 2, none⟩))) rfl (by kernel_rfl) (by kernel_rfl) (by kernel_rfl) (fun _ _ _ h => h) (Or.inl ⟨by kernel_rfl, fun wx hx => by go_simp⟩) hS ?_
          refine wpAnyH_take (i := 7) (v := (.int .i64 (A : Int))) rfl (by kernel_rfl) (by kernel_rfl) (by kernel_rfl) (fun _ _ _ h => h) (Or.inl ⟨by kernel_rfl, fun wx hx => by obtain ⟨hx0, hx1, hx2, hx3, hx4⟩ := hx; go_simp⟩) hS ?_
          refine wpAnyH_take (i := 8) (v := (.bool true)) rfl (by kernel_rfl) (by kernel_rfl) (by kernel_rfl) (fun _ _ _ h => h) (Or.inl ⟨by kernel_rfl, fun wx hx => by go_simp⟩) hS ?_
          refine wpAnyH_take (i := 9) (v := (.bool true)) rfl (by kernel_rfl) (by kernel_rfl) (by kernel_rfl) (fun _ _ _ h => h) (Or.inl ⟨by kernel_rfl, fun wx hx => by go_simp⟩) hS ?_
          refine wpAnyH_take (i := 10) (v := (.bool true)) rfl (by kernel_rfl) (by kernel_rfl) (by kernel_rfl) (fun _ _ _ h => h) (Or.inl ⟨by kernel_rfl, fun wx hx => by kernel_rfl⟩) hS ?_
          refine wpAnyH_take (i := 11) (v := (.pointer (some ⟨w.heap.size, 2, none⟩))) rfl (by kernel_rfl) (by kernel_rfl) (by kernel_rfl) (fun _ _ _ h => h) (Or.inl ⟨by kernel_rfl, fun wx hx => by go_simp⟩) hS ?_
          refine wpAnyH_take (i := 12) (v := (.int .i64 (A : Int))) rfl (by kernel_rfl) (by kernel_rfl) (by kernel_rfl) (fun _ _ _ h => h) (Or.inl ⟨by kernel_rfl, fun wx hx => by obtain ⟨hx0, hx1, hx2, hx3, hx4⟩ := hx; go_simp⟩) hS ?_
          refine wpAnyH_take (i := 13) (v := (.bool true)) rfl (by kernel_rfl) (by kernel_rfl) (by kernel_rfl) (fun _ _ _ h => h) (Or.inl ⟨by kernel_rfl, fun wx hx => by go_simp⟩) hS ?_
          refine wpAnyH_take (i := 14) (v := (.bool true)) rfl (by kernel_rfl) (by kernel_rfl) (by kernel_rfl) (fun _ _ _ h => h) (Or.inl ⟨by kernel_rfl, fun wx hx => by go_simp⟩) hS ?_
          refine wpAnyH_take (i := 15) (v := (.bool true)) rfl (by kernel_rfl) (by kernel_rfl) (by kernel_rfl) (fun _ _ _ h => h) (Or.inl ⟨by kernel_rfl, fun wx hx => by kernel_rfl⟩) hS ?_
          refine wpAnyH_take (i := 16) (v := (.slice ra 128 rc)) rfl (by kernel_rfl) (by kernel_rfl) (by kernel_rfl) (fun _ _ _ h => h) (Or.inl ⟨by kernel_rfl, fun wx hx => by kernel_rfl⟩) hS ?_
          refine wpAnyH_take (i := 17) (v := (.string sb)) rfl (by kernel_rfl) (by kernel_rfl) (by kernel_rfl) (fun _ _ _ h => h) (Or.inl ⟨by kernel_rfl, fun wx hx => by obtain ⟨hx0, hx1, hx2, hx3, hx4⟩ := hx; go_simp⟩) hS ?_
          refine wpAnyH_take (i := 18) (v := (.slice (some ⟨g', 0, none⟩) N cq)) rfl (by kernel_rfl) (by kernel_rfl) (by kernel_rfl) (fun _ _ _ h => h) (Or.inl ⟨by kernel_rfl, fun wx hx => by kernel_rfl⟩) hS ?_
          refine wpAnyH_take (i := 19) (v := (.int .i64 (kk : Int))) rfl (by kernel_rfl) (by kernel_rfl) (by kernel_rfl) (fun _ _ _ h => h) (Or.inl ⟨by kernel_rfl, fun wx hx => by kernel_rfl⟩) hS ?_
          refine wpAnyH_take (i := 20) (v := (.pointer (some ⟨g', kk * 3, none⟩))) rfl (by kernel_rfl) (by kernel_rfl) (by kernel_rfl) (fun _ _ _ h => h) (Or.inl ⟨by kernel_rfl, fun wx hx => by go_simp⟩) hS ?_
          refine wpAnyH_take (i := 21) (v := (.pointer (some ⟨g', kk * 3 + 1, none⟩))) rfl (by kernel_rfl) (by kernel_rfl) (by kernel_rfl) (fun _ _ _ h => h) (Or.inl ⟨by kernel_rfl, fun wx hx => by go_simp⟩) hS ?_
          refine wpAnyH_take (i := 22) (v := (.string sL)) rfl (by kernel_rfl) (by kernel_rfl) (by kernel_rfl) (fun _ _ _ h => h) (Or.inl ⟨by kernel_rfl, fun wx hx => by obtain ⟨hx0, hx1, hx2, hx3, hx4⟩ := hx; go_simp⟩) hS ?_
          refine wpAnyH_take (i := 23) (v := (.pointer (some ⟨w.heap.size, 2, none⟩))) rfl (by kernel_rfl) (by kernel_rfl) (by kernel_rfl) (fun _ _ _ h => h) (Or.inl ⟨by kernel_rfl, fun wx hx => by go_simp⟩) hS ?_
          refine wpAnyH_take (i := 24) (v := (.int .i64 (A : Int))) rfl (by kernel_rfl) (by kernel_rfl) (by kernel_rfl) (fun _ _ _ h => h) (Or.inl ⟨by kernel_rfl, fun wx hx => by obtain ⟨hx0, hx1, hx2, hx3, hx4⟩ := hx; go_simp⟩) hS ?_
          refine wpAnyH_take (i := 25) (v := (.string s4)) rfl (by kernel_rfl) (by kernel_rfl) (by kernel_rfl) (fun _ _ _ h => h) (Or.inl ⟨by kernel_rfl, fun wx hx => by go_simp⟩) hS ?_
          refine wpAnyH_take (i := 26) (v := (.slice (some ⟨g', 0, none⟩) N cq)) rfl (by kernel_rfl) (by kernel_rfl) (by kernel_rfl) (fun _ _ _ h => h) (Or.inl ⟨by kernel_rfl, fun wx hx => by kernel_rfl⟩) hS ?_
          refine wpAnyH_take (i := 27) (v := (.int .i64 (kk : Int))) rfl (by kernel_rfl) (by kernel_rfl) (by kernel_rfl) (fun _ _ _ h => h) (Or.inl ⟨by kernel_rfl, fun wx hx => by kernel_rfl⟩) hS ?_
          refine wpAnyH_take (i := 28) (v := (.pointer (some ⟨g', kk * 3, none⟩))) rfl (by kernel_rfl) (by kernel_rfl) (by kernel_rfl) (fun _ _ _ h => h) (Or.inl ⟨by kernel_rfl, fun wx hx => by go_simp⟩) hS ?_
          refine wpAnyH_take (i := 29) (v := (.pointer (some ⟨g', kk * 3, none⟩))) rfl (by kernel_rfl) (by kernel_rfl) (by kernel_rfl) (fun _ _ _ h => h) (Or.inl ⟨by kernel_rfl, fun wx hx => by go_simp⟩) hS ?_
          refine wpAnyH_take (i := 30) (v := (.string sS)) rfl (by kernel_rfl) (by kernel_rfl) (by kernel_rfl) (fun _ _ _ h => h) (Or.inl ⟨by kernel_rfl, fun wx hx => by obtain ⟨hx0, hx1, hx2, hx3, hx4⟩ := hx; go_simp⟩) hS ?_
          refine wpAnyH_take (i := 31) (v := (.pointer (some ⟨w.heap.size, 2, none⟩))) rfl (by kernel_rfl) (by kernel_rfl) (by kernel_rfl) (fun _ _ _ h => h) (Or.inl ⟨by kernel_rfl, fun wx hx => by go_simp⟩) hS ?_
          refine wpAnyH_take (i := 32) (v := (.int .i64 (A : Int))) rfl (by kernel_rfl) (by kernel_rfl) (by kernel_rfl) (fun _ _ _ h => h) (Or.inl ⟨by kernel_rfl, fun wx hx => by obtain ⟨hx0, hx1, hx2, hx3, hx4⟩ := hx; go_simp⟩) hS ?_
          refine wpAnyH_take (i := 33) (v := (.string s9)) rfl (by kernel_rfl) (by kernel_rfl) (by kernel_rfl) (fun _ _ _ h => h) (Or.inl ⟨by kernel_rfl, fun wx hx => by go_simp⟩) hS ?_
          refine wpAnyH_take (i := 34) (v := (.string sb)) rfl (by kernel_rfl) (by kernel_rfl) (by kernel_rfl) (fun _ _ _ h => h) (Or.inl ⟨by kernel_rfl, fun wx hx => by go_simp⟩) hS ?_
          refine wpAnyH_take (i := 35) (v := (.bool true)) rfl (by kernel_rfl) (by kernel_rfl) (by kernel_rfl) (fun _ _ _ h => h) (Or.inl ⟨by kernel_rfl, fun wx hx => by go_simp⟩) hS ?_
          refine wpAnyH_take (i := 36) (v := (.bool true)) rfl (by kernel_rfl) (by kernel_rfl) (by kernel_rfl) (fun _ _ _ h => h) (Or.inl ⟨by kernel_rfl, fun wx hx => by go_simp⟩) hS ?_
          refine wpAnyH_take (i := 37) (v := (.bool true)) rfl (by kernel_rfl) (by kernel_rfl) (by kernel_rfl) (fun _ _ _ h => h) (Or.inl ⟨by kernel_rfl, fun wx hx => by kernel_rfl⟩) hS ?_
          refine wpAnyH_done (by kernel_rfl) ?_ _
          clear hS
          go_simp
          go_wp2_with fail
          go_roundg (N - (kk + 1))
          case measure => omega
          case rel => exact ⟨kk + 1, 1, by omega, by omega, by go_num, by go_num, Or.inr ⟨rfl, HM2.out⟩, ⟨HB3.out.drew.drew⟩⟩
    · have hltz : ¬ (kk : Int) < (N : Int) := by omega
      have ht1 : (t : Int) ≤ 1 := by omega
      have HAr : Hid (At wr p g bm w0.heap.size (crD D c)) := ⟨HA2.out.below HB.out⟩
      have HBr : Hid (Below w.heap.size w wr) := ⟨HB0.out.trans ((HB2.out.trans (HB.out.mono HB2.out.size)).mono HB0.out.size)⟩
      clear hto HB HC2
      go_wp2_with (first
        | (go_at_call 10; refine (live_any _).mono ?_; rintro e x1 ⟨rfl, hb⟩; have t9 := dirty_any (HAr.out.below hb); rw [show dlI (crD D c).S = [] from by show (dl (crash c D.S)).map _ = []; rw [dl_crash]; rfl] at t9; have HBx : Hid (Below w.heap.size w x1) := ⟨HBr.out.trans (hb.mono HBr.out.size)⟩; clear hb)
        | (go_at_call 14; refine t9.mono ?_; rintro e x2 ⟨dv, rfl, hO, hb⟩; clear t9; obtain ⟨da, dc, rfl, _⟩ := hO.reads; have HO : Hid (Below w.heap.size w x2) := ⟨HBx.out.trans (hb.mono HBx.out.size)⟩; clear hO hb))
      go_ret
      exact ⟨rfl, HO.out⟩
theorem walk_diskTorn (n : Int) (v : Value) (ds : List Dd) (xv : Value) (c : Cr) (w : World) (_ : (Lit.int .i64 n).wf = true) (hv : Deeds w v ds) (hx : CrV w xv c) : Calls Try.prog 6 #[.int .i64 n, v, xv] w fun e w' => e = .returned (.bool true) ∧ Below w.heap.size w w' := by
  obtain ⟨kv, rfl, h1, h2⟩ := hx
  exact torn_any n v ds kv c w hv h1 h2
end Go.Proofs.Ytmcikhdfpmkpnaa
