/- The walk of SegmentHooks. -/
import Derived.Test.YtiloclekhddkfaaS20
namespace Go.Proofs.Ytiloclekhddkfaa
open Go.RowKit Go.Lib

section
variable {w : World}
set_option maxHeartbeats 4000000 in
set_option maxRecDepth 100000 in
theorem walk_hooks (v : Value) (L : List Rf) (rate : Int) (h : RdR w v L) (hL : L.length ≤ 10000000000000) : Calls Try.prog 3 #[v, .int .i64 rate] w fun e w' => e = .returned (.bool true) ∧ Below w.heap.size w w' := by
  have t1 := hooks_any v L rate h hL
  have Hm := Hid.mk (hooks_mem rate L h.sums)
  have Hl := Hid.mk (hooks_len rate L)
  have H := Hid.mk h
  have t2 := fun (wx : World) (hb : Below w.heap.size w wx) => rhooks_any (w := wx) v L rate (h.below hb) hL
  generalize hooksF rate L = O at t1 t2 Hm Hl
  obtain ⟨n, Hn⟩ : ∃ n, Hid (L.length = n) := ⟨_, ⟨rfl⟩⟩
  obtain ⟨av, cv, rfl, hcv, hcm, _⟩ := h.shape
  rw [Hn.out] at hL H hcv t1 ⊢
  simp only [Hn.out] at t2
  clear h
  go_enter Try.func3, Try.ntmps3
  go_upto_region 2 with (go_at_call 9; refine t1.mono ?_; rintro e w1 ⟨v1, rfl, hO1, hb1⟩)
  have HO1 := Hid.mk hO1
  have HB1 := Hid.mk hb1
  have t3 := t2 w1 hb1
  clear hO1 hb1 t1 t2
  go_upto_region 3 with (go_at_call 10; refine t3.mono ?_; rintro e w2 ⟨v2, rfl, hO2, hb2⟩)
  have HO1b : Hid (OwnS w2 w.heap.size v1 O) := ⟨OwnE.far HO1.out (Chg.ofBelow (X := []) hb2) (by simp)⟩
  have HO2 := Hid.mk hO2
  have HB2 : Hid (Below w.heap.size w w2) := ⟨HB1.out.trans (hb2.mono HB1.out.size)⟩
  have HR2 : Hid (RdR w2 (.slice av n cv) L) := ⟨H.out.below HB2.out⟩
  clear hO2 hb2 t3 HO1
  obtain ⟨a5, c5, e5, _⟩ := (HO1b.out.rd []).shape
  subst e5
  obtain ⟨a6, c6, e6, _⟩ := (HO2.out.rd []).shape
  subst e6
  obtain ⟨nH, HnH⟩ : ∃ n, Hid (O.length = n) := ⟨_, ⟨rfl⟩⟩
  rw [HnH.out] at HO1b HO2 Hl ⊢
  have hl := Hl.out
  obtain ⟨W, eW⟩ : ∃ x, x = w2 := ⟨_, rfl⟩
  subst eW
  go_wp2_with fail
  go_loopg [7] nH (fun gg s7 wq => ∃ k : Nat, k ≤ nH ∧ nH - k ≤ gg ∧ s7 = .int .i64 (k : Int) ∧ Hid (Chg [] W wq))
  case atStart => exact ⟨0, Nat.zero_le _, by omega, rfl, ⟨Chg.refl _ _⟩⟩
  case round =>
    obtain ⟨k, hkb, hg2, rfl, HG⟩ := hrel
    rename World => wq
    by_cases hkl : k < nH
    · have hkz : (k : Int) < (nH : Int) := by omega
      have hkO : k < O.length := by rw [HnH.out]; exact hkl
      obtain ⟨g1, p1, c1, e1, hat1⟩ := RdS.at (HO1b.out.rd []) hkO
      obtain ⟨g2, p2, c2, e2, hat2⟩ := RdS.at (HO2.out.rd []) hkO
      rw [HnH.out] at e1 e2
      simp at e1 e2
      obtain ⟨rfl, rfl⟩ := e1
      obtain ⟨rfl, rfl⟩ := e2
      have Ht : Hid (Sum32 (O.getD k [])) := ⟨Hm.out _ (getD_mem' hkO)⟩
      have Hat1 : Hid (At wq.drew g1 (p1 + k * 32) (sc (O.getD k []))) := ⟨hat1.far HG.out.drew (by simp)⟩
      have Hat2 : Hid (At wq.drew g2 (p2 + k * 32) (sc (O.getD k []))) := ⟨hat2.far HG.out.drew (by simp)⟩
      generalize O.getD k [] = t at Ht Hat1 Hat2
      have hq := fun (w : World) => neS w Ht.out Ht.out
      have hg := fun (w : World) (x y : Operand) (xs ys : Array Value) => guardS w .neq x y xs ys
      have r1 := run_loadS Hat1.out Ht.out
      have r2 := run_loadS Hat2.out Ht.out
      obtain ⟨ct, Hct⟩ : ∃ ct, Hid ((sc t).toArray = ct) := ⟨_, ⟨rfl⟩⟩
      simp only [Hct.out] at hq
      rw [Hct.out] at r1 r2
      have hS0 : (fun w' => (loadVar 25 ⟨g1, p1 + k * 32, none⟩).run Try.prog w' = .ok (.agg ct) w' ∧ (loadVar 25 ⟨g2, p2 + k * 32, none⟩).run Try.prog w' = .ok (.agg ct) w') wq.drew := ⟨r1, r2⟩
      clear hat1 hat2 r1 r2
      go_upto_region 8 with fail
      refine wp_region_held_drew (S := (fun w' => (loadVar 25 ⟨g1, p1 + k * 32, none⟩).run Try.prog w' = .ok (.agg ct) w' ∧ (loadVar 25 ⟨g2, p2 + k * 32, none⟩).run Try.prog w' = .ok (.agg ct) w')) (by kernel_rfl) hS0 (fun hS => ?_)
      refine wpAnyH_take (i := 0) (v := .slice (some ⟨g1, p1, none⟩) nH c5) rfl (by kernel_rfl) (by kernel_rfl) (by kernel_rfl) (fun _ _ _ h => h) (Or.inl ⟨by kernel_rfl, fun _ _ => by kernel_rfl⟩) hS ?_
      refine wpAnyH_take (i := 1) (v := .int .i64 (k : Int)) rfl (by kernel_rfl) (by kernel_rfl) (by kernel_rfl) (fun _ _ _ h => h) (Or.inl ⟨by kernel_rfl, fun _ _ => by kernel_rfl⟩) hS ?_
      refine wpAnyH_take (i := 2) (v := .pointer (some ⟨g1, p1 + k * 32, none⟩)) rfl (by kernel_rfl) (by kernel_rfl) (by kernel_rfl) (fun _ _ _ h => h) (Or.inl ⟨by kernel_rfl, fun wx hx => by go_simp⟩) hS ?_
      refine wpAnyH_take (i := 3) (v := .agg ct) rfl (by kernel_rfl) (by kernel_rfl) (by kernel_rfl) (fun _ _ _ h => h) (Or.inl ⟨by kernel_rfl, fun wx hx => exec_load rfl g1 (p1 + k * 32) (by kernel_rfl) hx.1⟩) hS ?_
      refine wpAnyH_take (i := 4) (v := .slice (some ⟨g2, p2, none⟩) nH c6) rfl (by kernel_rfl) (by kernel_rfl) (by kernel_rfl) (fun _ _ _ h => h) (Or.inl ⟨by kernel_rfl, fun _ _ => by kernel_rfl⟩) hS ?_
      refine wpAnyH_take (i := 5) (v := .int .i64 (k : Int)) rfl (by kernel_rfl) (by kernel_rfl) (by kernel_rfl) (fun _ _ _ h => h) (Or.inl ⟨by kernel_rfl, fun _ _ => by kernel_rfl⟩) hS ?_
      refine wpAnyH_take (i := 6) (v := .pointer (some ⟨g2, p2 + k * 32, none⟩)) rfl (by kernel_rfl) (by kernel_rfl) (by kernel_rfl) (fun _ _ _ h => h) (Or.inl ⟨by kernel_rfl, fun wx hx => by go_simp⟩) hS ?_
      refine wpAnyH_take (i := 7) (v := .agg ct) rfl (by kernel_rfl) (by kernel_rfl) (by kernel_rfl) (fun _ _ _ h => h) (Or.inl ⟨by kernel_rfl, fun wx hx => exec_load rfl g2 (p2 + k * 32) (by kernel_rfl) hx.2⟩) hS ?_
      refine wpAnyH_take (i := 8) (v := .bool false) rfl (by kernel_rfl) (by kernel_rfl) (by kernel_rfl) (fun _ _ _ h => h) (Or.inl ⟨by kernel_rfl, fun wx hx => by go_simp⟩) hS ?_
      refine wpAnyH_done (by kernel_rfl) ?_ _
      clear hS hS0
      go_simp
      go_wp2_with fail
      go_roundg (nH - (k + 1))
      case measure => omega
      case rel => exact ⟨k + 1, by omega, by omega, by go_num, ⟨HG.out.drew⟩⟩
    · obtain rfl : k = nH := by omega
      have HG0 := HG
      go_wp2_with fail
      go_loopg [8] n (fun gg s8 wq => ∃ kk : Nat, kk ≤ n ∧ n - kk ≤ gg ∧ s8 = .int .i64 (kk : Int) ∧ Hid (Chg [] W wq))
      case atStart => exact ⟨0, Nat.zero_le _, by omega, rfl, HG0⟩
      case round =>
        clear HG HG0
        obtain ⟨kk, hkk, hgg, rfl, HG⟩ := hrel
        rename World => wq
        by_cases hlt : kk < n
        · have hltz : (kk : Int) < (n : Int) := by omega
          have hkL : kk < L.length := by rw [Hn.out]; exact hlt
          obtain ⟨b, off, cap, e, _, hat⟩ := HR2.out.atS hkL
          have hsm := HR2.out.sum hkL
          rw [Hn.out] at e
          simp at e
          obtain ⟨rfl, rfl⟩ := e
          generalize L.getD kk r0 = r at hat hsm
          have Hs32 : Hid (Sum32 r.s) := ⟨⟨hsm.len, hsm.byte⟩⟩
          have t1 := fun (wx : World) => hook_any (w := wx) r.s hsm rate
          have t2 := fun (wx : World) => rhook_any (w := wx) r.s hsm rate
          obtain ⟨cs, Hcs⟩ : ∃ cs, Hid ((sc r.s).toArray = cs) := ⟨_, ⟨rfl⟩⟩
          have Hsa : Hid (sa r.s = cs) := ⟨Hcs.out⟩
          rw [Hsa.out] at t1 t2
          generalize hk r.s rate = K at t1 t2
          have HSS : Hid (∀ w', Chg [] W w' → (loadVar 25 ⟨b, off + kk * 35, none⟩).run Try.prog w' = .ok (.agg cs) w') := ⟨fun w' hc => by
            have q := run_loadS (hat.far hc (by simp)) Hs32.out
            rw [Hcs.out] at q
            exact q⟩
          have hS0 : (fun w' => (loadVar 25 ⟨b, off + kk * 35, none⟩).run Try.prog w' = .ok (.agg cs) w') wq.drew := HSS.out _ HG.out.drew
          clear hat hsm
          go_upto_region 13 with fail
          refine wp_region_held_drew (S := (fun w' => (loadVar 25 ⟨b, off + kk * 35, none⟩).run Try.prog w' = .ok (.agg cs) w')) (by kernel_rfl) hS0 (fun hS => ?_)
          refine wpAnyH_take (i := 0) (v := .slice (some ⟨b, off, none⟩) n cv) rfl (by kernel_rfl) (by kernel_rfl) (by kernel_rfl) (fun _ _ _ h => h) (Or.inl ⟨by kernel_rfl, fun _ _ => by kernel_rfl⟩) hS ?_
          refine wpAnyH_take (i := 1) (v := .int .i64 (kk : Int)) rfl (by kernel_rfl) (by kernel_rfl) (by kernel_rfl) (fun _ _ _ h => h) (Or.inl ⟨by kernel_rfl, fun _ _ => by kernel_rfl⟩) hS ?_
          refine wpAnyH_take (i := 2) (v := .pointer (some ⟨b, off + kk * 35, none⟩)) rfl (by kernel_rfl) (by kernel_rfl) (by kernel_rfl) (fun _ _ _ h => h) (Or.inl ⟨by kernel_rfl, fun wx hx => by go_simp⟩) hS ?_
          refine wpAnyH_take (i := 3) (v := .pointer (some ⟨b, off + kk * 35, none⟩)) rfl (by kernel_rfl) (by kernel_rfl) (by kernel_rfl) (fun _ _ _ h => h) (Or.inl ⟨by kernel_rfl, fun wx hx => by go_simp⟩) hS ?_
          refine wpAnyH_take (i := 4) (v := .agg cs) rfl (by kernel_rfl) (by kernel_rfl) (by kernel_rfl) (fun _ _ _ h => h) (Or.inl ⟨by kernel_rfl, fun wx hx => exec_load rfl b (off + kk * 35) (by kernel_rfl) hx⟩) hS ?_
          refine wpAnyH_take (i := 5) (v := .int .i64 rate) rfl (by kernel_rfl) (by kernel_rfl) (by kernel_rfl) (fun _ _ _ h => h) (Or.inl ⟨by kernel_rfl, fun _ _ => by kernel_rfl⟩) hS ?_
          refine wpAnyH_take (i := 7) (v := .slice (some ⟨b, off, none⟩) n cv) rfl (by kernel_rfl) (by kernel_rfl) (by kernel_rfl) (fun _ _ _ h => h) (Or.inl ⟨by kernel_rfl, fun _ _ => by kernel_rfl⟩) hS ?_
          refine wpAnyH_take (i := 8) (v := .int .i64 (kk : Int)) rfl (by kernel_rfl) (by kernel_rfl) (by kernel_rfl) (fun _ _ _ h => h) (Or.inl ⟨by kernel_rfl, fun _ _ => by kernel_rfl⟩) hS ?_
          refine wpAnyH_take (i := 9) (v := .pointer (some ⟨b, off + kk * 35, none⟩)) rfl (by kernel_rfl) (by kernel_rfl) (by kernel_rfl) (fun _ _ _ h => h) (Or.inl ⟨by kernel_rfl, fun wx hx => by go_simp⟩) hS ?_
          refine wpAnyH_take (i := 10) (v := .pointer (some ⟨b, off + kk * 35, none⟩)) rfl (by kernel_rfl) (by kernel_rfl) (by kernel_rfl) (fun _ _ _ h => h) (Or.inl ⟨by kernel_rfl, fun wx hx => by go_simp⟩) hS ?_
          refine wpAnyH_take (i := 11) (v := .agg cs) rfl (by kernel_rfl) (by kernel_rfl) (by kernel_rfl) (fun _ _ _ h => h) (Or.inl ⟨by kernel_rfl, fun wx hx => exec_load rfl b (off + kk * 35) (by kernel_rfl) hx⟩) hS ?_
          refine wpAnyH_take (i := 12) (v := .int .i64 rate) rfl (by kernel_rfl) (by kernel_rfl) (by kernel_rfl) (fun _ _ _ h => h) (Or.inl ⟨by kernel_rfl, fun _ _ => by kernel_rfl⟩) hS ?_
          refine wpAnyH_ready (rs := [6]) (by kernel_rfl) (by simp) (AllReadyH.cons rfl (fun Kc hK => ?_) AllReadyH.nil)
          go_simp
          refine (t1 _).mono ?_
          rintro e w5 ⟨rfl, hb5⟩
          have HG5 : Hid (Chg [] W w5) := ⟨HG.out.drew.trans (Chg.ofBelow hb5)⟩
          refine hK.out _ _ (HSS.out w5 HG5.out) (fun hS => ?_)
          clear hK
          refine wpAnyH_ready (rs := [13]) (by kernel_rfl) (by simp) (AllReadyH.cons rfl (fun Kc hK => ?_) AllReadyH.nil)
          go_simp
          refine (t2 _).mono ?_
          rintro e w6 ⟨rfl, hb6⟩
          have HG6 : Hid (Chg [] W w6) := ⟨HG5.out.trans (Chg.ofBelow hb6)⟩
          refine hK.out _ _ (HSS.out w6 HG6.out) (fun hS => ?_)
          clear hK
          refine wpAnyH_take (i := 14) (v := .bool false) rfl (by kernel_rfl) (by kernel_rfl) (by kernel_rfl) (fun _ _ _ h => h) (Or.inl ⟨by kernel_rfl, fun wx hx => by go_simp⟩) hS ?_
          refine wpAnyH_done (by kernel_rfl) ?_ _
          clear hS hS0
          go_simp
          go_wp2_with fail
          go_roundg (n - (kk + 1))
          case measure => omega
          case rel => exact ⟨kk + 1, by omega, by omega, by go_num, HG6⟩
        · obtain rfl : kk = n := by omega
          go_wp2_with fail
          refine (live_any (w := wq)).mono ?_
          rintro e w9 ⟨rfl, hb9⟩
          go_wp2_with fail
          go_ret
          exact ⟨rfl, HB2.out.trans ((HG.out.below (Nat.le_refl _) (by simp)).mono HB2.out.size |>.trans (hb9.mono (Nat.le_trans HB2.out.size HG.out.size)))⟩
end
end Go.Proofs.Ytiloclekhddkfaa
