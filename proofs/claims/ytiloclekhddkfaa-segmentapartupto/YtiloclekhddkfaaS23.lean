/- The document's Split. -/
import Derived.Test.YtiloclekhddkfaaS22
namespace Go.Proofs.Ytiloclekhddkfaa
open Go.RowKit Go.Lib

section
variable {w : World}
set_option maxHeartbeats 4000000 in
set_option maxRecDepth 100000 in
theorem rsplit_any (v : Value) (L : List Rf) (most : Int) (h : RdR w v L) (hL : L.length ≤ 4000000000000) : Calls Try.prog 15 #[v, .int .i64 most] w fun e w' => ∃ v', e = .returned (.tuple #[v', .int .i64 (spR most L).2]) ∧ OwnG w' (fun k => w.heap.size ≤ k) w.heap.size v' (spR most L).1 ∧ Below w.heap.size w w' := by
  have H := Hid.mk h
  obtain ⟨n, Hn⟩ : ∃ n, Hid (L.length = n) := ⟨_, ⟨rfl⟩⟩
  obtain ⟨av, cv, rfl, hcv, hcm, _⟩ := h.shape
  rw [Hn.out] at hL H hcv ⊢
  clear h
  by_cases hlo : most < 1
  · have HR : Hid (spR most L = ([], 2)) := ⟨by unfold spR; rw [if_neg (by omega)]⟩
    rw [HR.out]
    go_enter Try.func15, Try.ntmps15
    go_wp2
    go_ret2
    exact ⟨_, rfl, OwnG.nil _ _ _, Below.refl _ _⟩
  by_cases hhi : 64 < most
  · have HR : Hid (spR most L = ([], 2)) := ⟨by unfold spR; rw [if_neg (by omega)]⟩
    rw [HR.out]
    go_enter Try.func15, Try.ntmps15
    go_wp2
    go_ret2
    exact ⟨_, rfl, OwnG.nil _ _ _, Below.refl _ _⟩
  have hm1 : 1 ≤ most := by omega
  have HR : Hid (spR most L = (splitF most L, 0)) := ⟨by unfold spR; rw [if_pos (by omega)]⟩
  rw [HR.out]
  have HSf : Hid (splitF most L = if 0 < (spF most L).2.length then (spF most L).1 ++ [(spF most L).2] else (spF most L).1) := ⟨rfl⟩
  simp only
  obtain ⟨SF, HSF⟩ : ∃ x, Hid (splitF most L = x) := ⟨_, ⟨rfl⟩⟩
  rw [HSF.out] at HSf ⊢
  obtain ⟨w1, Hw1⟩ : ∃ w1, Hid (w.alloc (.cells #[] 22) = w1) := ⟨_, ⟨rfl⟩⟩
  have HO1 : Hid (OwnG w1 (fun k => w.heap.size ≤ k ∧ k < w1.heap.size) w.heap.size (.slice (some ⟨w.heap.size, 0, none⟩) 0 0) []) := ⟨by rw [← Hw1.out]; exact ⟨[], ⟨rfl, .inr ⟨w.heap.size, 0, #[], rfl, Nat.le_refl _, heap_alloc_new w _, Nat.le_refl _, by decide, rfl, rfl⟩⟩, EachG.nil _ _⟩⟩
  have HB1 : Hid (Below w.heap.size w w1) := ⟨by rw [← Hw1.out]; exact (Below.refl _ w).alloc (Nat.le_refl _) _⟩
  go_enter Try.func15, Try.ntmps15
  go_upto_region 4 with fail
  rw [Hw1.out]
  obtain ⟨w2, Hw2⟩ : ∃ w2, Hid (w1.alloc (.cells #[] 28) = w2) := ⟨_, ⟨rfl⟩⟩
  have HB12 : Hid (Below w1.heap.size w1 w2) := ⟨by rw [← Hw2.out]; exact (Below.refl _ w1).alloc (Nat.le_refl _) _⟩
  have HO2 : Hid (OwnG w2 (fun k => w.heap.size ≤ k ∧ k < w1.heap.size) w.heap.size (.slice (some ⟨w.heap.size, 0, none⟩) 0 0) []) := ⟨HO1.out.far (Chg.ofBelow (X := []) HB12.out) (by simp) (by simp)⟩
  have HE2 : Hid (OwnE rc 35 28 w2 w.heap.size (.slice (some ⟨w1.heap.size, 0, none⟩) 0 0) []) := ⟨by rw [← Hw2.out]; exact (OwnE.none rc 35 28 w1).base HB1.out.size⟩
  have HB2 : Hid (Below w.heap.size w w2) := ⟨HB1.out.trans (HB12.out.mono HB1.out.size)⟩
  go_upto_region 5 with fail
  rw [Hw2.out]
  go_wp2_with fail
  go_loopg [6, 7, 8] n (fun gg s6 s7 s8 wr => ∃ kk M0 : Nat, kk ≤ n ∧ n - kk ≤ gg ∧ s8 = .int .i64 (kk : Int) ∧ Hid (OwnG wr (fun k => w.heap.size ≤ k ∧ k < M0) w.heap.size s6 (spF most (L.take kk)).1) ∧ Hid (OwnE rc 35 28 wr w.heap.size s7 (spF most (L.take kk)).2) ∧ Hid (∀ k ∈ ob s7, M0 ≤ k) ∧ Hid (w.heap.size ≤ M0 ∧ M0 ≤ wr.heap.size) ∧ Hid (Below w.heap.size w wr))
  case atStart => exact ⟨0, w1.heap.size, Nat.zero_le _, by omega, rfl, HO2, HE2, ⟨fun k hk => by simp [ob, Value.ownBlock] at hk; omega⟩, ⟨HB1.out.size, HB12.out.size⟩, HB2⟩
  case round =>
    clear HO1 HO2 HE2 HB2 HB1 HB12
    obtain ⟨kk, M0, hkk, hgg, rfl, HO, HE, HV, HM, HB⟩ := hrel
    have Hil := Hid.mk (sp_len hm1 (L.take kk))
    obtain ⟨a6, c6, e6, _⟩ := HO.out.rows.shape
    subst e6
    obtain ⟨a7, c7, e7, _⟩ := (HE.out.rd r0).shape
    subst e7
    have Htk : Hid ((L.take kk).length ≤ n) := ⟨by rw [List.length_take, Hn.out]; omega⟩
    have Hgs : Hid (∀ r ∈ (spF most (L.take kk)).2, Sm r.s) := ⟨fun r hr => H.out.sums r (by
      have := (spI hm1 (L.take kk)).all
      have h2 : r ∈ L.take kk := by rw [← this]; exact List.mem_append_right _ hr
      exact List.mem_of_mem_take h2)⟩
    by_cases hlt : kk < n
    · have hltz : (kk : Int) < (n : Int) := by omega
      have hkL : kk < L.length := by rw [Hn.out]; exact hlt
      have hRd : RdR wr (.slice av n cv) L := H.out.below HB.out
      obtain ⟨b, off, cap, e, hat, _⟩ := hRd.atS hkL
      have hsm := hRd.sum hkL
      rw [Hn.out] at e
      simp at e
      obtain ⟨rfl, rfl⟩ := e
      have HS := Hid.mk (sp_snoc most L kk hkL)
      generalize L.getD kk r0 = r at hat hsm HS
      have Hc := Hid.mk hat
      have Hi : Hid ((Try.prog.info? 28).map (·.size) = some (rc r).length) := ⟨by rw [rc_len r hsm]; exact info28⟩
      have Hsm := Hid.mk hsm
      generalize spF most (L.take kk) = st at HO HE HS Hil Hgs HV ⊢
      obtain ⟨G, g⟩ := st
      simp only at HO HE Hil Hgs HV ⊢
      obtain ⟨nG, HnG⟩ : ∃ n, Hid (G.length = n) := ⟨_, ⟨rfl⟩⟩
      obtain ⟨ng, Hng⟩ : ∃ n, Hid (g.length = n) := ⟨_, ⟨rfl⟩⟩
      simp only [HnG.out, Hng.out] at HO HE HV Hil ⊢
      have hil := Hil.out
      have htk := Htk.out
      have HBw3 := HB
      have HO3 := HO
      have HE3 := HE
      have HM3 := HM
      obtain ⟨w3, ew3⟩ : ∃ x, x = wr := ⟨_, rfl⟩
      subst ew3
      clear hat hsm hRd HB HO HE HM
      have Hsz : Hid ((rc r).toArray.size = 35) := ⟨by rw [List.size_toArray, rc_len r Hsm.out]⟩
      have HBa : Hid (Below w3.heap.size w3 (w3.alloc (.cells (rc r).toArray 28))) := ⟨(Below.refl _ w3).alloc (Nat.le_refl _) _⟩
      have HR1 : Hid (RdE rc 35 r0 (w3.alloc (.cells (rc r).toArray 28)) (.slice (some ⟨w3.heap.size, 0, none⟩) 1 1) [r]) := ⟨rde_one w3 r (rc_len r Hsm.out) (rc_one' r) 28⟩
      have HE4 : Hid (OwnE rc 35 28 (w3.alloc (.cells (rc r).toArray 28)) w.heap.size (.slice a7 ng c7) g) := ⟨HE3.out.far (Chg.ofBelow (X := []) HBa.out) (by simp)⟩
      have Hbs : Hid (w.heap.size ≤ (w3.alloc (.cells (rc r).toArray 28)).heap.size) := ⟨by simp; have := HBw3.out.size; omega⟩
      have HL1 : Hid ((g.length + [r].length) * 56 ≤ 140737488355328) := ⟨by rw [Hng.out]; simp; omega⟩
      have HL2 : Hid (g.length + [r].length ≤ maxLen) := ⟨by rw [Hng.out]; unfold maxLen; simp; omega⟩
      go_upto_region 8 with fail
      go_upto_region 9 with (first
        | (refine wp_loadA rfl 28 (.tmp 26) rfl b (off + kk * 35) rfl (rc r) _ Hc.out Try.underlying28 rfl Hi.out ?_)
        | (refine wp_sliceE eltR rfl (.tmp 27) rfl (rc r).toArray rfl Hsz.out (by decide) ?_)
        | (at_builtin; refine wp_appE eltR rfl (.tmp 23) (.tmp 28) rfl rfl HE4.out rfl HR1.out HL1.out HL2.out Hbs.out ?_; intro v5 w5 hE5 hG5 hV5))
      replace hG5 : Chg (ob (.slice a7 ng c7)) (w3.alloc (.cells (rc r).toArray 28)) w5 := hG5
      replace hV5 : v5.ownBlock = Value.ownBlock (.slice a7 ng c7) ∨ v5.ownBlock = some (w3.alloc (.cells (rc r).toArray 28)).heap.size := hV5
      have HE5 := Hid.mk hE5
      have HV5 : Hid (∀ k ∈ ob v5, M0 ≤ k) := ⟨fun k hk => by
        rcases hV5 with q | q
        · exact HV.out k (mem_ob.2 (by rw [← q]; exact mem_ob.1 hk))
        · rw [mem_ob.1 hk] at q
          have := HM3.out.2
          simp at q
          omega⟩
      have HO5 : Hid (OwnG w5 (fun k => w.heap.size ≤ k ∧ k < M0) w.heap.size (.slice a6 nG c6) G) := ⟨(HO3.out.far (Chg.ofBelow (X := []) HBa.out) (by simp) (by simp)).far hG5 (fun k _ hS hX => by have := HV.out k hX; have hS2 : w.heap.size ≤ k ∧ k < M0 := hS; omega) (fun k hT _ hX => (Ty.ne hT (HE4.out.ty k hX) (by decide)) rfl)⟩
      have HBw5 : Hid (Below w.heap.size w w5) := ⟨(HBw3.out.trans (HBa.out.mono HBw3.out.size)).trans (hG5.below Hbs.out (fun x hx => (HE4.out.lt x hx).1))⟩
      have HM5 : Hid (w.heap.size ≤ M0 ∧ M0 ≤ w5.heap.size) := ⟨HM3.out.1, Nat.le_trans HM3.out.2 (Nat.le_trans HBa.out.size hG5.size)⟩
      obtain ⟨a5, c5, e5, _⟩ := (hE5.rd r0).shape
      subst e5
      have Hgs5 : Hid (∀ x ∈ g ++ [r], Sm x.s) := ⟨fun x hx => by
        rcases List.mem_append.1 hx with q | q
        · exact Hgs.out x q
        · simp at q; subst q; exact Hsm.out⟩
      obtain ⟨n5, Hn5⟩ : ∃ n, Hid ((g ++ [r]).length = n) := ⟨_, ⟨rfl⟩⟩
      have hn5 : n5 ≤ 65 := by rw [← Hn5.out, List.length_append, Hng.out]; simp; omega
      have t2 := rends_any (w := w5) _ (g ++ [r]) most ((HE5.out.rd r0).toR Hgs5.out) (by rw [Hn5.out]; omega) (by omega)
      rw [Hn5.out] at t2 HE5 HV5 ⊢
      obtain ⟨E, HEn⟩ : ∃ E, Hid (ends (g ++ [r]) most = E) := ⟨_, ⟨rfl⟩⟩
      rw [HEn.out] at t2
      clear hE5 hG5 hV5 HE4 HR1 HE3 HO3 HBa Hbs HBw3 HM3 Hc
      cases E with
      | true =>
        have HS1 : Hid (spF most (L.take (kk + 1)) = (G ++ [g ++ [r]], [])) := ⟨by rw [HS.out]; unfold spStep; rw [if_pos HEn.out]⟩
        go_upto_region 10 with (go_at_call 17; refine t2.mono ?_; rintro e w6 ⟨rfl, hb6⟩)
        have HB6 : Hid (Below w5.heap.size w5 w6) := ⟨by rw [← hb6]; exact Below.refl _ _⟩
        clear hb6
        have HO6 : Hid (OwnG w6 (fun k => w.heap.size ≤ k ∧ k < w6.heap.size) w.heap.size (.slice a6 nG c6) G) := ⟨(HO5.out.far (Chg.ofBelow (X := []) HB6.out) (by simp) (by simp)).mono (fun k _ hS => ⟨hS.1, Nat.lt_of_lt_of_le hS.2 (Nat.le_trans HM5.out.2 HB6.out.size)⟩)⟩
        have HE6 : Hid (OwnE rc 35 28 w6 w.heap.size (.slice a5 n5 c5) (g ++ [r])) := ⟨HE5.out.far (Chg.ofBelow (X := []) HB6.out) (by simp)⟩
        have HY6 : Hid (IoG w6 (fun k => w.heap.size ≤ k ∧ k < w6.heap.size) (.slice a5 n5 c5) (g ++ [r])) := ⟨ownf_io HE6.out Hgs5.out (fun k hk => HE6.out.lt k (mem_ob.2 hk))⟩
        have HBw6 : Hid (Below w.heap.size w w6) := ⟨HBw5.out.trans (HB6.out.mono HBw5.out.size)⟩
        have hGl : G.length ≤ 5000000000000 := by rw [HnG.out]; omega
        have hb6s : w.heap.size ≤ w6.heap.size := HBw6.out.size
        clear t2
        go_upto_region 11 with (at_builtin; refine wp_appG1 rfl (.tmp 33) (.tmp 35) rfl rfl HO6.out HY6.out rfl hGl hb6s ?_; intro v7 w7 hO7 hG7 hV7)
        replace hG7 : Chg (ob (.slice a6 nG c6)) w6 w7 := hG7
        have HBw7 : Hid (Below w.heap.size w w7) := ⟨HBw6.out.trans (hG7.below hb6s (fun x hx => (HO6.out.lt x hx).1))⟩
        have HO7 := Hid.mk hO7
        have Hw7 : Hid (w6.heap.size ≤ w7.heap.size) := ⟨hG7.size⟩
        clear hO7 hG7 hV7
        have HOe : Hid (OwnE rc 35 28 (w7.alloc (.cells #[] 28)) w.heap.size (.slice (some ⟨w7.heap.size, 0, none⟩) 0 0) []) := ⟨(OwnE.none rc 35 28 w7).base HBw7.out.size⟩
        go_wp2_with fail
        go_roundg (n - (kk + 1))
        case measure => omega
        case rel =>
          refine ⟨kk + 1, w6.heap.size, by omega, by omega, by go_num, ⟨by rw [HS1.out]; exact HO7.out.far (Chg.ofBelow (X := []) ((Below.refl _ w7).alloc (Nat.le_refl _) _)) (by simp) (by simp)⟩, ⟨by rw [HS1.out]; exact HOe.out⟩, ⟨fun k hk => by simp [ob, Value.ownBlock] at hk; have := Hw7.out; omega⟩, ⟨hb6s, by simp; have := Hw7.out; omega⟩, ⟨HBw7.out.trans (((Below.refl _ w7).alloc (Nat.le_refl _) _).mono HBw7.out.size)⟩⟩
      | false =>
        have HS1 : Hid (spF most (L.take (kk + 1)) = (G, g ++ [r])) := ⟨by rw [HS.out]; unfold spStep; rw [if_neg (by rw [HEn.out]; simp)]⟩
        go_wp2_with (go_at_call 17; refine t2.mono ?_; rintro e w6 ⟨rfl, hb6⟩)
        have HB6 : Hid (Below w5.heap.size w5 w6) := ⟨by rw [← hb6]; exact Below.refl _ _⟩
        clear hb6
        go_roundg (n - (kk + 1))
        case measure => omega
        case rel =>
          refine ⟨kk + 1, M0, by omega, by omega, by go_num, ⟨?_⟩, ⟨?_⟩, HV5, ⟨HM5.out.1, Nat.le_trans HM5.out.2 HB6.out.size⟩, ⟨HBw5.out.trans (HB6.out.mono HBw5.out.size)⟩⟩
          · rw [HS1.out]; exact HO5.out.far (Chg.ofBelow (X := []) HB6.out) (by simp) (by simp)
          · rw [HS1.out]; exact HE5.out.far (Chg.ofBelow (X := []) HB6.out) (by simp)
    · obtain rfl : kk = n := by omega
      have HT : Hid (L.take kk = L) := ⟨List.take_of_length_le (by rw [Hn.out]; exact Nat.le_refl _)⟩
      rw [HT.out] at HO HE Hgs Hil HV ⊢
      have hil := Hil.out
      generalize spF most L = st at HO HE HSf Hgs hil HV ⊢
      obtain ⟨G, g⟩ := st
      simp only at HO HE HSf Hgs hil HV ⊢
      obtain ⟨nG, HnG⟩ : ∃ n, Hid (G.length = n) := ⟨_, ⟨rfl⟩⟩
      obtain ⟨ng, Hng⟩ : ∃ n, Hid (g.length = n) := ⟨_, ⟨rfl⟩⟩
      simp only [HnG.out, Hng.out] at HO HE HV HSf hil ⊢
      have hnl : L.length = kk := Hn.out
      have hGl : G.length ≤ 5000000000000 := by rw [HnG.out]; omega
      have hb6s : w.heap.size ≤ wr.heap.size := HB.out.size
      clear hnl
      by_cases hg0 : 0 < ng
      · have hgz : (0 : Int) < (ng : Int) := by omega
        rw [if_pos hg0] at HSf
        have HO6 : Hid (OwnG wr (fun k => w.heap.size ≤ k) w.heap.size (.slice a6 nG c6) G) := ⟨HO.out.mono (fun k _ hS => hS.1)⟩
        have HY6 : Hid (IoG wr (fun k => w.heap.size ≤ k) (.slice a7 ng c7) g) := ⟨ownf_io HE.out Hgs.out (fun k hk => (HE.out.lt k (mem_ob.2 hk)).1)⟩
        go_upto_region 14 with (at_builtin; refine wp_appG1 rfl (.tmp 41) (.tmp 43) rfl rfl HO6.out HY6.out rfl hGl hb6s ?_; intro v7 w7 hO7 hG7 hV7)
        replace hG7 : Chg (ob (.slice a6 nG c6)) wr w7 := hG7
        have HBw7 : Hid (Below w.heap.size w w7) := ⟨HB.out.trans (hG7.below hb6s (fun x hx => (HO6.out.lt x hx).1))⟩
        go_wp2_with fail
        go_ret2
        exact ⟨_, rfl, by rw [HSf.out]; exact hO7, HBw7.out⟩
      · have hgz : ¬ (0 : Int) < (ng : Int) := by omega
        rw [if_neg hg0] at HSf
        go_wp2_with fail
        go_ret2
        exact ⟨_, rfl, by rw [HSf.out]; exact HO.out.mono (fun k _ hS => hS.1), HB.out⟩
end
end Go.Proofs.Ytiloclekhddkfaa
