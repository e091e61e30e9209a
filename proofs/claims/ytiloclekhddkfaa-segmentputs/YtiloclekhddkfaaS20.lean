/- The document's Hooks. -/
import Derived.Test.YtiloclekhddkfaaS19
namespace Go.Proofs.Ytiloclekhddkfaa
open Go.RowKit Go.Lib

theorem RdR.atS {w : World} {v : Value} {L : List Rf} (h : RdR w v L) {i : Nat} (hi : i < L.length) : ∃ b off cap, v = .slice (some ⟨b, off, none⟩) L.length cap ∧ At w b (off + i * 35) (rc (L.getD i r0)) ∧ At w b (off + i * 35) (sc (L.getD i r0).s) := by
  obtain ⟨b, off, cap, e, hc⟩ := h.at' i hi
  have hs := h.sum hi
  have h1 : At w b (off + i * 35) (rc (L.getD i r0)) := fun j v hv => by
    have hj : j < 35 := by
      rcases Nat.lt_or_ge j 35 with k | k
      · exact k
      · rw [List.getElem?_eq_none (by rw [rc_len _ hs]; exact k)] at hv; cases hv
    exact (hc j hj).trans hv
  refine ⟨b, off, cap, e, h1, fun j v hv => ?_⟩
  have hj : j < 32 := by
    rcases Nat.lt_or_ge j 32 with k | k
    · exact k
    · rw [List.getElem?_eq_none (by rw [sc_len, hs.len]; exact k)] at hv; cases hv
  refine h1 j v ?_
  rw [rc_sum _ hs j hj]
  rw [sc_get _ (by rw [hs.len]; exact hj)] at hv
  exact hv
theorem memS_snoc (s : List Int) (l : List (List Int)) (j : Nat) (hj : j < l.length) : decide (s ∈ l.take (j + 1)) = (decide (s ∈ l.take j) || decide (l.getD j [] = s)) := by
  have e : l.take (j + 1) = l.take j ++ [l.getD j []] := by rw [List.take_add_one, List.getElem?_eq_getElem hj]; simp [List.getD, List.getElem?_eq_getElem hj]
  rw [e]
  by_cases h1 : s ∈ l.take j
  · rw [decide_eq_true h1, decide_eq_true (List.mem_append_left _ h1)]; rfl
  · rw [decide_eq_false h1, Bool.false_or]
    by_cases h2 : l.getD j [] = s
    · rw [decide_eq_true h2, decide_eq_true (List.mem_append_right _ (by rw [h2]; simp))]
    · rw [decide_eq_false h2, decide_eq_false]
      intro hm
      rcases List.mem_append.1 hm with q | q
      · exact h1 q
      · exact h2 (List.mem_singleton.1 q).symm
section
variable {w : World}
set_option maxHeartbeats 4000000 in
set_option maxRecDepth 100000 in
theorem rhooks_any (v : Value) (L : List Rf) (rate : Int) (h : RdR w v L) (hL : L.length ≤ 10000000000000) : Calls Try.prog 10 #[v, .int .i64 rate] w fun e w' => ∃ v', e = .returned v' ∧ OwnS w' w.heap.size v' (hooksF rate L) ∧ Below w.heap.size w w' := by
  have H := Hid.mk h
  obtain ⟨n, Hn⟩ : ∃ n, Hid (L.length = n) := ⟨_, ⟨rfl⟩⟩
  obtain ⟨av, cv, rfl, hcv, hcm, _⟩ := h.shape
  rw [Hn.out] at hL H hcv ⊢
  clear h
  obtain ⟨w1, Hw1⟩ : ∃ w1, Hid (w.alloc (.cells #[] 25) = w1) := ⟨_, ⟨rfl⟩⟩
  have HO1 : Hid (OwnS w1 w.heap.size (.slice (some ⟨w.heap.size, 0, none⟩) 0 0) []) := ⟨by rw [← Hw1.out]; exact OwnE.none sc 32 25 w⟩
  have HB1 : Hid (Below w.heap.size w w1) := ⟨by rw [← Hw1.out]; exact (Below.refl _ w).alloc (Nat.le_refl _) _⟩
  go_enter Try.func10, Try.ntmps10
  go_upto_region 2 with fail
  rw [Hw1.out]
  go_wp2_with fail
  go_loopg [5, 6, 7, 8] n (fun gg s5 s6 _ _ wr => ∃ kk : Nat, kk ≤ n ∧ n - kk ≤ gg ∧ s6 = .int .i64 (kk : Int) ∧ Hid (OwnS wr w.heap.size s5 (hooksF rate (L.take kk))) ∧ Hid (Below w.heap.size w wr))
  case atStart => exact ⟨0, Nat.zero_le _, by omega, rfl, HO1, HB1⟩
  case round =>
    clear HO1 HB1
    obtain ⟨kk, hkk, hgg, rfl, HO, HB⟩ := hrel
    rename World => W
    obtain ⟨a5, c5, e5, _⟩ := (HO.out.rd []).shape
    subst e5
    have Hmo : Hid (∀ s ∈ hooksF rate (L.take kk), Sum32 s) := ⟨hooks_mem rate _ (fun r hr => H.out.sums r (List.mem_of_mem_take hr))⟩
    have Hlo := Hid.mk (hooks_len rate (L.take kk))
    by_cases hlt : kk < n
    · have hltz : (kk : Int) < (n : Int) := by omega
      have hkL : kk < L.length := by rw [Hn.out]; exact hlt
      have hRd : RdR W (.slice av n cv) L := H.out.below HB.out
      obtain ⟨b, off, cap, e, _, hat⟩ := hRd.atS hkL
      have hsm := hRd.sum hkL
      rw [Hn.out] at e
      simp at e
      obtain ⟨rfl, rfl⟩ := e
      have HS := Hid.mk (hooks_snoc rate L kk hkL)
      generalize hooksF rate (L.take kk) = out at HO Hmo Hlo HS
      generalize L.getD kk r0 = r at hat hsm HS
      have Hat := Hid.mk hat
      have Hsm := Hid.mk hsm
      have Hs32 : Hid (Sum32 r.s) := ⟨⟨hsm.len, hsm.byte⟩⟩
      obtain ⟨n5, Hn5⟩ : ∃ n, Hid (out.length = n) := ⟨_, ⟨rfl⟩⟩
      rw [Hn5.out] at HO Hlo ⊢
      have hn5 := Hlo.out
      clear hat hsm hRd
      go_wp2_with fail
      go_loopg [7, 8] n5 (fun gg s7 s8 wq => ∃ k : Nat, k ≤ n5 ∧ n5 - k ≤ gg ∧ s8 = .int .i64 (k : Int) ∧ s7 = .bool (decide (r.s ∈ out.take k)) ∧ Hid (Chg [] W wq))
      case atStart => exact ⟨0, Nat.zero_le _, by omega, rfl, by simp, ⟨Chg.refl _ _⟩⟩
      case round =>
        obtain ⟨k, hkb, hg2, rfl, rfl, HG⟩ := hrel
        rename World => wq
        obtain ⟨Kn, HKn⟩ : ∃ K, Hid (decide (r.s ∈ out.take k) = K) := ⟨_, ⟨rfl⟩⟩
        rw [HKn.out]
        by_cases hkl : k < n5
        · have hkz : (k : Int) < (n5 : Int) := by omega
          have hkO : k < out.length := by rw [Hn5.out]; exact hkl
          obtain ⟨g1, p1, c1, e1, hat1⟩ := RdS.at (HO.out.rd []) hkO
          rw [Hn5.out] at e1
          simp at e1
          obtain ⟨rfl, rfl⟩ := e1
          have HM := Hid.mk (memS_snoc r.s out k hkO)
          have Ht : Hid (Sum32 (out.getD k [])) := ⟨Hmo.out _ (getD_mem' hkO)⟩
          have Hat1 : Hid (At wq.drew g1 (p1 + k * 32) (sc (out.getD k []))) := ⟨hat1.far HG.out.drew (by simp)⟩
          have Hat2 : Hid (At wq.drew b (off + kk * 35) (sc r.s)) := ⟨Hat.out.far HG.out.drew (by simp)⟩
          generalize out.getD k [] = t at HM Ht Hat1
          have hq := fun (w : World) => eqS w Ht.out Hs32.out
          have hg := fun (w : World) (x y : Operand) (xs ys : Array Value) => guardS w .eql x y xs ys
          have r1 := run_loadS Hat1.out Ht.out
          have r2 := run_loadS Hat2.out Hs32.out
          obtain ⟨ct, Hct⟩ : ∃ ct, Hid ((sc t).toArray = ct) := ⟨_, ⟨rfl⟩⟩
          obtain ⟨cs, Hcs⟩ : ∃ cs, Hid ((sc r.s).toArray = cs) := ⟨_, ⟨rfl⟩⟩
          obtain ⟨E, HE⟩ : ∃ E, Hid (decide (t = r.s) = E) := ⟨_, ⟨rfl⟩⟩
          simp only [Hcs.out, Hct.out, HE.out] at hq
          rw [Hct.out] at r1
          rw [Hcs.out] at r2
          have hS0 : (fun w' => (loadVar 25 ⟨g1, p1 + k * 32, none⟩).run Try.prog w' = .ok (.agg ct) w' ∧ (loadVar 25 ⟨b, off + kk * 35, none⟩).run Try.prog w' = .ok (.agg cs) w') wq.drew := ⟨r1, r2⟩
          clear hat1 r1 r2
          go_upto_region 9 with fail
          cases Kn with
          | true =>
            clear hS0
            refine wp_region_any (by kernel_rfl) ?_
            change wpAny _ _ _ _ _ _ _ (World.drew _)
            refine wpAny_take (i := 0) (v := .bool true) rfl (by kernel_rfl) (by kernel_rfl) (by kernel_rfl) (fun _ _ _ h => h) (Or.inl ⟨by kernel_rfl, fun _ => by kernel_rfl⟩) ?_
            refine wpAny_take (i := 1) (v := .bool true) rfl (by kernel_rfl) (by kernel_rfl) (by kernel_rfl) (fun _ _ _ h => h) (Or.inl ⟨by kernel_rfl, fun _ => by kernel_rfl⟩) ?_
            refine wpAny_take (i := 2) (v := undef) rfl (by kernel_rfl) (by kernel_rfl) (by kernel_rfl) (fun _ _ _ h => h) (Or.inr ⟨by kernel_rfl, rfl⟩) ?_
            refine wpAny_take (i := 3) (v := undef) rfl (by kernel_rfl) (by kernel_rfl) (by kernel_rfl) (fun _ _ _ h => h) (Or.inr ⟨by kernel_rfl, rfl⟩) ?_
            refine wpAny_take (i := 4) (v := undef) rfl (by kernel_rfl) (by kernel_rfl) (by kernel_rfl) (fun _ _ _ h => h) (Or.inr ⟨by kernel_rfl, rfl⟩) ?_
            refine wpAny_take (i := 5) (v := undef) rfl (by kernel_rfl) (by kernel_rfl) (by kernel_rfl) (fun _ _ _ h => h) (Or.inr ⟨by kernel_rfl, rfl⟩) ?_
            refine wpAny_take (i := 6) (v := undef) rfl (by kernel_rfl) (by kernel_rfl) (by kernel_rfl) (fun _ _ _ h => h) (Or.inr ⟨by kernel_rfl, rfl⟩) ?_
            refine wpAny_take (i := 7) (v := undef) rfl (by kernel_rfl) (by kernel_rfl) (by kernel_rfl) (fun _ _ _ h => h) (Or.inr ⟨by kernel_rfl, rfl⟩) ?_
            refine wpAny_take (i := 8) (v := undef) rfl (by kernel_rfl) (by kernel_rfl) (by kernel_rfl) (fun _ _ _ h => h) (Or.inr ⟨by kernel_rfl, rfl⟩) ?_
            refine wpAny_take (i := 9) (v := undef) rfl (by kernel_rfl) (by kernel_rfl) (by kernel_rfl) (fun _ _ _ h => h) (Or.inr ⟨by kernel_rfl, rfl⟩) ?_
            refine wpAny_take (i := 10) (v := undef) rfl (by kernel_rfl) (by kernel_rfl) (by kernel_rfl) (fun _ _ _ h => h) (Or.inr ⟨by kernel_rfl, rfl⟩) ?_
            refine wpAny_take (i := 11) (v := undef) rfl (by kernel_rfl) (by kernel_rfl) (by kernel_rfl) (fun _ _ _ h => h) (Or.inr ⟨by kernel_rfl, rfl⟩) ?_
            refine wpAny_take (i := 12) (v := .bool true) rfl (by kernel_rfl) (by kernel_rfl) (by kernel_rfl) (fun _ _ _ h => h) (Or.inl ⟨by kernel_rfl, fun wx => by go_simp⟩) ?_
            refine wpAny_take (i := 13) (v := .bool true) rfl (by kernel_rfl) (by kernel_rfl) (by kernel_rfl) (fun _ _ _ h => h) (Or.inl ⟨by kernel_rfl, fun _ => by kernel_rfl⟩) ?_
            refine wpAny_done (by kernel_rfl) ?_ _
            go_simp
            go_wp2_with fail
            go_roundg (n5 - (k + 1))
            case measure => omega
            case rel => exact ⟨k + 1, by omega, by omega, by go_num, by rw [HM.out, HKn.out]; rfl, ⟨HG.out.drew⟩⟩
          | false =>
            refine wp_region_held_drew (S := (fun w' => (loadVar 25 ⟨g1, p1 + k * 32, none⟩).run Try.prog w' = .ok (.agg ct) w' ∧ (loadVar 25 ⟨b, off + kk * 35, none⟩).run Try.prog w' = .ok (.agg cs) w')) (by kernel_rfl) hS0 (fun hS => ?_)
            refine wpAnyH_take (i := 0) (v := .bool false) rfl (by kernel_rfl) (by kernel_rfl) (by kernel_rfl) (fun _ _ _ h => h) (Or.inl ⟨by kernel_rfl, fun _ _ => by kernel_rfl⟩) hS ?_
            refine wpAnyH_take (i := 1) (v := .bool false) rfl (by kernel_rfl) (by kernel_rfl) (by kernel_rfl) (fun _ _ _ h => h) (Or.inl ⟨by kernel_rfl, fun _ _ => by kernel_rfl⟩) hS ?_
            refine wpAnyH_take (i := 2) (v := .slice (some ⟨g1, p1, none⟩) n5 c5) rfl (by kernel_rfl) (by kernel_rfl) (by kernel_rfl) (fun _ _ _ h => h) (Or.inl ⟨by kernel_rfl, fun _ _ => by kernel_rfl⟩) hS ?_
            refine wpAnyH_take (i := 3) (v := .int .i64 (k : Int)) rfl (by kernel_rfl) (by kernel_rfl) (by kernel_rfl) (fun _ _ _ h => h) (Or.inl ⟨by kernel_rfl, fun _ _ => by kernel_rfl⟩) hS ?_
            refine wpAnyH_take (i := 4) (v := .pointer (some ⟨g1, p1 + k * 32, none⟩)) rfl (by kernel_rfl) (by kernel_rfl) (by kernel_rfl) (fun _ _ _ h => h) (Or.inl ⟨by kernel_rfl, fun wx hx => by go_simp⟩) hS ?_
            refine wpAnyH_take (i := 5) (v := .agg ct) rfl (by kernel_rfl) (by kernel_rfl) (by kernel_rfl) (fun _ _ _ h => h) (Or.inl ⟨by kernel_rfl, fun wx hx => exec_load rfl g1 (p1 + k * 32) (by kernel_rfl) hx.1⟩) hS ?_
            refine wpAnyH_take (i := 6) (v := .slice (some ⟨b, off, none⟩) n cv) rfl (by kernel_rfl) (by kernel_rfl) (by kernel_rfl) (fun _ _ _ h => h) (Or.inl ⟨by kernel_rfl, fun _ _ => by kernel_rfl⟩) hS ?_
            refine wpAnyH_take (i := 7) (v := .int .i64 (kk : Int)) rfl (by kernel_rfl) (by kernel_rfl) (by kernel_rfl) (fun _ _ _ h => h) (Or.inl ⟨by kernel_rfl, fun _ _ => by kernel_rfl⟩) hS ?_
            refine wpAnyH_take (i := 8) (v := .pointer (some ⟨b, off + kk * 35, none⟩)) rfl (by kernel_rfl) (by kernel_rfl) (by kernel_rfl) (fun _ _ _ h => h) (Or.inl ⟨by kernel_rfl, fun wx hx => by go_simp⟩) hS ?_
            refine wpAnyH_take (i := 9) (v := .pointer (some ⟨b, off + kk * 35, none⟩)) rfl (by kernel_rfl) (by kernel_rfl) (by kernel_rfl) (fun _ _ _ h => h) (Or.inl ⟨by kernel_rfl, fun wx hx => by go_simp⟩) hS ?_
            refine wpAnyH_take (i := 10) (v := .agg cs) rfl (by kernel_rfl) (by kernel_rfl) (by kernel_rfl) (fun _ _ _ h => h) (Or.inl ⟨by kernel_rfl, fun wx hx => exec_load rfl b (off + kk * 35) (by kernel_rfl) hx.2⟩) hS ?_
            refine wpAnyH_take (i := 11) (v := .bool E) rfl (by kernel_rfl) (by kernel_rfl) (by kernel_rfl) (fun _ _ _ h => h) (Or.inl ⟨by kernel_rfl, fun wx hx => by go_simp⟩) hS ?_
            refine wpAnyH_take (i := 12) (v := .bool E) rfl (by kernel_rfl) (by kernel_rfl) (by kernel_rfl) (fun _ _ _ h => h) (Or.inl ⟨by kernel_rfl, fun wx hx => by go_simp⟩) hS ?_
            refine wpAnyH_take (i := 13) (v := .bool E) rfl (by kernel_rfl) (by kernel_rfl) (by kernel_rfl) (fun _ _ _ h => h) (Or.inl ⟨by kernel_rfl, fun _ _ => by kernel_rfl⟩) hS ?_
            refine wpAnyH_done (by kernel_rfl) ?_ _
            clear hS hS0
            go_simp
            go_wp2_with fail
            go_roundg (n5 - (k + 1))
            case measure => omega
            case rel => exact ⟨k + 1, by omega, by omega, by go_num, by rw [HM.out, HKn.out, HE.out]; rfl, ⟨HG.out.drew⟩⟩
        · obtain rfl : k = n5 := by omega
          have HT : Hid (out.take k = out) := ⟨List.take_of_length_le (by rw [Hn5.out]; exact Nat.le_refl _)⟩
          rw [HT.out] at HKn
          have HOq : Hid (OwnS wq w.heap.size (.slice a5 k c5) out) := ⟨OwnE.far HO.out HG.out (by simp)⟩
          have HBq : Hid (Below w.heap.size w wq) := ⟨HB.out.trans (HG.out.below HB.out.size (by simp))⟩
          have Hatq : Hid (At wq b (off + kk * 35) (sc r.s)) := ⟨Hat.out.far HG.out (by simp)⟩
          cases Kn with
          | true =>
            have HE : Hid (hooksF rate (L.take (kk + 1)) = out) := ⟨by rw [HS.out]; unfold hkStep; rw [if_neg (fun hh => hh.2.2 (of_decide_eq_true HKn.out))]⟩
            go_wp2_with fail
            go_roundg (n - (kk + 1))
            case measure => omega
            case rel => exact ⟨kk + 1, by omega, by omega, by go_num, ⟨by rw [HE.out]; exact HOq.out⟩, HBq⟩
          | false =>
            by_cases h16 : k < 16
            · have h16z : (k : Int) < 16 := by omega
              have t1 := rhook_any (w := wq) r.s Hsm.out rate
              obtain ⟨K, HK⟩ : ∃ K, Hid (hk r.s rate = K) := ⟨_, ⟨rfl⟩⟩
              rw [HK.out] at t1
              go_upto_region 10 with fail
              go_wp2_with (refine wpList_unguard (by kernel_rfl) ?_; refine wp_loadS rfl (.tmp 46) rfl b (off + kk * 35) rfl r.s Hatq.out Hs32.out ?_)
              refine t1.mono ?_
              rintro e w5 ⟨rfl, hb5⟩
              have HO5 : Hid (OwnS w5 w.heap.size (.slice a5 k c5) out) := ⟨OwnE.far HOq.out (Chg.ofBelow (X := []) hb5) (by simp)⟩
              have HBw5 : Hid (Below w.heap.size w w5) := ⟨HBq.out.trans (hb5.mono HBq.out.size)⟩
              have Hat5 : Hid (At w5 b (off + kk * 35) (sc r.s)) := ⟨Hatq.out.far (Chg.ofBelow (X := []) hb5) (by simp)⟩
              clear hb5 t1
              cases K with
              | false =>
                have HE : Hid (hooksF rate (L.take (kk + 1)) = out) := ⟨by rw [HS.out]; unfold hkStep; rw [if_neg (by rw [HK.out]; simp)]⟩
                go_wp2_with fail
                go_roundg (n - (kk + 1))
                case measure => omega
                case rel => exact ⟨kk + 1, by omega, by omega, by go_num, ⟨by rw [HE.out]; exact HO5.out⟩, HBw5⟩
              | true =>
                have HE : Hid (hooksF rate (L.take (kk + 1)) = out ++ [r.s]) := ⟨by rw [HS.out]; unfold hkStep; rw [if_pos ⟨by rw [Hn5.out]; omega, HK.out, of_decide_eq_false HKn.out⟩]⟩
                have Hsz : Hid ((sc r.s).toArray.size = 32) := ⟨by rw [List.size_toArray, sc_len, Hs32.out.len]⟩
                have HR1 : Hid (RdS (w5.alloc (.cells (sc r.s).toArray 25)) (.slice (some ⟨w5.heap.size, 0, none⟩) 1 1) [r.s]) := ⟨rde_one w5 r.s (by rw [sc_len, Hs32.out.len]) (sc_one _) 25⟩
                have HO6 : Hid (OwnS (w5.alloc (.cells (sc r.s).toArray 25)) w.heap.size (.slice a5 k c5) out) := ⟨OwnE.far HO5.out (Chg.ofBelow (X := []) ((Below.refl _ w5).alloc (Nat.le_refl _) _)) (by simp)⟩
                have Hbs : Hid (w.heap.size ≤ (w5.alloc (.cells (sc r.s).toArray 25)).heap.size) := ⟨by simp; have := HBw5.out.size; omega⟩
                have HL1 : Hid ((out.length + [r.s].length) * 32 ≤ 140737488355328) := ⟨by rw [Hn5.out]; simp; omega⟩
                have HL2 : Hid (out.length + [r.s].length ≤ maxLen) := ⟨by rw [Hn5.out]; unfold maxLen; simp; omega⟩
                go_upto_region 11 with fail
                go_upto_region 4 with (first
                  | (refine wp_loadS rfl (.tmp 55) rfl b (off + kk * 35) rfl r.s Hat5.out Hs32.out ?_)
                  | (refine wp_sliceE eltS rfl (.tmp 56) rfl (sc r.s).toArray rfl Hsz.out (by decide) ?_)
                  | (at_builtin; refine wp_appE eltS rfl (.tmp 51) (.tmp 57) rfl rfl HO6.out rfl HR1.out HL1.out HL2.out Hbs.out ?_; intro v7 w7 hO7 hG7 hV7))
                replace hG7 : Chg (ob (.slice a5 k c5)) (w5.alloc (.cells (sc r.s).toArray 25)) w7 := hG7
                have HB7 : Hid (Below w.heap.size w w7) := ⟨(HBw5.out.trans (((Below.refl _ w5).alloc (Nat.le_refl _) _).mono HBw5.out.size)).trans (hG7.below Hbs.out (fun x hx => (HO6.out.lt x hx).1))⟩
                go_wp2_with fail
                go_roundg (n - (kk + 1))
                case measure => omega
                case rel => exact ⟨kk + 1, by omega, by omega, by go_num, ⟨by rw [HE.out]; exact hO7⟩, HB7⟩
            · have h16z : ¬ (k : Int) < 16 := by omega
              have HE : Hid (hooksF rate (L.take (kk + 1)) = out) := ⟨by rw [HS.out]; unfold hkStep; rw [if_neg (by rw [Hn5.out]; omega)]⟩
              go_wp2_with fail
              go_roundg (n - (kk + 1))
              case measure => omega
              case rel => exact ⟨kk + 1, by omega, by omega, by go_num, ⟨by rw [HE.out]; exact HOq.out⟩, HBq⟩
    · obtain rfl : kk = n := by omega
      have HT : Hid (L.take kk = L) := ⟨List.take_of_length_le (by rw [Hn.out]; exact Nat.le_refl _)⟩
      rw [HT.out] at HO ⊢
      go_wp2_with fail
      go_ret
      exact ⟨_, rfl, HO.out, HB.out⟩
end
end Go.Proofs.Ytiloclekhddkfaa
