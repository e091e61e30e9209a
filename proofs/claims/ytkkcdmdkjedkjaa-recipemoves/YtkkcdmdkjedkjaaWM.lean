/- RecipeMoves: the law's walk. -/
import Derived.Test.YtkkcdmdkjedkjaaM6
import Derived.Test.YtkkcdmdkjedkjaaRefSame
import Derived.Test.YtkkcdmdkjedkjaaWN
namespace Go.Proofs.Ytkkcdmdkjedkjaa
open Go.RowKit Go.Lib

theorem RdE.pre {α : Type} {f : α → List Value} {k : Nat} {d : α} {w : World} {v : Value} {L : List α} (h : RdE f k d w v L) {j : Nat} (hj : j ≤ L.length) (h0 : 0 < j) : ∃ b off cap, v = .slice (some ⟨b, off, none⟩) L.length cap ∧ L.length ≤ cap ∧ cap ≤ maxLen ∧ RdE f k d w (.slice (some ⟨b, off, none⟩) j cap) (L.take j) := by
  obtain ⟨b, off, cap, e, hc⟩ := h.at' 0 (by omega)
  obtain ⟨a', c', e', h1, h2, h3⟩ := h.shape
  rw [e] at e'
  simp at e'
  obtain ⟨rfl, rfl⟩ := e'
  have hl : (L.take j).length = j := by rw [List.length_take]; omega
  refine ⟨b, off, cap, e, h1, h2, ⟨_, _, by rw [hl], by rw [hl]; omega, h2, by simp⟩, fun i hi => ?_, fun x hx => h.each x (List.mem_of_mem_take hx)⟩
  rw [hl] at hi
  obtain ⟨b', off', cap', e2, hc2⟩ := h.at' i (by omega)
  rw [e] at e2
  simp at e2
  obtain ⟨⟨rfl, rfl⟩, rfl⟩ := e2
  refine ⟨b, off, cap, by rw [hl], fun q hq => ?_⟩
  have := hc2 q hq
  simp only [List.getD] at this ⊢
  rw [List.getElem?_take, if_pos hi]
  exact this
section
variable {w : World}
set_option maxHeartbeats 16000000 in
set_option maxRecDepth 100000 in
theorem recipeMoves_any (v u : Value) (L : List Rf) (ms0 : List (Sp × Sp)) (h : RdR w v L) (hL : L.length ≤ 2513169434843) (hu : RdE mc 4 m0 w u ms0) (hl : ms0.length ≤ 4398046511104) :
    Calls Try.prog 6 #[v, u] w fun e w' => e = .returned (.bool true) ∧ Below w.heap.size w w' := by
  have H := Hid.mk h
  have HSms := Hid.mk h.sums
  obtain ⟨av, cv, rfl, _⟩ := h.shape
  obtain ⟨n, Hn⟩ : ∃ n, Hid (L.length = n) := ⟨_, ⟨rfl⟩⟩
  rw [Hn.out] at H hL ⊢
  clear h
  by_cases hbig : 100 < ms0.length
  · obtain ⟨gb, go, cu, rfl, hcu, hcm, hpre⟩ := hu.pre (j := 100) (by omega) (by omega)
    obtain ⟨m0', Hm0⟩ : ∃ n, Hid (ms0.length = n) := ⟨_, ⟨rfl⟩⟩
    have Hm : Hid ((ms0.take 100).length = 100) := ⟨by rw [List.length_take]; omega⟩
    rw [Hm0.out] at hbig hcu hl ⊢
    obtain ⟨ms, Hms⟩ : ∃ x, Hid (ms0.take 100 = x) := ⟨_, ⟨rfl⟩⟩
    rw [Hms.out] at hpre Hm
    have HU := Hid.mk hpre
    obtain ⟨m, Hmm⟩ : ∃ m : Nat, Hid (m = 100) := ⟨_, ⟨rfl⟩⟩
    obtain ⟨au, Hau⟩ : ∃ a, Hid (a = some (⟨gb, go, none⟩ : Addr)) := ⟨_, ⟨rfl⟩⟩
    have hm100 : m ≤ 100 := by rw [Hmm.out]; exact Nat.le_refl _
    rw [← Hmm.out, ← Hau.out] at HU
    rw [← Hmm.out] at Hm
    have hbz : (100 : Int) < (m0' : Int) := by omega
    clear hu hpre
    go_enter Try.func6, Try.ntmps6
    go_upto_region 3 with fail
    rw [← Hmm.out, ← Hau.out]
    -- from region 3 on: HU' : Hid (RdE mc 4 m0 w (.slice au m cu) ms)
    have HM : Hid (∀ w1, Below w.heap.size w w1 → Calls Try.prog 24 #[.slice av n cv, .slice au m cu] w1 fun e w' => ∃ x, e = .returned (.tuple #[x, .int .i64 ((cnt ms L : Nat) : Int)]) ∧ OwnE rc 35 56 w' w1.heap.size x (L.map (mv ms)) ∧ Below w1.heap.size w1 w') := ⟨fun w1 hb => move_any _ _ L ms (H.out.below hb) (by rw [Hn.out]; exact hL) (HU.out.far (Chg.ofBelow (X := []) hb) (by simp)) (by rw [Hm.out]; omega)⟩
    have HD : Hid (∀ w1, Below w.heap.size w w1 → Calls Try.prog 25 #[.slice av n cv, .slice au m cu] w1 fun e w' => ∃ x, e = .returned (.tuple #[x, .int .i64 ((cnt ms L : Nat) : Int)]) ∧ OwnE rc 35 56 w' w1.heap.size x (L.map (mv ms)) ∧ Below w1.heap.size w1 w') := ⟨fun w1 hb => rmove_any _ _ L ms (H.out.below hb) (by rw [Hn.out]; exact hL) (HU.out.far (Chg.ofBelow (X := []) hb) (by simp)) (by rw [Hm.out]; omega)⟩
    have hcnt := cnt_le ms L
    rw [Hn.out] at hcnt
    obtain ⟨C, HC⟩ : ∃ C, Hid (cnt ms L = C) := ⟨_, ⟨rfl⟩⟩
    rw [HC.out] at HM HD hcnt
    obtain ⟨L2, HL2⟩ : ∃ X, Hid (L.map (mv ms) = X) := ⟨_, ⟨rfl⟩⟩
    have Hl2 : Hid (L2.length = n) := ⟨by rw [← HL2.out, List.length_map, Hn.out]⟩
    have Hsm2 : Hid (∀ r ∈ L2, Sm r.s) := ⟨fun r hr => by
      rw [← HL2.out] at hr
      obtain ⟨r', hr', rfl⟩ := List.mem_map.1 hr
      have := HSms.out r' hr'
      unfold mv
      split
      · exact this
      · exact this⟩
    have Hat2 : Hid (∀ k, k < n → (L2.getD k r0).s = (L.getD k r0).s ∧ (L2.getD k r0).l = (L.getD k r0).l) := ⟨fun k hk => by
      have h1 : k < L.length := by rw [Hn.out]; exact hk
      rw [← HL2.out]
      simp only [List.getD, List.getElem?_map, List.getElem?_eq_getElem h1, Option.map_some, Option.getD_some]
      unfold mv
      split
      · exact ⟨rfl, rfl⟩
      · exact ⟨rfl, rfl⟩⟩
    rw [HL2.out] at HM HD
    clear HL2 HC HU
    have hb0 := Below.refl w.heap.size w
    go_upto_region 4 with (go_at_call 24; refine (HM.out _ (by assumption)).mono ?_; rintro e w4 ⟨v5, rfl, hO5, hb4⟩)
    obtain ⟨a5, c5, e5, _⟩ := (hO5.rd r0).shape
    subst e5
    have HX5 : Hid (RdR w4 (.slice a5 L2.length c5) L2) := ⟨(hO5.rd r0).toR Hsm2.out⟩
    have HB4 := Hid.mk hb4
    clear hO5 HM hb0
    go_upto_region 5 with (go_at_call 25; refine (HD.out _ (by assumption)).mono ?_; rintro e w5 ⟨v7, rfl, hO7, hb5⟩)
    obtain ⟨a7, c7, e7, _⟩ := (hO7.rd r0).shape
    subst e7
    have HX7 : Hid (RdR w5 (.slice a7 L2.length c7) L2) := ⟨(hO7.rd r0).toR Hsm2.out⟩
    have HX5' : Hid (RdR w5 (.slice a5 L2.length c5) L2) := ⟨HX5.out.far (Chg.ofBelow (X := []) hb5) (by simp)⟩
    have HB5 : Hid (Below w.heap.size w w5) := ⟨HB4.out.trans (hb5.mono HB4.out.size)⟩
    clear hO7 HD hb4 hb5 HX5
    have A17 := same_yes _ _ L2 HX5'.out HX7.out (by rw [Hl2.out]; omega)
    rw [Hl2.out] at A17 HX5' ⊢
    go_wp2_with (go_at_call 17; refine A17.mono ?_; rintro e w6 ⟨rfl, hc6⟩)
    have HB6 : Hid (Below w.heap.size w w6) := ⟨HB5.out.trans (hc6.below HB5.out.size (by simp))⟩
    have HX6 : Hid (RdR w6 (.slice a5 n c5) L2) := ⟨HX5'.out.far hc6 (by simp)⟩
    have HV6 : Hid (RdR w6 (.slice av n cv) L) := ⟨H.out.below HB6.out⟩
    clear A17 hc6 HX5' HX7
    go_loopg [9] n (fun gg s9 wr => ∃ k : Nat, k ≤ n ∧ n - k ≤ gg ∧ s9 = .int .i64 (k : Int) ∧ Hid (Chg [] w6 wr))
    case atStart => exact ⟨0, Nat.zero_le _, by omega, rfl, ⟨Chg.refl _ _⟩⟩
    case round =>
      obtain ⟨k, hk, hgg, rfl, HG⟩ := hrel
      by_cases hlt : k < n
      · have hltz : (k : Int) < (n : Int) := by omega
        have hkL : k < L.length := by rw [Hn.out]; exact hlt
        have hkL2 : k < L2.length := by rw [Hl2.out]; exact hlt
        obtain ⟨b1, o1, d1, e1, hr1, hat1⟩ := HX6.out.atS hkL2
        obtain ⟨b2, o2, d2, e2, hr2, hat2⟩ := HV6.out.atS hkL
        have hsm1 := HX6.out.sum hkL2
        have hsm := HV6.out.sum hkL
        have hss := Hat2.out k hlt
        rw [Hl2.out] at e1
        rw [Hn.out] at e2
        simp at e1 e2
        obtain ⟨rfl, rfl⟩ := e1
        obtain ⟨rfl, rfl⟩ := e2
        generalize L2.getD k r0 = r1 at hr1 hat1 hsm1 hss
        generalize L.getD k r0 = r2 at hr2 hat2 hsm hss
        rw [hss.1] at hat1
        have hn1 := (rc_num r1 hsm1).1
        rw [hss.2] at hn1
        have hn2 := (rc_num r2 hsm).1
        have hs' : Sum32 r2.s := ⟨hsm.len, hsm.byte⟩
        have q1 := run_loadS (w := wr.drew) (hat1.far HG.out.drew (by simp)) hs'
        have q2 := run_loadS (w := wr.drew) (hat2.far HG.out.drew (by simp)) hs'
        have q3 := (hr1.far HG.out.drew (by simp)) 32 _ hn1
        have q4 := (hr2.far HG.out.drew (by simp)) 32 _ hn2
        have hq : ∀ w : World, (binOp .neq 54 (.agg (sc r2.s).toArray) (.agg (sc r2.s).toArray)).run Try.prog w = .ok (.bool false) w := fun w => by rw [neS w hs' hs']; simp
        have hg := fun (w : World) (x y : Operand) (xs ys : Array Value) => guardS w .neq x y xs ys
        obtain ⟨cs, Hcs⟩ : ∃ cs, Hid ((sc r2.s).toArray = cs) := ⟨_, ⟨rfl⟩⟩
        rw [Hcs.out] at q1 q2
        simp only [Hcs.out] at hq
        obtain ⟨ln, Hln⟩ : ∃ x, Hid (r2.l = x) := ⟨_, ⟨rfl⟩⟩
        rw [Hln.out] at q3 q4
        have hS0 : (fun w' => (loadVar 54 ⟨b1, o1 + k * 35, none⟩).run Try.prog w' = .ok (.agg cs) w' ∧ (loadVar 54 ⟨b2, o2 + k * 35, none⟩).run Try.prog w' = .ok (.agg cs) w' ∧ w'.cell? ⟨b1, o1 + k * 35 + 32, none⟩ = some (.int .i64 ln) ∧ w'.cell? ⟨b2, o2 + k * 35 + 32, none⟩ = some (.int .i64 ln)) wr.drew := ⟨q1, q2, q3, q4⟩
        clear hat1 hat2 hr1 hr2 q1 q2 q3 q4 hsm hsm1 hss hn1 hn2 hs'
        go_upto_region 10 with fail
        refine wp_region_held_drew (S := (fun w' => (loadVar 54 ⟨b1, o1 + k * 35, none⟩).run Try.prog w' = .ok (.agg cs) w' ∧ (loadVar 54 ⟨b2, o2 + k * 35, none⟩).run Try.prog w' = .ok (.agg cs) w' ∧ w'.cell? ⟨b1, o1 + k * 35 + 32, none⟩ = some (.int .i64 ln) ∧ w'.cell? ⟨b2, o2 + k * 35 + 32, none⟩ = some (.int .i64 ln))) (by kernel_rfl) hS0 (fun hS => ?_)
        refine wpAnyH_take (i := 0) (v := .slice (some ⟨b1, o1, none⟩) n c5) rfl (by kernel_rfl) (by kernel_rfl) (by kernel_rfl) (fun _ _ _ h => h) (Or.inl ⟨by kernel_rfl, fun _ _ => by kernel_rfl⟩) hS ?_
        refine wpAnyH_take (i := 1) (v := .int .i64 (k : Int)) rfl (by kernel_rfl) (by kernel_rfl) (by kernel_rfl) (fun _ _ _ h => h) (Or.inl ⟨by kernel_rfl, fun _ _ => by kernel_rfl⟩) hS ?_
        refine wpAnyH_take (i := 2) (v := .pointer (some ⟨b1, o1 + k * 35, none⟩)) rfl (by kernel_rfl) (by kernel_rfl) (by kernel_rfl) (fun _ _ _ h => h) (Or.inl ⟨by kernel_rfl, fun wx hx => by go_simp⟩) hS ?_
        refine wpAnyH_take (i := 3) (v := .pointer (some ⟨b1, o1 + k * 35, none⟩)) rfl (by kernel_rfl) (by kernel_rfl) (by kernel_rfl) (fun _ _ _ h => h) (Or.inl ⟨by kernel_rfl, fun wx hx => by go_simp⟩) hS ?_
        refine wpAnyH_take (i := 4) (v := .agg cs) rfl (by kernel_rfl) (by kernel_rfl) (by kernel_rfl) (fun _ _ _ h => h) (Or.inl ⟨by kernel_rfl, fun wx hx => exec_load rfl b1 (o1 + k * 35) (by kernel_rfl) hx.1⟩) hS ?_
        refine wpAnyH_take (i := 5) (v := .slice (some ⟨b2, o2, none⟩) n cv) rfl (by kernel_rfl) (by kernel_rfl) (by kernel_rfl) (fun _ _ _ h => h) (Or.inl ⟨by kernel_rfl, fun _ _ => by kernel_rfl⟩) hS ?_
        refine wpAnyH_take (i := 6) (v := .int .i64 (k : Int)) rfl (by kernel_rfl) (by kernel_rfl) (by kernel_rfl) (fun _ _ _ h => h) (Or.inl ⟨by kernel_rfl, fun _ _ => by kernel_rfl⟩) hS ?_
        refine wpAnyH_take (i := 7) (v := .pointer (some ⟨b2, o2 + k * 35, none⟩)) rfl (by kernel_rfl) (by kernel_rfl) (by kernel_rfl) (fun _ _ _ h => h) (Or.inl ⟨by kernel_rfl, fun wx hx => by go_simp⟩) hS ?_
        refine wpAnyH_take (i := 8) (v := .pointer (some ⟨b2, o2 + k * 35, none⟩)) rfl (by kernel_rfl) (by kernel_rfl) (by kernel_rfl) (fun _ _ _ h => h) (Or.inl ⟨by kernel_rfl, fun wx hx => by go_simp⟩) hS ?_
        refine wpAnyH_take (i := 9) (v := .agg cs) rfl (by kernel_rfl) (by kernel_rfl) (by kernel_rfl) (fun _ _ _ h => h) (Or.inl ⟨by kernel_rfl, fun wx hx => exec_load rfl b2 (o2 + k * 35) (by kernel_rfl) hx.2.1⟩) hS ?_
        refine wpAnyH_take (i := 10) (v := .bool false) rfl (by kernel_rfl) (by kernel_rfl) (by kernel_rfl) (fun _ _ _ h => h) (Or.inl ⟨by kernel_rfl, fun wx hx => by go_simp⟩) hS ?_
        refine wpAnyH_take (i := 11) (v := .bool false) rfl (by kernel_rfl) (by kernel_rfl) (by kernel_rfl) (fun _ _ _ h => h) (Or.inl ⟨by kernel_rfl, fun _ _ => by kernel_rfl⟩) hS ?_
        refine wpAnyH_take (i := 12) (v := .slice (some ⟨b1, o1, none⟩) n c5) rfl (by kernel_rfl) (by kernel_rfl) (by kernel_rfl) (fun _ _ _ h => h) (Or.inl ⟨by kernel_rfl, fun _ _ => by kernel_rfl⟩) hS ?_
        refine wpAnyH_take (i := 13) (v := .int .i64 (k : Int)) rfl (by kernel_rfl) (by kernel_rfl) (by kernel_rfl) (fun _ _ _ h => h) (Or.inl ⟨by kernel_rfl, fun _ _ => by kernel_rfl⟩) hS ?_
        refine wpAnyH_take (i := 14) (v := .pointer (some ⟨b1, o1 + k * 35, none⟩)) rfl (by kernel_rfl) (by kernel_rfl) (by kernel_rfl) (fun _ _ _ h => h) (Or.inl ⟨by kernel_rfl, fun wx hx => by go_simp⟩) hS ?_
        refine wpAnyH_take (i := 15) (v := .pointer (some ⟨b1, o1 + k * 35 + 32, none⟩)) rfl (by kernel_rfl) (by kernel_rfl) (by kernel_rfl) (fun _ _ _ h => h) (Or.inl ⟨by kernel_rfl, fun wx hx => by go_simp⟩) hS ?_
        refine wpAnyH_take (i := 16) (v := .int .i64 ln) rfl (by kernel_rfl) (by kernel_rfl) (by kernel_rfl) (fun _ _ _ h => h) (Or.inl ⟨by kernel_rfl, fun wx hx => by obtain ⟨hx1, hx2, hx3, hx4⟩ := hx; go_simp⟩) hS ?_
        refine wpAnyH_take (i := 17) (v := .slice (some ⟨b2, o2, none⟩) n cv) rfl (by kernel_rfl) (by kernel_rfl) (by kernel_rfl) (fun _ _ _ h => h) (Or.inl ⟨by kernel_rfl, fun _ _ => by kernel_rfl⟩) hS ?_
        refine wpAnyH_take (i := 18) (v := .int .i64 (k : Int)) rfl (by kernel_rfl) (by kernel_rfl) (by kernel_rfl) (fun _ _ _ h => h) (Or.inl ⟨by kernel_rfl, fun _ _ => by kernel_rfl⟩) hS ?_
        refine wpAnyH_take (i := 19) (v := .pointer (some ⟨b2, o2 + k * 35, none⟩)) rfl (by kernel_rfl) (by kernel_rfl) (by kernel_rfl) (fun _ _ _ h => h) (Or.inl ⟨by kernel_rfl, fun wx hx => by go_simp⟩) hS ?_
        refine wpAnyH_take (i := 20) (v := .pointer (some ⟨b2, o2 + k * 35 + 32, none⟩)) rfl (by kernel_rfl) (by kernel_rfl) (by kernel_rfl) (fun _ _ _ h => h) (Or.inl ⟨by kernel_rfl, fun wx hx => by go_simp⟩) hS ?_
        refine wpAnyH_take (i := 21) (v := .int .i64 ln) rfl (by kernel_rfl) (by kernel_rfl) (by kernel_rfl) (fun _ _ _ h => h) (Or.inl ⟨by kernel_rfl, fun wx hx => by obtain ⟨hx1, hx2, hx3, hx4⟩ := hx; go_simp⟩) hS ?_
        refine wpAnyH_take (i := 22) (v := .bool false) rfl (by kernel_rfl) (by kernel_rfl) (by kernel_rfl) (fun _ _ _ h => h) (Or.inl ⟨by kernel_rfl, fun wx hx => by go_simp⟩) hS ?_
        refine wpAnyH_take (i := 23) (v := .bool false) rfl (by kernel_rfl) (by kernel_rfl) (by kernel_rfl) (fun _ _ _ h => h) (Or.inl ⟨by kernel_rfl, fun _ _ => by kernel_rfl⟩) hS ?_
        refine wpAnyH_done (by kernel_rfl) ?_ _
        clear hS hS0
        go_simp
        go_wp2_with fail
        go_roundg (n - (k + 1))
        case measure => omega
        case rel => exact ⟨k + 1, by omega, by omega, by go_num, ⟨HG.out.drew⟩⟩
      · obtain rfl : k = n := by omega
        have HBe : Hid (Below w.heap.size w wr) := ⟨HB6.out.trans (HG.out.below HB6.out.size (by simp))⟩
        have hbe := HBe.out
        have A12 : ∀ w1, Below w.heap.size w w1 → Calls Try.prog 12 #[] w1 fun e w3 => e = .returned (.bool true) ∧ Below w.heap.size w w3 := fun w1 hb => live_at hb
        go_wp2_with (go_at_call 12; refine (A12 _ (by assumption)).mono ?_; rintro e wx ⟨rfl, hbx⟩)
        go_ret
        exact ⟨rfl, by assumption⟩
  · obtain ⟨au, cu, rfl, _⟩ := hu.shape
    obtain ⟨ms, Hms⟩ : ∃ x, Hid (ms0 = x) := ⟨_, ⟨rfl⟩⟩
    rw [Hms.out] at hu hbig hl ⊢
    obtain ⟨m, Hm⟩ : ∃ n, Hid (ms.length = n) := ⟨_, ⟨rfl⟩⟩
    have HU := Hid.mk hu
    rw [Hm.out] at HU hbig hl ⊢
    have hm100 : m ≤ 100 := by omega
    clear hu
    go_enter Try.func6, Try.ntmps6
    go_upto_region 3 with fail
    -- from region 3 on: HU' : Hid (RdE mc 4 m0 w (.slice au m cu) ms)
    have HM : Hid (∀ w1, Below w.heap.size w w1 → Calls Try.prog 24 #[.slice av n cv, .slice au m cu] w1 fun e w' => ∃ x, e = .returned (.tuple #[x, .int .i64 ((cnt ms L : Nat) : Int)]) ∧ OwnE rc 35 56 w' w1.heap.size x (L.map (mv ms)) ∧ Below w1.heap.size w1 w') := ⟨fun w1 hb => move_any _ _ L ms (H.out.below hb) (by rw [Hn.out]; exact hL) (HU.out.far (Chg.ofBelow (X := []) hb) (by simp)) (by rw [Hm.out]; omega)⟩
    have HD : Hid (∀ w1, Below w.heap.size w w1 → Calls Try.prog 25 #[.slice av n cv, .slice au m cu] w1 fun e w' => ∃ x, e = .returned (.tuple #[x, .int .i64 ((cnt ms L : Nat) : Int)]) ∧ OwnE rc 35 56 w' w1.heap.size x (L.map (mv ms)) ∧ Below w1.heap.size w1 w') := ⟨fun w1 hb => rmove_any _ _ L ms (H.out.below hb) (by rw [Hn.out]; exact hL) (HU.out.far (Chg.ofBelow (X := []) hb) (by simp)) (by rw [Hm.out]; omega)⟩
    have hcnt := cnt_le ms L
    rw [Hn.out] at hcnt
    obtain ⟨C, HC⟩ : ∃ C, Hid (cnt ms L = C) := ⟨_, ⟨rfl⟩⟩
    rw [HC.out] at HM HD hcnt
    obtain ⟨L2, HL2⟩ : ∃ X, Hid (L.map (mv ms) = X) := ⟨_, ⟨rfl⟩⟩
    have Hl2 : Hid (L2.length = n) := ⟨by rw [← HL2.out, List.length_map, Hn.out]⟩
    have Hsm2 : Hid (∀ r ∈ L2, Sm r.s) := ⟨fun r hr => by
      rw [← HL2.out] at hr
      obtain ⟨r', hr', rfl⟩ := List.mem_map.1 hr
      have := HSms.out r' hr'
      unfold mv
      split
      · exact this
      · exact this⟩
    have Hat2 : Hid (∀ k, k < n → (L2.getD k r0).s = (L.getD k r0).s ∧ (L2.getD k r0).l = (L.getD k r0).l) := ⟨fun k hk => by
      have h1 : k < L.length := by rw [Hn.out]; exact hk
      rw [← HL2.out]
      simp only [List.getD, List.getElem?_map, List.getElem?_eq_getElem h1, Option.map_some, Option.getD_some]
      unfold mv
      split
      · exact ⟨rfl, rfl⟩
      · exact ⟨rfl, rfl⟩⟩
    rw [HL2.out] at HM HD
    clear HL2 HC HU
    have hb0 := Below.refl w.heap.size w
    go_upto_region 4 with (go_at_call 24; refine (HM.out _ (by assumption)).mono ?_; rintro e w4 ⟨v5, rfl, hO5, hb4⟩)
    obtain ⟨a5, c5, e5, _⟩ := (hO5.rd r0).shape
    subst e5
    have HX5 : Hid (RdR w4 (.slice a5 L2.length c5) L2) := ⟨(hO5.rd r0).toR Hsm2.out⟩
    have HB4 := Hid.mk hb4
    clear hO5 HM hb0
    go_upto_region 5 with (go_at_call 25; refine (HD.out _ (by assumption)).mono ?_; rintro e w5 ⟨v7, rfl, hO7, hb5⟩)
    obtain ⟨a7, c7, e7, _⟩ := (hO7.rd r0).shape
    subst e7
    have HX7 : Hid (RdR w5 (.slice a7 L2.length c7) L2) := ⟨(hO7.rd r0).toR Hsm2.out⟩
    have HX5' : Hid (RdR w5 (.slice a5 L2.length c5) L2) := ⟨HX5.out.far (Chg.ofBelow (X := []) hb5) (by simp)⟩
    have HB5 : Hid (Below w.heap.size w w5) := ⟨HB4.out.trans (hb5.mono HB4.out.size)⟩
    clear hO7 HD hb4 hb5 HX5
    have A17 := same_yes _ _ L2 HX5'.out HX7.out (by rw [Hl2.out]; omega)
    rw [Hl2.out] at A17 HX5' ⊢
    go_wp2_with (go_at_call 17; refine A17.mono ?_; rintro e w6 ⟨rfl, hc6⟩)
    have HB6 : Hid (Below w.heap.size w w6) := ⟨HB5.out.trans (hc6.below HB5.out.size (by simp))⟩
    have HX6 : Hid (RdR w6 (.slice a5 n c5) L2) := ⟨HX5'.out.far hc6 (by simp)⟩
    have HV6 : Hid (RdR w6 (.slice av n cv) L) := ⟨H.out.below HB6.out⟩
    clear A17 hc6 HX5' HX7
    go_loopg [9] n (fun gg s9 wr => ∃ k : Nat, k ≤ n ∧ n - k ≤ gg ∧ s9 = .int .i64 (k : Int) ∧ Hid (Chg [] w6 wr))
    case atStart => exact ⟨0, Nat.zero_le _, by omega, rfl, ⟨Chg.refl _ _⟩⟩
    case round =>
      obtain ⟨k, hk, hgg, rfl, HG⟩ := hrel
      by_cases hlt : k < n
      · have hltz : (k : Int) < (n : Int) := by omega
        have hkL : k < L.length := by rw [Hn.out]; exact hlt
        have hkL2 : k < L2.length := by rw [Hl2.out]; exact hlt
        obtain ⟨b1, o1, d1, e1, hr1, hat1⟩ := HX6.out.atS hkL2
        obtain ⟨b2, o2, d2, e2, hr2, hat2⟩ := HV6.out.atS hkL
        have hsm1 := HX6.out.sum hkL2
        have hsm := HV6.out.sum hkL
        have hss := Hat2.out k hlt
        rw [Hl2.out] at e1
        rw [Hn.out] at e2
        simp at e1 e2
        obtain ⟨rfl, rfl⟩ := e1
        obtain ⟨rfl, rfl⟩ := e2
        generalize L2.getD k r0 = r1 at hr1 hat1 hsm1 hss
        generalize L.getD k r0 = r2 at hr2 hat2 hsm hss
        rw [hss.1] at hat1
        have hn1 := (rc_num r1 hsm1).1
        rw [hss.2] at hn1
        have hn2 := (rc_num r2 hsm).1
        have hs' : Sum32 r2.s := ⟨hsm.len, hsm.byte⟩
        have q1 := run_loadS (w := wr.drew) (hat1.far HG.out.drew (by simp)) hs'
        have q2 := run_loadS (w := wr.drew) (hat2.far HG.out.drew (by simp)) hs'
        have q3 := (hr1.far HG.out.drew (by simp)) 32 _ hn1
        have q4 := (hr2.far HG.out.drew (by simp)) 32 _ hn2
        have hq : ∀ w : World, (binOp .neq 54 (.agg (sc r2.s).toArray) (.agg (sc r2.s).toArray)).run Try.prog w = .ok (.bool false) w := fun w => by rw [neS w hs' hs']; simp
        have hg := fun (w : World) (x y : Operand) (xs ys : Array Value) => guardS w .neq x y xs ys
        obtain ⟨cs, Hcs⟩ : ∃ cs, Hid ((sc r2.s).toArray = cs) := ⟨_, ⟨rfl⟩⟩
        rw [Hcs.out] at q1 q2
        simp only [Hcs.out] at hq
        obtain ⟨ln, Hln⟩ : ∃ x, Hid (r2.l = x) := ⟨_, ⟨rfl⟩⟩
        rw [Hln.out] at q3 q4
        have hS0 : (fun w' => (loadVar 54 ⟨b1, o1 + k * 35, none⟩).run Try.prog w' = .ok (.agg cs) w' ∧ (loadVar 54 ⟨b2, o2 + k * 35, none⟩).run Try.prog w' = .ok (.agg cs) w' ∧ w'.cell? ⟨b1, o1 + k * 35 + 32, none⟩ = some (.int .i64 ln) ∧ w'.cell? ⟨b2, o2 + k * 35 + 32, none⟩ = some (.int .i64 ln)) wr.drew := ⟨q1, q2, q3, q4⟩
        clear hat1 hat2 hr1 hr2 q1 q2 q3 q4 hsm hsm1 hss hn1 hn2 hs'
        go_upto_region 10 with fail
        refine wp_region_held_drew (S := (fun w' => (loadVar 54 ⟨b1, o1 + k * 35, none⟩).run Try.prog w' = .ok (.agg cs) w' ∧ (loadVar 54 ⟨b2, o2 + k * 35, none⟩).run Try.prog w' = .ok (.agg cs) w' ∧ w'.cell? ⟨b1, o1 + k * 35 + 32, none⟩ = some (.int .i64 ln) ∧ w'.cell? ⟨b2, o2 + k * 35 + 32, none⟩ = some (.int .i64 ln))) (by kernel_rfl) hS0 (fun hS => ?_)
        refine wpAnyH_take (i := 0) (v := .slice (some ⟨b1, o1, none⟩) n c5) rfl (by kernel_rfl) (by kernel_rfl) (by kernel_rfl) (fun _ _ _ h => h) (Or.inl ⟨by kernel_rfl, fun _ _ => by kernel_rfl⟩) hS ?_
        refine wpAnyH_take (i := 1) (v := .int .i64 (k : Int)) rfl (by kernel_rfl) (by kernel_rfl) (by kernel_rfl) (fun _ _ _ h => h) (Or.inl ⟨by kernel_rfl, fun _ _ => by kernel_rfl⟩) hS ?_
        refine wpAnyH_take (i := 2) (v := .pointer (some ⟨b1, o1 + k * 35, none⟩)) rfl (by kernel_rfl) (by kernel_rfl) (by kernel_rfl) (fun _ _ _ h => h) (Or.inl ⟨by kernel_rfl, fun wx hx => by go_simp⟩) hS ?_
        refine wpAnyH_take (i := 3) (v := .pointer (some ⟨b1, o1 + k * 35, none⟩)) rfl (by kernel_rfl) (by kernel_rfl) (by kernel_rfl) (fun _ _ _ h => h) (Or.inl ⟨by kernel_rfl, fun wx hx => by go_simp⟩) hS ?_
        refine wpAnyH_take (i := 4) (v := .agg cs) rfl (by kernel_rfl) (by kernel_rfl) (by kernel_rfl) (fun _ _ _ h => h) (Or.inl ⟨by kernel_rfl, fun wx hx => exec_load rfl b1 (o1 + k * 35) (by kernel_rfl) hx.1⟩) hS ?_
        refine wpAnyH_take (i := 5) (v := .slice (some ⟨b2, o2, none⟩) n cv) rfl (by kernel_rfl) (by kernel_rfl) (by kernel_rfl) (fun _ _ _ h => h) (Or.inl ⟨by kernel_rfl, fun _ _ => by kernel_rfl⟩) hS ?_
        refine wpAnyH_take (i := 6) (v := .int .i64 (k : Int)) rfl (by kernel_rfl) (by kernel_rfl) (by kernel_rfl) (fun _ _ _ h => h) (Or.inl ⟨by kernel_rfl, fun _ _ => by kernel_rfl⟩) hS ?_
        refine wpAnyH_take (i := 7) (v := .pointer (some ⟨b2, o2 + k * 35, none⟩)) rfl (by kernel_rfl) (by kernel_rfl) (by kernel_rfl) (fun _ _ _ h => h) (Or.inl ⟨by kernel_rfl, fun wx hx => by go_simp⟩) hS ?_
        refine wpAnyH_take (i := 8) (v := .pointer (some ⟨b2, o2 + k * 35, none⟩)) rfl (by kernel_rfl) (by kernel_rfl) (by kernel_rfl) (fun _ _ _ h => h) (Or.inl ⟨by kernel_rfl, fun wx hx => by go_simp⟩) hS ?_
        refine wpAnyH_take (i := 9) (v := .agg cs) rfl (by kernel_rfl) (by kernel_rfl) (by kernel_rfl) (fun _ _ _ h => h) (Or.inl ⟨by kernel_rfl, fun wx hx => exec_load rfl b2 (o2 + k * 35) (by kernel_rfl) hx.2.1⟩) hS ?_
        refine wpAnyH_take (i := 10) (v := .bool false) rfl (by kernel_rfl) (by kernel_rfl) (by kernel_rfl) (fun _ _ _ h => h) (Or.inl ⟨by kernel_rfl, fun wx hx => by go_simp⟩) hS ?_
        refine wpAnyH_take (i := 11) (v := .bool false) rfl (by kernel_rfl) (by kernel_rfl) (by kernel_rfl) (fun _ _ _ h => h) (Or.inl ⟨by kernel_rfl, fun _ _ => by kernel_rfl⟩) hS ?_
        refine wpAnyH_take (i := 12) (v := .slice (some ⟨b1, o1, none⟩) n c5) rfl (by kernel_rfl) (by kernel_rfl) (by kernel_rfl) (fun _ _ _ h => h) (Or.inl ⟨by kernel_rfl, fun _ _ => by kernel_rfl⟩) hS ?_
        refine wpAnyH_take (i := 13) (v := .int .i64 (k : Int)) rfl (by kernel_rfl) (by kernel_rfl) (by kernel_rfl) (fun _ _ _ h => h) (Or.inl ⟨by kernel_rfl, fun _ _ => by kernel_rfl⟩) hS ?_
        refine wpAnyH_take (i := 14) (v := .pointer (some ⟨b1, o1 + k * 35, none⟩)) rfl (by kernel_rfl) (by kernel_rfl) (by kernel_rfl) (fun _ _ _ h => h) (Or.inl ⟨by kernel_rfl, fun wx hx => by go_simp⟩) hS ?_
        refine wpAnyH_take (i := 15) (v := .pointer (some ⟨b1, o1 + k * 35 + 32, none⟩)) rfl (by kernel_rfl) (by kernel_rfl) (by kernel_rfl) (fun _ _ _ h => h) (Or.inl ⟨by kernel_rfl, fun wx hx => by go_simp⟩) hS ?_
        refine wpAnyH_take (i := 16) (v := .int .i64 ln) rfl (by kernel_rfl) (by kernel_rfl) (by kernel_rfl) (fun _ _ _ h => h) (Or.inl ⟨by kernel_rfl, fun wx hx => by obtain ⟨hx1, hx2, hx3, hx4⟩ := hx; go_simp⟩) hS ?_
        refine wpAnyH_take (i := 17) (v := .slice (some ⟨b2, o2, none⟩) n cv) rfl (by kernel_rfl) (by kernel_rfl) (by kernel_rfl) (fun _ _ _ h => h) (Or.inl ⟨by kernel_rfl, fun _ _ => by kernel_rfl⟩) hS ?_
        refine wpAnyH_take (i := 18) (v := .int .i64 (k : Int)) rfl (by kernel_rfl) (by kernel_rfl) (by kernel_rfl) (fun _ _ _ h => h) (Or.inl ⟨by kernel_rfl, fun _ _ => by kernel_rfl⟩) hS ?_
        refine wpAnyH_take (i := 19) (v := .pointer (some ⟨b2, o2 + k * 35, none⟩)) rfl (by kernel_rfl) (by kernel_rfl) (by kernel_rfl) (fun _ _ _ h => h) (Or.inl ⟨by kernel_rfl, fun wx hx => by go_simp⟩) hS ?_
        refine wpAnyH_take (i := 20) (v := .pointer (some ⟨b2, o2 + k * 35 + 32, none⟩)) rfl (by kernel_rfl) (by kernel_rfl) (by kernel_rfl) (fun _ _ _ h => h) (Or.inl ⟨by kernel_rfl, fun wx hx => by go_simp⟩) hS ?_
        refine wpAnyH_take (i := 21) (v := .int .i64 ln) rfl (by kernel_rfl) (by kernel_rfl) (by kernel_rfl) (fun _ _ _ h => h) (Or.inl ⟨by kernel_rfl, fun wx hx => by obtain ⟨hx1, hx2, hx3, hx4⟩ := hx; go_simp⟩) hS ?_
        refine wpAnyH_take (i := 22) (v := .bool false) rfl (by kernel_rfl) (by kernel_rfl) (by kernel_rfl) (fun _ _ _ h => h) (Or.inl ⟨by kernel_rfl, fun wx hx => by go_simp⟩) hS ?_
        refine wpAnyH_take (i := 23) (v := .bool false) rfl (by kernel_rfl) (by kernel_rfl) (by kernel_rfl) (fun _ _ _ h => h) (Or.inl ⟨by kernel_rfl, fun _ _ => by kernel_rfl⟩) hS ?_
        refine wpAnyH_done (by kernel_rfl) ?_ _
        clear hS hS0
        go_simp
        go_wp2_with fail
        go_roundg (n - (k + 1))
        case measure => omega
        case rel => exact ⟨k + 1, by omega, by omega, by go_num, ⟨HG.out.drew⟩⟩
      · obtain rfl : k = n := by omega
        have HBe : Hid (Below w.heap.size w wr) := ⟨HB6.out.trans (HG.out.below HB6.out.size (by simp))⟩
        have hbe := HBe.out
        have A12 : ∀ w1, Below w.heap.size w w1 → Calls Try.prog 12 #[] w1 fun e w3 => e = .returned (.bool true) ∧ Below w.heap.size w w3 := fun w1 hb => live_at hb
        go_wp2_with (go_at_call 12; refine (A12 _ (by assumption)).mono ?_; rintro e wx ⟨rfl, hbx⟩)
        go_ret
        exact ⟨rfl, by assumption⟩
end
end Go.Proofs.Ytkkcdmdkjedkjaa
