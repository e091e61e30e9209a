/- The document's Right and Put. -/
import Derived.Test.YtiloclekhddkfaaS29
namespace Go.Proofs.Ytiloclekhddkfaa
open Go.RowKit Go.Lib

section
variable {w : World}
set_option maxHeartbeats 2000000 in
set_option maxRecDepth 100000 in
theorem rright_any (r : Rf) (hs : Sm r.s) : Calls Try.prog 38 #[.agg (rc r).toArray] w fun e w' => e = .returned (.bool (rt r)) ∧ Below w.heap.size w w' := by
  have hbox := run_box28
  have hn := rc_num r hs
  have HB : Hid (Below w.heap.size w (w.alloc (.cells (rc r).toArray 28))) := ⟨(Below.refl _ w).alloc (Nat.le_refl _) _⟩
  have d0 : (w.alloc (.cells (rc r).toArray 28)).cell? ⟨w.heap.size, 32, none⟩ = some (.int .i64 r.l) := by rw [cell_of_row _ _ _ _ _ _ (heap_alloc_new w _)]; simpa using hn.1
  have d1 : (w.alloc (.cells (rc r).toArray 28)).cell? ⟨w.heap.size, 33, none⟩ = some (.int .i64 r.b) := by rw [cell_of_row _ _ _ _ _ _ (heap_alloc_new w _)]; simpa using hn.2.1
  have d2 : (w.alloc (.cells (rc r).toArray 28)).cell? ⟨w.heap.size, 34, none⟩ = some (.int .i64 r.o) := by rw [cell_of_row _ _ _ _ _ _ (heap_alloc_new w _)]; simpa using hn.2.2
  have HR : Hid (rt r = decide (1 ≤ r.l ∧ r.l ≤ 512 ∧ 0 ≤ r.b ∧ r.b < 4096 ∧ 0 ≤ r.o ∧ r.o < 64)) := ⟨rfl⟩
  generalize (rc r).toArray = cs at HB d0 d1 d2 ⊢
  generalize rt r = R at HR ⊢
  generalize r.l = l at d0 HR
  generalize r.b = b at d1 HR
  generalize r.o = o at d2 HR
  clear hn
  by_cases h0 : 1 ≤ l
  · skip
    by_cases h1 : l ≤ 512
    · skip
      by_cases h2 : 0 ≤ b
      · skip
        by_cases h3 : b ≤ 4095
        · skip
          by_cases h4 : 0 ≤ o
          · skip
            by_cases h5 : o ≤ 63
            · skip
              go_enter Try.func38, Try.ntmps38
              go_wp2
              go_ret
              exact ⟨by rw [HR.out, decide_eq_true (by omega)]; rfl, HB.out⟩
            · go_enter Try.func38, Try.ntmps38
              go_wp2
              go_ret
              exact ⟨by rw [HR.out, decide_eq_false (by omega)]; rfl, HB.out⟩
          · go_enter Try.func38, Try.ntmps38
            go_wp2
            go_ret
            exact ⟨by rw [HR.out, decide_eq_false (by omega)]; rfl, HB.out⟩
        · go_enter Try.func38, Try.ntmps38
          go_wp2
          go_ret
          exact ⟨by rw [HR.out, decide_eq_false (by omega)]; rfl, HB.out⟩
      · go_enter Try.func38, Try.ntmps38
        go_wp2
        go_ret
        exact ⟨by rw [HR.out, decide_eq_false (by omega)]; rfl, HB.out⟩
    · go_enter Try.func38, Try.ntmps38
      go_wp2
      go_ret
      exact ⟨by rw [HR.out, decide_eq_false (by omega)]; rfl, HB.out⟩
  · go_enter Try.func38, Try.ntmps38
    go_wp2
    go_ret
    exact ⟨by rw [HR.out, decide_eq_false (by omega)]; rfl, HB.out⟩
end

theorem RdY.far {w w' : World} {v : Value} {l : List Int} {X : List Nat} (h : RdY w v l) (hc : Chg X w w') (hx : ∀ k ∈ ob v, k ∉ X) : RdY w' v l := Rd.far h hc (fun _ k hk => hx k (mem_ob.2 hk))
theorem SumAt.rd {w : World} {p : Nat} {s : List Int} (h : SumAt w p s) (hs : Sm s) : RdY w (.slice (some ⟨p, 0, none⟩) 32 32) s := by
  refine ⟨_, _, by rw [yv_len, hs.len], by rw [yv_len, hs.len]; exact Nat.le_refl _, by unfold maxLen; omega, by simp, fun x hx i hi => ?_⟩
  cases hx
  rw [yv_len, hs.len] at hi
  rw [add_plain, Nat.zero_add, cell_of_row _ _ _ _ _ _ h, sa_get hs i hi, yv_get s (by rw [hs.len]; exact hi)]
section
variable {w : World}
set_option maxHeartbeats 4000000 in
set_option maxRecDepth 100000 in
theorem rput_any (v : Value) (L : List Rf) (h : RdR w v L) (hL : L.length ≤ 10000000000000) : Calls Try.prog 23 #[v] w fun e w' => ∃ v', e = .returned (.tuple #[v', .int .i64 (putR L).2]) ∧ OwnY w' w.heap.size v' (putR L).1 ∧ Below w.heap.size w w' := by
  have H := Hid.mk h
  have HP : Hid (putR L = if 64 < L.length then ([], 6) else if L.all rt then (Oct.numB L.length ++ refsB L, 0) else ([], 2)) := ⟨rfl⟩
  obtain ⟨n, Hn⟩ : ∃ n, Hid (L.length = n) := ⟨_, ⟨rfl⟩⟩
  obtain ⟨av, cv, rfl, hcv, hcm, _⟩ := h.shape
  rw [Hn.out] at HP hL H hcv ⊢
  obtain ⟨R, HR⟩ : ∃ R, Hid (putR L = R) := ⟨_, ⟨rfl⟩⟩
  rw [HR.out] at HP ⊢
  clear h
  by_cases h64 : 64 < n
  · have HR' : Hid (R = ([], 6)) := ⟨by rw [HP.out, if_pos h64]⟩
    have e := HR'.out
    subst e
    have hz : (64 : Int) < (n : Int) := by omega
    go_enter Try.func23, Try.ntmps23
    go_wp2
    go_ret2
    exact ⟨_, rfl, owny_nil _ _, Below.refl _ _⟩
  have HR' : Hid (R = if L.all rt then (Oct.numB n ++ refsB L, 0) else ([], 2)) := ⟨by rw [HP.out, if_neg h64]⟩
  have hnz : ¬ (64 : Int) < (n : Int) := by omega
  have t1 := Oct.rnum_good n w (by omega)
  obtain ⟨NB, HNB⟩ : ∃ NB, Hid (Oct.numB n = NB) := ⟨_, ⟨rfl⟩⟩
  have HNl : Hid (NB.length ≤ 8) := ⟨by rw [← HNB.out]; exact Oct.numB_len8 n (by omega)⟩
  rw [HNB.out] at t1 HR'
  go_enter Try.func23, Try.ntmps23
  go_upto_region 3 with fail
  go_upto_region 4 with (go_at_call 37; refine t1.mono ?_; rintro e w2 ⟨v2, rfl, hO2, hB2⟩)
  have HO2 : Hid (OwnY w2 w.heap.size v2 NB) := ⟨hO2⟩
  have HB2 := Hid.mk hB2
  clear hO2 hB2 t1
  obtain ⟨a2, c2, e2, _⟩ := HO2.out.shape
  subst e2
  obtain ⟨n2, Hn2⟩ : ∃ n2, Hid (NB.length = n2) := ⟨_, ⟨rfl⟩⟩
  rw [Hn2.out] at HO2 ⊢
  go_wp2_with fail
  go_loopg [4, 6, 7, 8, 9, 10, 11, 12, 13] n (fun gg s4 s6 _ _ _ _ _ _ _ wr => ∃ kk : Nat, kk ≤ n ∧ n - kk ≤ gg ∧ s6 = .int .i64 (kk : Int) ∧ Hid (OwnY wr w.heap.size s4 (NB ++ refsB (L.take kk))) ∧ Hid (Below w.heap.size w wr) ∧ Hid (∀ r ∈ L.take kk, Sm r.s ∧ rt r = true))
  case atStart => exact ⟨0, Nat.zero_le _, by omega, rfl, ⟨by simpa [refsB] using HO2.out⟩, HB2, ⟨by simp⟩⟩
  case round =>
    clear HO2 HB2
    obtain ⟨kk, hkk, hgg, rfl, HO, HB, HT⟩ := hrel
    obtain ⟨a4, c4, e4, _⟩ := HO.out.shape
    subst e4
    obtain ⟨n4, Hn4⟩ : ∃ m, Hid ((NB ++ refsB (L.take kk)).length = m) := ⟨_, ⟨rfl⟩⟩
    rw [Hn4.out] at HO ⊢
    by_cases hlt : kk < n
    · have hltz : (kk : Int) < (n : Int) := by omega
      have hkL : kk < L.length := by rw [Hn.out]; exact hlt
      obtain ⟨b, off, cap, e, hat, _⟩ := H.out.atS hkL
      have hsm := H.out.sum hkL
      rw [Hn.out] at e
      simp at e
      obtain ⟨rfl, rfl⟩ := e
      have HS := Hid.mk (refsB_snoc L kk hkL)
      have HTs : Hid (L.take (kk + 1) = L.take kk ++ [L.getD kk r0]) := ⟨by rw [List.take_add_one, List.getElem?_eq_getElem hkL]; simp [List.getD, List.getElem?_eq_getElem hkL]⟩
      have Hmem : Hid (L.getD kk r0 ∈ L) := ⟨by simp only [List.getD, List.getElem?_eq_getElem hkL, Option.getD_some]; exact List.getElem_mem hkL⟩
      generalize L.getD kk r0 = r at hat hsm HS HTs Hmem
      have Hat0 := Hid.mk hat
      have HX0 : Hid (Chg [] w wr) := ⟨Chg.ofBelow HB.out⟩
      have Hc : Hid (At wr b (off + kk * 35) (rc r)) := ⟨hat.far HX0.out (by simp)⟩
      have Hi : Hid ((Try.prog.info? 28).map (·.size) = some (rc r).length) := ⟨by rw [rc_len r hsm]; exact info28⟩
      have Hsm := Hid.mk hsm
      have Hs32 : Hid (Sum32 r.s) := ⟨⟨hsm.len, hsm.byte⟩⟩
      have t2 := rright_any (w := wr) r hsm
      clear hat hsm
      obtain ⟨T, HT2⟩ : ∃ T, Hid (rt r = T) := ⟨_, ⟨rfl⟩⟩
      rw [HT2.out] at t2
      cases T with
      | false =>
        have HRf : Hid (R = ([], 2)) := ⟨by
          rw [HR'.out, if_neg (fun hall => ?_)]
          have := List.all_eq_true.1 hall r Hmem.out
          rw [HT2.out] at this
          cases this⟩
        have e := HRf.out
        subst e
        go_wp2_with (first
          | (refine wp_loadA rfl 28 (.tmp 31) rfl b (off + kk * 35) rfl (rc r) _ Hc.out Try.underlying28 rfl Hi.out ?_)
          | (go_at_call 38; refine t2.mono ?_; rintro e w3 ⟨rfl, hb3⟩))
        go_ret2
        exact ⟨_, rfl, owny_nil _ _, HB.out.trans (hb3.mono HB.out.size)⟩
      | true =>
      go_upto_region 9 with (first
        | (refine wp_loadA rfl 28 (.tmp 31) rfl b (off + kk * 35) rfl (rc r) _ Hc.out Try.underlying28 rfl Hi.out ?_)
        | (go_at_call 38; refine t2.mono ?_; rintro e w3 ⟨rfl, hb3⟩))
      have HX3 : Hid (Chg [] w w3) := ⟨HX0.out.trans (Chg.ofBelow hb3)⟩
      have HO3 : Hid (OwnY w3 w.heap.size (.slice a4 n4 c4) (NB ++ refsB (L.take kk))) := ⟨own_far HO.out (Chg.ofBelow (X := []) hb3) (by simp)⟩
      have Hat3 : Hid (At w3 b (off + kk * 35) (sc r.s)) := ⟨fun j v hv => by
        have hj : j < 32 := by
          rcases Nat.lt_or_ge j 32 with k | k
          · exact k
          · rw [List.getElem?_eq_none (by rw [sc_len, Hsm.out.len]; exact k)] at hv; cases hv
        refine (Hat0.out.far HX3.out (by simp)) j v ?_
        rw [rc_sum r Hsm.out j hj]
        rw [sc_get _ (by rw [Hsm.out.len]; exact hj)] at hv
        exact hv⟩
      have HbR := Hid.mk ((rt_iff r).1 HT2.out)
      have hn3 := rc_num r Hsm.out
      have Hd : Hid (w.cell? ⟨b, off + kk * 35 + 32, none⟩ = some (.int .i64 r.l) ∧ w.cell? ⟨b, off + kk * 35 + 33, none⟩ = some (.int .i64 r.b) ∧ w.cell? ⟨b, off + kk * 35 + 34, none⟩ = some (.int .i64 r.o)) := ⟨Hat0.out 32 _ hn3.1, Hat0.out 33 _ hn3.2.1, Hat0.out 34 _ hn3.2.2⟩
      have Hlen : Hid ((NB ++ refsB (L.take kk)).length ≤ 8 + 56 * 64) := ⟨by
        have h1 := refsB_len (L.take kk) HT.out
        have h2 := HNl.out
        have h3 : (L.take kk).length ≤ kk := List.length_take_le _ _
        rw [List.length_append]
        omega⟩
      clear hb3 t2 hn3 Hc
      go_upto_region 10 with (first
        | (refine wp_loadS rfl (.tmp 38) rfl b (off + kk * 35) rfl r.s Hat3.out Hs32.out ?_)
        | (refine wp_storeS rfl (.tmp 7) (.tmp 39) rfl w3.heap.size r.s Hsm.out rfl rfl _ (heap_alloc_new w3 _) rfl ?_; intro w4 hA4 hG4; have HA4 := Hid.mk hA4; have HB4 : Hid (Below w3.heap.size w3 w4) := ⟨((Chg.ofBelow (X := []) ((Below.refl _ w3).alloc (Nat.le_refl _) _)).thenNew hG4 (by simp)).below (Nat.le_refl _) (by simp)⟩; clear hA4 hG4))
      have HO4 : Hid (OwnY w4 w.heap.size (.slice a4 n4 c4) (NB ++ refsB (L.take kk))) := ⟨own_far HO3.out (Chg.ofBelow (X := []) HB4.out) (by simp)⟩
      have HX4 : Hid (Chg [] w w4) := ⟨HX3.out.trans (Chg.ofBelow HB4.out)⟩
      have HRs := Hid.mk (HA4.out.rd Hsm.out)
      have hla : (NB ++ refsB (L.take kk)).length + r.s.length ≤ 1000000000000 := by have := Hlen.out; have := Hsm.out.len; omega
      have hb4 : w.heap.size ≤ w4.heap.size := HX4.out.size
      go_upto_region 11 with (at_builtin; refine wp_appY rfl (.tmp 40) (.tmp 41) rfl rfl HO4.out rfl HRs.out hla hb4 ?_; intro v5 w5 hO5 hG5 hV5)
      replace hG5 : Chg (ob (.slice a4 n4 c4)) w4 w5 := hG5
      have HX5 : Hid (Chg [] w w5) := ⟨HX4.out.thenNew hG5 (fun x hx => .inr (HO4.out.lt x (mem_ob.1 hx)).1)⟩
      have HO5 := Hid.mk hO5
      have Hob5 : Hid (∀ k ∈ ob v5, k < w5.heap.size) := ⟨fun k hk => (hO5.lt k (mem_ob.1 hk)).2⟩
      obtain ⟨a5, c5, e5, _⟩ := hO5.shape
      subst e5
      obtain ⟨n5, Hn5⟩ : ∃ n, Hid ((NB ++ refsB (L.take kk) ++ r.s).length = n) := ⟨_, ⟨rfl⟩⟩
      have hl5 : (NB ++ refsB (L.take kk) ++ r.s).length ≤ 4000 := by rw [List.length_append]; have := Hlen.out; have := Hsm.out.len; omega
      rw [Hn5.out] at HO5 Hob5 ⊢
      clear hO5 hG5 hV5 hla hb4 HRs
      have HRfd : Hid (refB r = r.s ++ nums [r.l, r.b, r.o]) := ⟨rfl⟩
      obtain ⟨sx, lx, bx, ox⟩ := r
      simp only at Hd HbR HRfd HO5 Hn5 hl5
      have hbR := HbR.out
      obtain ⟨lx, rfl⟩ := Int.eq_ofNat_of_zero_le (show 0 ≤ lx by omega)
      obtain ⟨bx, rfl⟩ := Int.eq_ofNat_of_zero_le (show 0 ≤ bx by omega)
      obtain ⟨ox, rfl⟩ := Int.eq_ofNat_of_zero_le (show 0 ≤ ox by omega)
      have cl5 := (HX5.out.cell (a := ⟨b, off + kk * 35 + 32, none⟩) (World.block_lt_of_cell? _ _ Hd.out.1) (by simp)).trans Hd.out.1
      have cb5 := (HX5.out.cell (a := ⟨b, off + kk * 35 + 33, none⟩) (World.block_lt_of_cell? _ _ Hd.out.2.1) (by simp)).trans Hd.out.2.1
      have co5 := (HX5.out.cell (a := ⟨b, off + kk * 35 + 34, none⟩) (World.block_lt_of_cell? _ _ Hd.out.2.2) (by simp)).trans Hd.out.2.2
      have HNu : Hid (nums [(lx : Int), (bx : Int), (ox : Int)] = Oct.numB lx ++ (Oct.numB bx ++ Oct.numB ox)) := ⟨by rw [nums3]; rfl⟩
      go_upto_region 12 with (go_at_call 37; refine (Oct.rnum_good lx _ (by omega)).mono ?_; rintro e w6 ⟨v6, rfl, hO6, hb6⟩)
      have HR6 : Hid (RdY w6 v6 (Oct.numB lx)) := ⟨own_rd hO6⟩
      have HOb6 : Hid (∀ k ∈ ob v6, w5.heap.size ≤ k) := ⟨fun k hk => (World.ownsRow.lt hO6 k (mem_ob.1 hk)).1⟩
      have Hlt6a : Hid (∀ k ∈ ob v6, k < w6.heap.size) := ⟨fun k hk => (World.ownsRow.lt hO6 k (mem_ob.1 hk)).2⟩
      have HBB6 := Hid.mk hb6
      obtain ⟨a6, c6, e6, _⟩ := HR6.out.shape
      subst e6
      obtain ⟨n6, Hn6⟩ : ∃ n, Hid ((Oct.numB lx).length = n) := ⟨_, ⟨rfl⟩⟩
      rw [Hn6.out] at HR6 HOb6 Hlt6a ⊢
      have HX6 : Hid (Chg [] w w6) := ⟨HX5.out.trans (Chg.ofBelow hb6)⟩
      have cl6 := (HX6.out.cell (a := ⟨b, off + kk * 35 + 32, none⟩) (World.block_lt_of_cell? _ _ Hd.out.1) (by simp)).trans Hd.out.1
      have cb6 := (HX6.out.cell (a := ⟨b, off + kk * 35 + 33, none⟩) (World.block_lt_of_cell? _ _ Hd.out.2.1) (by simp)).trans Hd.out.2.1
      have co6 := (HX6.out.cell (a := ⟨b, off + kk * 35 + 34, none⟩) (World.block_lt_of_cell? _ _ Hd.out.2.2) (by simp)).trans Hd.out.2.2
      clear hO6 hb6
      go_upto_region 13 with (go_at_call 37; refine (Oct.rnum_good bx _ (by omega)).mono ?_; rintro e w7 ⟨v7, rfl, hO7, hb7⟩)
      have HR7 : Hid (RdY w7 v7 (Oct.numB bx)) := ⟨own_rd hO7⟩
      have HOb7 : Hid (∀ k ∈ ob v7, w6.heap.size ≤ k) := ⟨fun k hk => (World.ownsRow.lt hO7 k (mem_ob.1 hk)).1⟩
      have Hlt7a : Hid (∀ k ∈ ob v7, k < w7.heap.size) := ⟨fun k hk => (World.ownsRow.lt hO7 k (mem_ob.1 hk)).2⟩
      have HBB7 := Hid.mk hb7
      obtain ⟨a7, c7, e7, _⟩ := HR7.out.shape
      subst e7
      obtain ⟨n7, Hn7⟩ : ∃ n, Hid ((Oct.numB bx).length = n) := ⟨_, ⟨rfl⟩⟩
      rw [Hn7.out] at HR7 HOb7 Hlt7a ⊢
      have HX7 : Hid (Chg [] w w7) := ⟨HX6.out.trans (Chg.ofBelow hb7)⟩
      have cl7 := (HX7.out.cell (a := ⟨b, off + kk * 35 + 32, none⟩) (World.block_lt_of_cell? _ _ Hd.out.1) (by simp)).trans Hd.out.1
      have cb7 := (HX7.out.cell (a := ⟨b, off + kk * 35 + 33, none⟩) (World.block_lt_of_cell? _ _ Hd.out.2.1) (by simp)).trans Hd.out.2.1
      have co7 := (HX7.out.cell (a := ⟨b, off + kk * 35 + 34, none⟩) (World.block_lt_of_cell? _ _ Hd.out.2.2) (by simp)).trans Hd.out.2.2
      clear hO7 hb7
      go_upto_region 14 with (go_at_call 37; refine (Oct.rnum_good ox _ (by omega)).mono ?_; rintro e w8 ⟨v8, rfl, hO8, hb8⟩)
      have HR8 : Hid (RdY w8 v8 (Oct.numB ox)) := ⟨own_rd hO8⟩
      have HOb8 : Hid (∀ k ∈ ob v8, w7.heap.size ≤ k) := ⟨fun k hk => (World.ownsRow.lt hO8 k (mem_ob.1 hk)).1⟩
      have Hlt8a : Hid (∀ k ∈ ob v8, k < w8.heap.size) := ⟨fun k hk => (World.ownsRow.lt hO8 k (mem_ob.1 hk)).2⟩
      have HBB8 := Hid.mk hb8
      obtain ⟨a8, c8, e8, _⟩ := HR8.out.shape
      subst e8
      obtain ⟨n8, Hn8⟩ : ∃ n, Hid ((Oct.numB ox).length = n) := ⟨_, ⟨rfl⟩⟩
      rw [Hn8.out] at HR8 HOb8 Hlt8a ⊢
      have HX8 : Hid (Chg [] w w8) := ⟨HX7.out.trans (Chg.ofBelow hb8)⟩
      have cl8 := (HX8.out.cell (a := ⟨b, off + kk * 35 + 32, none⟩) (World.block_lt_of_cell? _ _ Hd.out.1) (by simp)).trans Hd.out.1
      have cb8 := (HX8.out.cell (a := ⟨b, off + kk * 35 + 33, none⟩) (World.block_lt_of_cell? _ _ Hd.out.2.1) (by simp)).trans Hd.out.2.1
      have co8 := (HX8.out.cell (a := ⟨b, off + kk * 35 + 34, none⟩) (World.block_lt_of_cell? _ _ Hd.out.2.2) (by simp)).trans Hd.out.2.2
      clear hO8 hb8
      have HO8 : Hid (OwnY w8 w.heap.size (.slice a5 n5 c5) (NB ++ refsB (L.take kk) ++ sx)) := ⟨own_far (own_far (own_far HO5.out (Chg.ofBelow (X := []) HBB6.out) (by simp)) (Chg.ofBelow (X := []) HBB7.out) (by simp)) (Chg.ofBelow (X := []) HBB8.out) (by simp)⟩
      have HR68 : Hid (RdY w8 (.slice a6 n6 c6) (Oct.numB lx)) := ⟨(HR6.out.far (Chg.ofBelow (X := []) HBB7.out) (by simp)).far (Chg.ofBelow (X := []) HBB8.out) (by simp)⟩
      have HR78 : Hid (RdY w8 (.slice a7 n7 c7) (Oct.numB bx)) := ⟨HR7.out.far (Chg.ofBelow (X := []) HBB8.out) (by simp)⟩
      have HR88 := HR8
      have k6 := Oct.numB_len8 lx (by omega)
      have k7 := Oct.numB_len8 bx (by omega)
      have k8 := Oct.numB_len8 ox (by omega)
      have hq1 : (NB ++ refsB (L.take kk) ++ sx).length + (Oct.numB lx).length ≤ 1000000000000 := by omega
      have hq2 : (NB ++ refsB (L.take kk) ++ sx ++ Oct.numB lx).length + (Oct.numB bx).length ≤ 1000000000000 := by rw [List.length_append]; omega
      have hq3 : (NB ++ refsB (L.take kk) ++ sx ++ Oct.numB lx ++ Oct.numB bx).length + (Oct.numB ox).length ≤ 1000000000000 := by rw [List.length_append, List.length_append]; omega
      have hbw8 : w.heap.size ≤ w8.heap.size := HX8.out.size
      have Hord : Hid (w5.heap.size ≤ w6.heap.size ∧ w6.heap.size ≤ w7.heap.size ∧ w7.heap.size ≤ w8.heap.size) := ⟨HBB6.out.size, HBB7.out.size, HBB8.out.size⟩
      have Hlt7 : Hid (∀ k ∈ ob (.slice a7 n7 c7), w6.heap.size ≤ k ∧ k < w8.heap.size) := ⟨fun k hk => ⟨HOb7.out k hk, by have := Hlt7a.out k hk; have := Hord.out; omega⟩⟩
      have Hlt8 : Hid (∀ k ∈ ob (.slice a8 n8 c8), w7.heap.size ≤ k ∧ k < w8.heap.size) := ⟨fun k hk => ⟨HOb8.out k hk, Hlt8a.out k hk⟩⟩
      go_upto_region 14 with fail
      go_upto_region 6 with (first
        | (at_builtin; refine wp_appY rfl (.tmp 70) (.tmp 71) rfl rfl HO8.out rfl HR68.out hq1 hbw8 ?_; intro v9 w9 hO9 hG9 hV9
           replace hV9 : v9.ownBlock = Value.ownBlock (.slice a5 n5 c5) ∨ v9.ownBlock = some w8.heap.size := hV9
           have HO9 := Hid.mk hO9
           have HX9 : Hid (Chg [] w w9) := ⟨HX8.out.thenNew hG9 (fun x hx => .inr (HO8.out.lt x (mem_ob.1 hx)).1)⟩
           have Ho9 : Hid (∀ k ∈ ob v9, k < w5.heap.size ∨ k = w8.heap.size) := ⟨fun k hk => by
             rcases hV9 with z | z
             · exact .inl (Hob5.out k (mem_ob.2 (by rw [← z]; exact mem_ob.1 hk)))
             · rw [mem_ob.1 hk] at z; exact .inr (by cases z; rfl)⟩
           have HR79 : Hid (RdY w9 (.slice a7 n7 c7) (Oct.numB bx)) := ⟨HR78.out.far hG9 (fun k hk hm => by have h1 := Hlt7.out k hk; have h2 := Hob5.out k hm; have := Hord.out; omega)⟩
           have HR89 : Hid (RdY w9 (.slice a8 n8 c8) (Oct.numB ox)) := ⟨HR88.out.far hG9 (fun k hk hm => by have h1 := Hlt8.out k hk; have h2 := Hob5.out k hm; have := Hord.out; omega)⟩
           have hbw9 : w.heap.size ≤ w9.heap.size := HX9.out.size
           obtain ⟨a9, c9, e9, _⟩ := hO9.shape
           subst e9
           obtain ⟨n9, Hn9⟩ : ∃ n, Hid ((NB ++ refsB (L.take kk) ++ sx ++ Oct.numB lx).length = n) := ⟨_, ⟨rfl⟩⟩
           rw [Hn9.out] at HO9 Ho9 ⊢
           have Hs9 : Hid (w8.heap.size ≤ w9.heap.size) := ⟨hG9.size⟩
           clear hO9 hG9 hV9)
        | (at_builtin; refine wp_appY rfl (.tmp 72) (.tmp 73) rfl rfl HO9.out rfl HR79.out hq2 hbw9 ?_; intro v10 w10 hO10 hG10 hV10
           have HO10 := Hid.mk hO10
           have HX10 : Hid (Chg [] w w10) := ⟨HX9.out.thenNew hG10 (fun x hx => .inr (HO9.out.lt x (mem_ob.1 hx)).1)⟩
           have HR810 : Hid (RdY w10 (.slice a8 n8 c8) (Oct.numB ox)) := ⟨HR89.out.far hG10 (fun k hk hm => by have h1 := Hlt8.out k hk; have h2 := Ho9.out k hm; have := Hord.out; omega)⟩
           have hbw10 : w.heap.size ≤ w10.heap.size := HX10.out.size
           obtain ⟨a10, c10, e10, _⟩ := hO10.shape
           subst e10
           obtain ⟨n10, Hn10⟩ : ∃ n, Hid ((NB ++ refsB (L.take kk) ++ sx ++ Oct.numB lx ++ Oct.numB bx).length = n) := ⟨_, ⟨rfl⟩⟩
           rw [Hn10.out] at HO10 ⊢
           clear hO10 hG10 hV10)
        | (at_builtin; refine wp_appY rfl (.tmp 74) (.tmp 75) rfl rfl HO10.out rfl HR810.out hq3 hbw10 ?_; intro v11 w11 hO11 hG11 hV11
           have HO11 := Hid.mk hO11
           have HX11 : Hid (Chg [] w w11) := ⟨HX10.out.thenNew hG11 (fun x hx => .inr (HO10.out.lt x (mem_ob.1 hx)).1)⟩
           clear hO11 hG11 hV11))
      obtain ⟨a11, c11, e11, _⟩ := HO11.out.shape
      subst e11
      obtain ⟨n11, Hn11⟩ : ∃ n, Hid ((NB ++ refsB (L.take kk) ++ sx ++ Oct.numB lx ++ Oct.numB bx ++ Oct.numB ox).length = n) := ⟨_, ⟨rfl⟩⟩
      rw [Hn11.out] at HO11 ⊢
      go_wp2_with fail
      go_roundg (n - (kk + 1))
      case measure => omega
      case rel =>
        refine ⟨kk + 1, by omega, by omega, by go_num, ⟨?_⟩, ⟨HX11.out.below (Nat.le_refl _) (by simp)⟩, ⟨fun x hx => ?_⟩⟩
        · rw [HS.out, HRfd.out, HNu.out]
          have e : NB ++ (refsB (L.take kk) ++ (sx ++ (Oct.numB lx ++ (Oct.numB bx ++ Oct.numB ox)))) = NB ++ refsB (L.take kk) ++ sx ++ Oct.numB lx ++ Oct.numB bx ++ Oct.numB ox := by simp
          rw [e]
          exact HO11.out
        · rw [HTs.out] at hx
          rcases List.mem_append.1 hx with z | z
          · exact HT.out x z
          · simp at z; subst z; exact ⟨Hsm.out, HT2.out⟩
    · obtain rfl : n = kk := by omega
      have HTt : Hid (L.take n = L) := ⟨List.take_of_length_le (by rw [Hn.out]; exact Nat.le_refl _)⟩
      rw [HTt.out] at HO HT
      have HRt : Hid (R = (NB ++ refsB L, 0)) := ⟨by rw [HR'.out, if_pos (List.all_eq_true.2 (fun x hx => (HT.out x hx).2))]⟩
      have e := HRt.out
      subst e
      go_wp2_with fail
      go_ret2
      exact ⟨_, rfl, HO.out, HB.out⟩
end
end Go.Proofs.Ytiloclekhddkfaa
