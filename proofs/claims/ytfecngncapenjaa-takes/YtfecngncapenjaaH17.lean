/- Lengths, where the counts may be. -/
import Derived.Test.YtfecngncapenjaaH16
namespace Go.Proofs.Ytfecngncapenjaa
open Go.RowKit Oct Go.Lib

/-- Where the joining stands. -/
def Stg (f : List Int) (L : List Sh) (g : List Int) : Prop := (T0 f 256).length ≠ 1 ∧ RunA (T0 f 256) (L.map pr) g
theorem Stg.next {f : List Int} {L L1 L2 L3 : List Sh} {g : List Int} (h : Stg f L g) {x y z : Sh} (h1 : L.Perm (x :: L1)) (h2 : L1.Perm (y :: L2)) (m1 : ∀ s ∈ L, shl s x = false) (m2 : ∀ s ∈ L1, shl s y = false) (hz : pr z = joinA (pr x) (pr y)) (h3 : L3.Perm (L2 ++ [z])) : Stg f L3 (bump g (byt z)) := by
  refine ⟨h.1, ?_⟩
  have e : byt z = (joinA (pr x) (pr y)).2.2 := by rw [← hz]; rfl
  rw [e]
  refine RunA.step (L.map pr) (L3.map pr) (L2.map pr) (pr x) (pr y) g h.2 ?_ ?_ ?_ ?_
  · exact (h1.map pr).trans ((h2.map pr).cons _)
  · intro t ht
    have : t ∈ L1.map pr := (h2.map pr).mem_iff.2 (by simpa using ht)
    obtain ⟨s, hs, rfl⟩ := List.mem_map.1 this
    exact m1 s (h1.mem_iff.2 (List.mem_cons_of_mem _ hs))
  · intro t ht
    obtain ⟨s, hs, rfl⟩ := List.mem_map.1 ht
    exact m2 s (h2.mem_iff.2 (List.mem_cons_of_mem _ hs))
  · rw [← hz]
    refine (h3.map pr).trans ?_
    rw [List.map_append]
    exact List.perm_append_comm
theorem Stg.two {f : List Int} {L L1 L2 : List Sh} {g : List Int} (h0 : FineA (T0 f 256)) (h : Stg f L g) {x y : Sh} (h1 : L.Perm (x :: L1)) (h2 : L1.Perm (y :: L2)) : FineA (pr x :: pr y :: L2.map pr) :=
  (h.2.fine h0).perm ((h1.map pr).trans ((h2.map pr).cons _))
section
variable {w : World}
set_option maxHeartbeats 16000000 in
set_option maxRecDepth 100000 in
theorem lengths9_ok (f : List Int) (hf : f.length = 256) (hb : f.any bad = false) : Calls Try.prog 9 #[.agg (ia f)] w fun e w' => ∃ g, e = .returned (.tuple #[.agg (ia g), .int .i64 0]) ∧ LenS f g ∧ Below w.heap.size w w' := by
  have H0 : Hid (FineA (T0 f 256)) := ⟨T0_fine hf hb⟩
  obtain ⟨q, Hq⟩ : ∃ q, Hid (w.heap.size = q) := ⟨_, ⟨rfl⟩⟩
  obtain ⟨w1, Hw1⟩ : ∃ x, Hid (w.alloc (.cells (ia f) 22) = x) := ⟨_, ⟨rfl⟩⟩
  have HB1 : Hid (Below w.heap.size w w1) := ⟨by rw [← Hw1.out]; exact (Below.refl _ w).alloc (Nat.le_refl _) _⟩
  have HX1 : Hid (w1.heap[q]? = some (.cells (ia f) 22 (0, 0))) := ⟨by rw [← Hw1.out, ← Hq.out]; exact heap_alloc_new w _⟩
  have HS1 : Hid (w1.heap.size = q + 1) := ⟨by rw [← Hw1.out, ← Hq.out]; exact Array.size_push _⟩
  obtain ⟨w2, Hw2⟩ : ∃ x, Hid (w1.alloc (.cells (ia z0) 22) = x) := ⟨_, ⟨rfl⟩⟩
  have HB2 : Hid (Below w.heap.size w w2) := ⟨by rw [← Hw2.out]; exact HB1.out.alloc HB1.out.size _⟩
  have HX2 : Hid (w2.heap[q]? = some (.cells (ia f) 22 (0, 0))) := ⟨by rw [← Hw2.out]; rw [heap_alloc_old (h := by rw [HS1.out]; omega)]; exact HX1.out⟩
  have HY2 : Hid (w2.heap[q + 1]? = some (.cells (ia z0) 22 (0, 0))) := ⟨by rw [← Hw2.out, ← HS1.out]; exact heap_alloc_new w1 _⟩
  obtain ⟨ba, Hba⟩ : ∃ x, Hid (w2.heap.size = x) := ⟨_, ⟨rfl⟩⟩
  have Hbq : Hid (ba = q + 2) := ⟨by rw [← Hba.out, ← Hw2.out]; have : (w1.alloc (.cells (ia z0) 22)).heap.size = w1.heap.size + 1 := Array.size_push _; rw [this, HS1.out]⟩
  have t1 := any20 q f hf HX2.out
  rw [hb] at t1
  have t2 := trees22 (w := w2) f hf
  rw [Hba.out] at t2
  obtain ⟨A, HA⟩ : ∃ A, Hid (ia f = A) := ⟨_, ⟨rfl⟩⟩
  have HI : Hid ((Try.prog.info? 22).map (·.size) = some A.size) := ⟨by rw [← HA.out]; exact info22f hf⟩
  rw [HA.out] at Hw1 HX2 t2
  rw [HA.out]
  clear hf hb
  go_enter Try.func9, Try.ntmps9
  go_upto_region 1 with (first | (refine wp_box rfl 22 (.tmp 0) rfl A rfl ?_; rw [Hw1.out]) | (refine wp_new22 rfl rfl ?_; rw [Hw2.out]))
  rw [HS1.out, Hq.out]
  go_upto_region 3 with (go_at_call 20; refine t1.mono ?_; rintro e w3 ⟨rfl, rfl⟩; clear t1)
  go_wp2_with (refine wp_load rfl 22 (.tmp 1) rfl q rfl A 22 (0, 0) _ HX2.out Try.underlying22 rfl HI.out ?_)
  refine t2.mono ?_
  rintro e w3 ⟨sl, L, rfl, hO3, hP3, hH3, hK3, hL3, hB3⟩
  have HL3 := Hid.mk hL3
  have HH3 := Hid.mk hH3
  have HP3 := Hid.mk hP3
  have HB3 : Hid (Below ba w2 w3) := ⟨hB3⟩
  obtain ⟨b, Hb⟩ : ∃ x, Hid (w3.heap.size = x) := ⟨_, ⟨rfl⟩⟩
  obtain ⟨sa, sc, rfl, _⟩ := (hO3.rd s0).shape
  obtain ⟨n, Hn⟩ : ∃ x, Hid (L.length = x) := ⟨_, ⟨rfl⟩⟩
  rw [Hn.out] at hO3 ⊢
  obtain ⟨w4, Hw4⟩ : ∃ x, Hid (w3.alloc (.cells #[.slice sa n sc] 43) = x) := ⟨_, ⟨rfl⟩⟩
  have HB34 : Hid (Below w3.heap.size w3 w4) := ⟨by rw [← Hw4.out]; exact (Below.refl _ w3).alloc (Nat.le_refl _) _⟩
  have HX4 : Hid (Box w4 b ba (.slice sa n sc) L) := ⟨⟨by rw [← Hw4.out, ← Hb.out]; exact heap_alloc_new w3 _, hO3.far (Chg.ofBelow (X := []) HB34.out) (by simp)⟩⟩
  have HK4 : Hid (Kids w4 L) := ⟨hK3.below HB34.out⟩
  have HS4 : Hid (w4.heap.size = b + 1) := ⟨by rw [← Hw4.out, ← Hb.out]; exact Array.size_push _⟩
  have Hbb : Hid (ba ≤ b) := ⟨by rw [← Hb.out]; have := hB3.size; rw [Hba.out] at this; exact this⟩
  obtain ⟨r, Hr⟩ : ∃ x, Hid (b + 1 = x) := ⟨_, ⟨rfl⟩⟩
  obtain ⟨w5, Hw5⟩ : ∃ x, Hid (w4.alloc (.cells (ia z0) 22) = x) := ⟨_, ⟨rfl⟩⟩
  have HB45 : Hid (Below w4.heap.size w4 w5) := ⟨by rw [← Hw5.out]; exact (Below.refl _ w4).alloc (Nat.le_refl _) _⟩
  have HX5 : Hid (Box w5 b ba (.slice sa n sc) L) := ⟨HX4.out.far (Chg.ofBelow (X := []) HB45.out) (by simp) (by simp)⟩
  have HK5 : Hid (Kids w5 L) := ⟨HK4.out.below HB45.out⟩
  have HR5 : Hid (w5.heap[r]? = some (.cells (ia z0) 22 (0, 0))) := ⟨by rw [← Hw5.out, ← Hr.out, ← HS4.out]; exact heap_alloc_new w4 _⟩
  have HB5 : Hid (Below ba w2 w5) := ⟨(HB3.out.trans (HB34.out.mono (by rw [Hb.out]; exact Hbb.out))).trans (HB45.out.mono (by rw [HS4.out]; have := Hbb.out; omega))⟩
  have HBq : Hid (∀ wx, Below ba w2 wx → Below q w wx) := ⟨fun wx h => by
    refine Below.trans (b := w2) (by rw [← Hq.out]; exact HB2.out) (h.mono (by have := Hbq.out; omega))⟩
  have HYq : Hid (∀ wx, Below ba w2 wx → wx.heap[q + 1]? = some (.cells (ia z0) 22 (0, 0))) := ⟨fun wx h => (h.block (q + 1) (by have := Hbq.out; omega)).trans HY2.out⟩
  clear t2 hO3 hP3 hH3 hK3 hL3 hB3 HB3 HX4 HK4 HB34 HB45 HX2 HY2 HB1 HX1 HB2
  go_upto_region 5 with (refine wp_new22 rfl rfl ?_; (try rw [Hw4.out]); (try rw [HS4.out]); rw [Hw5.out])
  (try rw [Hb.out]); (try rw [Hr.out])
  have k5 := HX5.out.cell
  by_cases hn1 : n = 1
  · subst hn1
    obtain ⟨s, Hs⟩ : ∃ s, Hid (L = [s]) := by
      obtain ⟨s, hs⟩ := List.length_eq_one_iff.1 Hn.out
      exact ⟨s, ⟨hs⟩⟩
    have HT : Hid (T0 f 256 = [pr s]) := ⟨by have := HP3.out; rw [Hs.out] at this; exact this.symm.eq_singleton⟩
    obtain ⟨g, c, e, hc, _, _⟩ := box_row HX5.out (by rw [Hn.out]; decide)
    rw [Hn.out] at e
    simp only [Value.slice.injEq] at e
    obtain ⟨rfl, -, rfl⟩ := e
    have c1 := own_cellE HX5.out.own s0 (j := 1) (i := 0) (by rw [Hn.out]; decide) (by decide)
    rw [Hs.out] at c1
    obtain ⟨m, Hm⟩ : ∃ m : Nat, Hid (s.2.1 = (m : Int) ∧ m < 256) := ⟨s.2.1.toNat, ⟨by
      have h1 := H0.out.each (pr s) (by rw [HT.out]; simp)
      have h2 := h1.by' _ h1.mem
      simp only [pr] at h2
      omega⟩⟩
    have hm := Hm.out.2
    have hmz : (m : Int) < 256 := by omega
    simp [sh3, List.getD, Hm.out.1] at c1
    have d2 : w5.cell? ⟨r, m, none⟩ = some (.int .i64 (z0.getD m 0)) := by rw [cell_of_row _ _ _ _ _ _ HR5.out]; exact ia_get (by rw [z0_len]; exact hm)
    have d3 : w5.frozen? ⟨r, m, none⟩ = false := frozen_of_row _ _ _ _ _ HR5.out
    generalize z0.getD m 0 = y at d2
    have hsc : (1 : Int) ≤ 9223372036854775807 := by decide
    go_upto_region 7 with fail
    obtain ⟨w6, Hw6⟩ : ∃ x, Hid (w5.setCell ⟨r, m, none⟩ (.int .i64 1) = x) := ⟨_, ⟨rfl⟩⟩
    have HC6 : Hid (Chg [r] w5 w6) := ⟨by rw [← Hw6.out]; exact (Chg.refl [r] w5).setCell (.inl (by simp)) _⟩
    have HN22 : Hid (Not22 w5 (b :: ob (.slice (some ⟨g, 0, none⟩) 1 sc))) := ⟨HX5.out.not22⟩
    have Hrb : Hid (b ≠ r) := ⟨by have := Hr.out; omega⟩
    have k6 : w6.cell? ⟨b, 0, none⟩ = some (.slice (some ⟨g, 0, none⟩) 1 sc) := (HC6.out.cell (a := ⟨b, 0, none⟩) HX5.out.lt (by simpa using Hrb.out)).trans k5
    have HR6 : Hid (w6.heap[r]? = some (.cells (ia (z0.set m 1)) 22 (0, 0))) := ⟨by
      rw [← Hw6.out, heap_setCell_same _ _ _ _ _ _ HR5.out]
      exact congrArg (fun a => some (Obj.cells a 22 (0, 0))) (ia_set z0 m 1 (by rw [z0_len]; exact hm))⟩
    have HB6 : Hid (Below ba w2 w6) := ⟨HB5.out.trans (HC6.out.below (by rw [← Hba.out]; exact HB5.out.size) (fun x hx => by simp at hx; have := Hr.out; have := Hbb.out; omega))⟩
    have HLen : Hid (LenS f (z0.set m 1)) := ⟨.inl ⟨by rw [HT.out]; rfl, pr s, HT.out, by simp only [pr]; rw [Hm.out.1]; rfl⟩⟩
    rw [Hw6.out]
    clear c1 d2 d3 k5 HX5 HR5 HC6
    go_loopg [6, 8] 0 (fun _ _ _ wr => Hid (w6 = wr))
    case atStart => exact ⟨rfl⟩
    case round =>
      rename World => wo
      have hw := hrel.out
      subst hw
      go_wp2_with (first | (refine wp_load rfl 22 (.tmp 5) rfl r rfl (ia (z0.set m 1)) 22 (0, 0) _ HR6.out Try.underlying22 rfl (info22f (by rw [List.length_set, z0_len])) ?_) | (refine wp_put22 (f := z0) (g := z0.set m 1) rfl (.tmp 2) (.tmp 45) rfl rfl rfl z0_len (by rw [List.length_set, z0_len]) (HYq.out _ HB6.out) ?_))
      (try simp only [Exit.inBlock, Exit.then])
      refine bodyPost_ret (results_ct rfl _ _ rfl (load22 (by rw [List.length_set, z0_len]) (setRow_heap w6 (q + 1) (ia z0) _ 22 (0, 0) (HYq.out _ HB6.out)))) rfl ?_
      exact ⟨_, rfl, HLen.out, by rw [Hq.out]; exact below_setRow (HBq.out _ HB6.out) (Nat.le_succ q) _⟩
  · have HN : Hid ((T0 f 256).length ≠ 1) := ⟨by rw [← HP3.out.length_eq, List.length_map, Hn.out]; exact hn1⟩
    have HSt : Hid (Stg f L z0) := ⟨HN.out, RunA.init _ HP3.out⟩
    have HT256 : Hid ((T0 f 256).length ≤ 256) := ⟨by rw [← HP3.out.length_eq, List.length_map]; exact HL3.out⟩
    have hn1b : ((n : Int) == 1) = false := by simp; omega
    clear HP3 HL3
    go_upto_region 7 with fail
    go_loopg [6, 8] 257 (fun gg _s6 _s8 wr => ∃ sl L g, Hid (Box wr b ba sl L) ∧ Hid (Heap L L.length) ∧ Hid (Kids wr L) ∧ Hid (Stg f L g) ∧ L.length ≤ gg ∧ Hid (wr.heap[r]? = some (.cells (ia g) 22 (0, 0))) ∧ Hid (Below ba w2 wr))
    case atStart => exact ⟨_, L, z0, HX5, HH3, HK5, HSt, by rw [Hn.out]; have := HT256.out; have := HSt.out.2.few; rw [List.length_map, Hn.out] at this; omega, HR5, HB5⟩
    case round =>
      clear HX5 HH3 HK5 HSt HR5 HB5 k5 Hn hn1 hn1b
      obtain ⟨sl, L, g, HX, HH, HK, HSt, hgg, HR, HB⟩ := hrel
      rename World => wo
      obtain ⟨a, c, rfl, _⟩ := (HX.out.own.rd s0).shape
      obtain ⟨n, Hn⟩ : ∃ x, Hid (L.length = x) := ⟨_, ⟨rfl⟩⟩
      have k0 := HX.out.cell
      have HL : Hid (L.length ≤ 256) := ⟨by have := HT256.out; have := HSt.out.2.few; rw [List.length_map] at this; omega⟩
      rw [Hn.out] at k0 HX hgg
      by_cases h1 : 1 < n
      · have h1z : (1 : Int) < (n : Int) := by omega
        obtain ⟨n1, hn1⟩ : ∃ k, n = k + 2 := ⟨n - 2, by omega⟩
        have t1 := least24 (n := n1 + 1) HX.out (by rw [Hn.out, hn1]) (by have := HL.out; omega) HH.out
        clear hn1
        go_wp2_with fail
        refine t1.mono ?_
        rintro e w6 ⟨x1, x2, xa, xn, xc, xl, rfl, sl1, L1, hX6, hP6, hM6, hH6, hO6, hC6⟩
        have HX6 := Hid.mk hX6
        have HP6 := Hid.mk hP6
        have HM6 := Hid.mk hM6
        have HC6 := Hid.mk hC6
        have HO6 := Hid.mk hO6
        have HL1 : Hid (L1.length + 1 = n) := ⟨by have := hP6.length_eq; rw [Hn.out] at this; simpa using this.symm⟩
        obtain ⟨n2, Hn2⟩ : ∃ k, Hid (L1.length = k + 1) := ⟨L1.length - 1, ⟨by have := HL1.out; omega⟩⟩
        have t2 := least24 (n := n2) hX6 Hn2.out (by have := HL1.out; have := HL.out; have := Hn.out; omega) hH6
        clear t1 hX6 hP6 hM6 hH6 hO6 hC6 k0
        go_wp2_with fail
        refine t2.mono ?_
        rintro e w7 ⟨y1, y2, ya, yn, yc, yl, rfl, sl2, L2, hX7, hP7, hM7, hH7, hO7, hC7⟩
        have HX7 := Hid.mk hX7
        have HP7 := Hid.mk hP7
        have HM7 := Hid.mk hM7
        have HH7 := Hid.mk hH7
        have HL2 : Hid (L2.length + 2 = n) := ⟨by have h1 := hP7.length_eq; have h2 := HL1.out; simp only [List.length_cons] at h1; omega⟩
        have HK7 : Hid (Kids w7 L) := ⟨(HK.out.far HC6.out HX.out.notB).far hC7 HX6.out.notB⟩
        have HR7 : Hid (w7.heap[r]? = some (.cells (ia g) 22 (0, 0))) := ⟨row22_far (row22_far HR.out HC6.out HX.out.not22) hC7 HX6.out.not22⟩
        have HB7 : Hid (Below ba w2 w7) := ⟨(HB.out.trans (HC6.out.below (by rw [← Hba.out]; exact HB.out.size) (HX.out.ge Hbb.out))).trans (hC7.below (Nat.le_trans (by rw [← Hba.out]; exact HB.out.size) HC6.out.size) (HX6.out.ge Hbb.out))⟩
        have hfin := two_fine (HSt.out.two H0.out HP6.out HP7.out)
        simp only [pr] at hfin
        obtain ⟨hf1, hf2, hf3, hf4, hf5, hf6⟩ := hfin
        have HF6 := Hid.mk hf6
        have t3 := joined23 (w := w7) x1 x2 y1 y2 xa ya xn xc yn yc xl yl (HK7.out (x1, x2, (xa, xn, xc, xl)) (HP6.out.mem_iff.2 (by simp))) (HK7.out (y1, y2, (ya, yn, yc, yl)) (HP6.out.mem_iff.2 (List.mem_cons_of_mem _ (HP7.out.mem_iff.2 (by simp))))) (by omega) hf5 (by omega) (by omega)
        obtain ⟨bs, Hbs⟩ : ∃ l, Hid (xl ++ yl = l) := ⟨_, ⟨rfl⟩⟩
        obtain ⟨mn, Hmn⟩ : ∃ l, Hid (min x2 y2 = l) := ⟨_, ⟨rfl⟩⟩
        obtain ⟨cn, Hcn⟩ : ∃ l, Hid (x1 + y1 = l) := ⟨_, ⟨rfl⟩⟩
        rw [Hbs.out, Hmn.out, Hcn.out] at t3
        have HJ : Hid (OneA (cn, mn, bs)) := ⟨by have := HF6.out; simp only [joinA] at this; rw [Hbs.out, Hmn.out, Hcn.out] at this; exact this⟩
        have Hb256 : Hid (bs.length ≤ 256) := ⟨by rw [← Hbs.out, List.length_append]; exact hf4⟩
        have Hb0 : Hid (0 < bs.length) := ⟨List.length_pos_of_mem HJ.out.mem⟩
        clear t2 hX7 hP7 hM7 hH7 hO7 hC7 hf1 hf2 hf3 hf4 hf5 hf6
        go_wp2_with fail
        refine t3.mono ?_
        rintro e w8 ⟨za, zn, zc, rfl, hO8, hB8⟩
        have HX8 : Hid (Box w8 b ba sl2 L2) := ⟨HX7.out.far (Chg.ofBelow (X := []) hB8) (by simp) (by simp)⟩
        have HK8 : Hid (Kids w8 L) := ⟨HK7.out.below hB8⟩
        have HR8 : Hid (w8.heap[r]? = some (.cells (ia g) 22 (0, 0))) := ⟨below_at hB8 HR7.out⟩
        have HB8 : Hid (Below ba w2 w8) := ⟨HB7.out.trans (hB8.mono (by rw [← Hba.out]; exact HB7.out.size))⟩
        obtain ⟨t, Ht⟩ : ∃ x, Hid (w8.heap.size = x) := ⟨_, ⟨rfl⟩⟩
        obtain ⟨w9, Hw9⟩ : ∃ x, Hid (w8.alloc (.cells #[.int .i64 cn, .int .u8 mn, .slice za zn zc] 46) = x) := ⟨_, ⟨rfl⟩⟩
        have HB89 : Hid (Below w8.heap.size w8 w9) := ⟨by rw [← Hw9.out]; exact (Below.refl _ w8).alloc (Nat.le_refl _) _⟩
        have HX9 : Hid (Box w9 b ba sl2 L2) := ⟨HX8.out.far (Chg.ofBelow (X := []) HB89.out) (by simp) (by simp)⟩
        have HK9 : Hid (Kids w9 L) := ⟨HK8.out.below HB89.out⟩
        have HR9 : Hid (w9.heap[r]? = some (.cells (ia g) 22 (0, 0))) := ⟨below_at HB89.out HR8.out⟩
        have HB9 : Hid (Below ba w2 w9) := ⟨HB8.out.trans (HB89.out.mono (by rw [← Hba.out]; exact HB8.out.size))⟩
        have HZ9 : Hid (OwnY w9 0 (.slice za zn zc) bs) := ⟨OwnY.far' (own_base hO8 (fun _ _ => Nat.zero_le _)) HB89.out⟩
        have HT9 : Hid (w9.heap[t]? = some (.cells #[.int .i64 cn, .int .u8 mn, .slice za zn zc] 46 (0, 0))) := ⟨by rw [← Hw9.out, ← Ht.out]; exact heap_alloc_new w8 _⟩
        have Htr : Hid (t ≠ r) := ⟨Ty.ne (e := 46) (f := 22) ⟨_, HT9.out⟩ ⟨_, HR9.out⟩ (by decide)⟩
        obtain ⟨zg, zo, zc', e, _, _⟩ := HZ9.out.rd.at Hb0.out
        simp only [Value.slice.injEq] at e
        obtain ⟨rfl, rfl, rfl⟩ := e
        obtain ⟨zn, Hzn⟩ : ∃ x, Hid (bs.length = x) := ⟨_, ⟨rfl⟩⟩
        rw [Hzn.out] at HZ9 HT9 Hw9 ⊢
        clear t3 hO8 hB8 HX7 HK7 HR7 HB7 HX8 HK8 HR8 HB8 HX6 HC6 HO6
        go_upto_region 9 with fail
        rw [Hw9.out, Ht.out]
        have e2 : w9.cell? ⟨t, 2, none⟩ = some (.slice (some ⟨zg, zo, none⟩) zn zc) := by rw [cell_of_row _ _ _ _ _ _ HT9.out]; rfl
        go_upto_region 10 with fail
        clear e2
        have HSm : Hid (∀ i, 0 ≤ g.getD i 0 ∧ g.getD i 0 ≤ 256) := ⟨fun i => by have h := HSt.out.2.small H0.out i; have := HT256.out; omega⟩
        have Hgl : Hid (g.length = 256) := ⟨HSt.out.2.len⟩
        go_loopg [8, 31] zn (fun gg2 _s8 s31 wr => ∃ k : Nat, k ≤ zn ∧ zn - k ≤ gg2 ∧ s31 = .int .i64 (k : Int) ∧ Hid (Chg [r] w9 wr) ∧ Hid (wr.heap[r]? = some (.cells (ia (bump g (bs.take k))) 22 (0, 0))))
        case atStart => exact ⟨0, Nat.zero_le _, by omega, rfl, ⟨Chg.refl _ _⟩, HR9⟩
        case round =>
          obtain ⟨k, hk, hgg2, rfl, HC, HRk⟩ := hrel
          rename World => wk
          have HNB : Hid (NotB w9 [r]) := ⟨fun x hx _ => by simp at hx; subst hx; exact ⟨22, ⟨_, HR9.out⟩, by decide⟩⟩
          have HZk : Hid (OwnY wk 0 (.slice (some ⟨zg, zo, none⟩) zn zc) bs) := ⟨own_notB HZ9.out HC.out HNB.out⟩
          by_cases hlt : k < zn
          · have hltz : (k : Int) < (zn : Int) := by omega
            obtain ⟨g', o', c', e, hcp, hat⟩ := HZk.out.rd.at (i := k) (by rw [Hzn.out]; exact hlt)
            rw [Hzn.out] at e
            simp only [Value.slice.injEq, Option.some.injEq, Addr.mk.injEq] at e
            obtain ⟨⟨rfl, rfl, _⟩, -, rfl⟩ := e
            have hcpx : zn ≤ zc := by rw [← Hzn.out]; exact hcp
            have hz256 : (zn : Int) ≤ 256 := by have h1 := Hb256.out; rw [Hzn.out] at h1; omega
            have d1 := hat k (by rw [Hzn.out]; exact hlt)
            have hg := HJ.out.by'.get k
            obtain ⟨m, Hm⟩ : ∃ m : Nat, Hid (bs.getD k 0 = (m : Int)) := ⟨(bs.getD k 0).toNat, ⟨by simp only at hg; omega⟩⟩
            simp only at hg
            rw [Hm.out] at d1 hg
            have hm : m < 256 := by omega
            have hmz : (m : Int) < 256 := by omega
            obtain ⟨G, HG⟩ : ∃ G, Hid (bump g (bs.take k) = G) := ⟨_, ⟨rfl⟩⟩
            rw [HG.out] at HRk
            have HGl : Hid (G.length = 256) := ⟨by rw [← HG.out, bump_len, Hgl.out]⟩
            have hle : 0 ≤ G.getD m 0 ∧ G.getD m 0 ≤ 257 := by
              have h1 := HSm.out m
              rw [← HG.out, bump_get Hgl.out (HJ.out.by'.take k) (HJ.out.nodup.sublist (List.take_sublist k bs))]
              by_cases h : (m : Int) ∈ bs.take k
              · rw [if_pos h]; omega
              · rw [if_neg h]; omega
            have d2 : wk.cell? ⟨r, m, none⟩ = some (.int .i64 (G.getD m 0)) := by rw [cell_of_row _ _ _ _ _ _ HRk.out]; exact ia_get (by rw [HGl.out]; exact hm)
            have d3 : wk.frozen? ⟨r, m, none⟩ = false := frozen_of_row _ _ _ _ _ HRk.out
            have HNx : Hid (bump g (bs.take (k + 1)) = G.set m (G.getD m 0 + 1)) := ⟨by
              have hkb : k < bs.length := by rw [Hzn.out]; exact hlt
              rw [List.take_add_one, List.getElem?_eq_getElem hkb]
              have : bs[k] = (m : Int) := by rw [← Hm.out]; simp [List.getD, List.getElem?_eq_getElem hkb]
              simp only [Option.toList_some]
              rw [this, bump_snoc, HG.out, Int.toNat_natCast]⟩
            generalize G.getD m 0 = y at d2 hle HNx
            have hy1 : IntKind.i64.wrap (y + 1) = y + 1 := IntWalk.i64_in _ ⟨by omega, by omega⟩
            clear hat hcp hle hg
            go_wp2_with fail
            go_roundg (zn - (k + 1))
            case measure => omega
            case rel =>
              refine ⟨k + 1, by omega, by omega, by go_num, ⟨?_⟩, ⟨?_⟩⟩
              · exact HC.out.setCell (a := ⟨r, m, none⟩) (.inl (by simp)) _
              · rw [heap_setCell_same _ _ _ _ _ _ HRk.out, HNx.out]
                exact congrArg (fun a => some (Obj.cells a 22 (0, 0))) (ia_set G m (y + 1) (by rw [HGl.out]; exact hm))
          · obtain rfl : k = zn := by omega
            have HRf : Hid (wk.heap[r]? = some (.cells (ia (bump g bs)) 22 (0, 0))) := ⟨by have := HRk.out; rw [List.take_of_length_le (by rw [Hzn.out]; exact Nat.le_refl _)] at this; exact this⟩
            have HTk : Hid (wk.heap[t]? = some (.cells #[.int .i64 cn, .int .u8 mn, .slice (some ⟨zg, zo, none⟩) k zc] 46 (0, 0))) := ⟨(HC.out.block t (Array.getElem?_eq_some_iff.1 HT9.out).1 (by simpa using Htr.out)).trans HT9.out⟩
            have Hbr : Hid (b ≠ r) := ⟨by have := Hr.out; omega⟩
            have HXk : Hid (Box wk b ba sl2 L2) := ⟨HX9.out.far HC.out (by simpa using Hbr.out) (fun x hx hm => by
              simp at hm
              exact Ty.ne (e := 46) (f := 22) (HX9.out.own.ty x hx) ⟨_, HR9.out⟩ (by decide) hm)⟩
            have HKk : Hid (Kids wk L) := ⟨HK9.out.far HC.out HNB.out⟩
            have HBk : Hid (Below ba w2 wk) := ⟨HB9.out.trans (HC.out.below (by rw [← Hba.out]; exact HB9.out.size) (fun x hx => by simp at hx; have := Hr.out; have := Hbb.out; omega))⟩
            have t4 := push25 HXk.out (by have h1 := HL2.out; have h2 := HL.out; have h3 := Hn.out; omega) (by rw [← Hba.out]; exact HBk.out.size) HH7.out cn mn (some ⟨zg, zo, none⟩) k zc bs
            have v0 : wk.cell? ⟨t, 0, none⟩ = some (.int .i64 cn) := by rw [cell_of_row _ _ _ _ _ _ HTk.out]; rfl
            have v1 : wk.cell? ⟨t, 1, none⟩ = some (.int .u8 mn) := by rw [cell_of_row _ _ _ _ _ _ HTk.out]; rfl
            have v2 : wk.cell? ⟨t, 2, none⟩ = some (.slice (some ⟨zg, zo, none⟩) k zc) := by rw [cell_of_row _ _ _ _ _ _ HTk.out]; rfl
            clear HX9 HK9 HR9 HB9
            go_wp2_with fail
            refine t4.mono ?_
            rintro e wf ⟨rfl, sl3, L3, hX3, hP3, hH3, hO3, hC3⟩
            have HXf := Hid.mk hX3
            have HHf := Hid.mk hH3
            have HKf : Hid (Kids wf L3) := ⟨fun s hs => by
              rcases List.mem_append.1 (hP3.mem_iff.1 hs) with h | h
              · exact own_notB (HKk.out s (HP6.out.mem_iff.2 (List.mem_cons_of_mem _ (HP7.out.mem_iff.2 (List.mem_cons_of_mem _ h))))) hC3 HXk.out.notB
              · simp at h
                subst h
                exact own_notB HZk.out hC3 HXk.out.notB⟩
            have HSf : Hid (Stg f L3 (bump g bs)) := ⟨HSt.out.next (z := (cn, mn, (some ⟨zg, zo, none⟩, k, zc, bs))) HP6.out HP7.out HM6.out HM7.out (by simp only [pr, joinA]; rw [Hbs.out, Hmn.out, Hcn.out]) hP3⟩
            have HRg : Hid (wf.heap[r]? = some (.cells (ia (bump g bs)) 22 (0, 0))) := ⟨row22_far HRf.out hC3 HXk.out.not22⟩
            have HBf : Hid (Below ba w2 wf) := ⟨HBk.out.trans (hC3.below (by rw [← Hba.out]; exact HBk.out.size) (HXk.out.ge Hbb.out))⟩
            have HLf : Hid (L3.length + 1 = n) := ⟨by have h1 := hP3.length_eq; have h2 := HP7.out.length_eq; have h3 := HL1.out; simp at h1 h2; omega⟩
            clear t4 hX3 hP3 hH3 hO3 hC3 v0 v1 v2
            go_wp2_with fail
            go_roundg (n - 1)
            case measure => omega
            case rel => exact ⟨sl3, L3, bump g bs, HXf, HHf, HKf, HSf, by have := HLf.out; omega, HRg, HBf⟩
      · have Hgl : Hid (g.length = 256) := ⟨HSt.out.2.len⟩
        have h1z : ¬ (1 : Int) < (n : Int) := by omega
        have HLen : Hid (LenS f g) := ⟨.inr ⟨HSt.out.1, _, HSt.out.2, by rw [List.length_map, Hn.out]; omega⟩⟩
        go_wp2_with (first | (refine wp_load rfl 22 (.tmp 5) rfl r rfl (ia g) 22 (0, 0) _ HR.out Try.underlying22 rfl (info22f Hgl.out) ?_) | (refine wp_put22 (f := z0) (g := g) rfl (.tmp 2) (.tmp 45) rfl rfl rfl z0_len Hgl.out (HYq.out _ HB.out) ?_))
        (try simp only [Exit.inBlock, Exit.then])
        refine bodyPost_ret (results_ct rfl _ _ rfl (load22 Hgl.out (setRow_heap wo (q + 1) (ia z0) _ 22 (0, 0) (HYq.out _ HB.out)))) rfl ?_
        exact ⟨_, rfl, HLen.out, by rw [Hq.out]; exact below_setRow (HBq.out _ HB.out) (Nat.le_succ q) _⟩
end
end Go.Proofs.Ytfecngncapenjaa
