/- The program's Move. -/
import Derived.Test.YtkkcdmdkjedkjaaM3
import Derived.RangeFuncBox
import Derived.Test.YtkkcdmdkjedkjaaM5
namespace Go.Proofs.Ytkkcdmdkjedkjaa
open Go.RowKit Go.Lib Go.Shelf

/-- A ref whose chunk lies elsewhere. -/
def mv (ms : List (Sp × Sp)) (r : Rf) : Rf := match fnd2 ms (spo r) with
  | some t => { r with b := t.1, o := t.2 }
  | none => r
def cnt (ms : List (Sp × Sp)) (L : List Rf) : Nat := (L.filter (fun r => (fnd2 ms (spo r)).isSome)).length
theorem cnt_le (ms : List (Sp × Sp)) (L : List Rf) : cnt ms L ≤ L.length := List.length_filter_le _ _
theorem cnt_snoc (ms : List (Sp × Sp)) (L : List Rf) {k : Nat} (h : k < L.length) : cnt ms (L.take (k + 1)) = cnt ms (L.take k) + if (fnd2 ms (spo (L.getD k r0))).isSome then 1 else 0 := by
  unfold cnt
  rw [List.take_add_one, List.getElem?_eq_getElem h, List.filter_append, List.length_append]
  simp only [List.getD, List.getElem?_eq_getElem h, Option.getD_some, Option.toList_some, List.filter_cons, List.filter_nil]
  split <;> simp
/-- The first k refs have been moved. -/
def Lk (ms : List (Sp × Sp)) (L : List Rf) (k : Nat) : List Rf := (L.take k).map (mv ms) ++ L.drop k
theorem Lk_zero (ms : List (Sp × Sp)) (L : List Rf) : Lk ms L 0 = L := by simp [Lk]
theorem Lk_len (ms : List (Sp × Sp)) (L : List Rf) (k : Nat) (h : k ≤ L.length) : (Lk ms L k).length = L.length := by simp [Lk]; omega
theorem Lk_end (ms : List (Sp × Sp)) (L : List Rf) : Lk ms L L.length = L.map (mv ms) := by simp [Lk]
theorem Lk_at (ms : List (Sp × Sp)) (L : List Rf) {k : Nat} (h : k < L.length) : (Lk ms L k).getD k r0 = L.getD k r0 := by
  unfold Lk
  simp only [List.getD]
  rw [List.getElem?_append_right (by simp; omega), List.getElem?_drop]
  congr 2
  simp
  omega
theorem Lk_set (ms : List (Sp × Sp)) (L : List Rf) {k : Nat} (h : k < L.length) : Lk ms L (k + 1) = (Lk ms L k).set k (mv ms (L.getD k r0)) := by
  unfold Lk
  rw [List.take_add_one, List.getElem?_eq_getElem h, List.map_append, List.set_append_right _ _ (by simp; omega)]
  rw [List.drop_eq_getElem_cons h]
  have e : k - (List.map (mv ms) (L.take k)).length = 0 := by simp; omega
  rw [e, List.set_cons_zero]
  simp [List.getD, List.getElem?_eq_getElem h]
/-- What the loop knows behind k rounds. -/
structure InvM (w : World) (ms : List (Sp × Sp)) (L : List Rf) (x6 x7 x8 b1 M : Nat) (ar : Option Addr) (n cr : Nat) (k : Nat) (W : World) : Prop where
  h6 : W.heap[x6]? = some (.cells #[.map (some b1)] 81 (0, 0))
  h7 : W.heap[x7]? = some (.cells #[.slice ar n cr] 22 (0, 0))
  h8 : W.heap[x8]? = some (.cells #[.int .i64 ((cnt ms (L.take k) : Nat) : Int)] 3 (0, 0))
  hm : MpAt W b1 (tg ms)
  ho : OwnE rc 35 56 W w.heap.size (.slice ar n cr) (Lk ms L k)
  hb : Below w.heap.size w W
  hM : M ≤ W.heap.size
theorem InvM.below {w : World} {ms : List (Sp × Sp)} {L : List Rf} {x6 x7 x8 b1 M : Nat} {ar : Option Addr} {n cr k : Nat} {A B : World} (h : InvM w ms L x6 x7 x8 b1 M ar n cr k A) (hb : Below A.heap.size A B) : InvM w ms L x6 x7 x8 b1 M ar n cr k B :=
  ⟨(hb.block _ (Array.getElem?_eq_some_iff.1 h.h6).1).trans h.h6, (hb.block _ (Array.getElem?_eq_some_iff.1 h.h7).1).trans h.h7, (hb.block _ (Array.getElem?_eq_some_iff.1 h.h8).1).trans h.h8,
    h.hm.far (Chg.ofBelow (X := []) hb) (by simp), h.ho.far (Chg.ofBelow (X := []) hb) (by simp), h.hb.trans (hb.mono h.hb.size), Nat.le_trans h.hM hb.size⟩
theorem InvM.put {w : World} {ms : List (Sp × Sp)} {L : List Rf} {x6 x7 x8 b1 M : Nat} {ar : Option Addr} {n cr k : Nat} {A : World} (h : InvM w ms L x6 x7 x8 b1 M ar n cr k A) {l : Nat} {o : Obj} (hl : w.heap.size ≤ l ∧ b1 < l) (hx : ∃ x : Obj, A.heap[l]? = some x ∧ x.isCells = false) : InvM w ms L x6 x7 x8 b1 M ar n cr k (A.putObj l o) := by
  have hc : Chg [l] A (A.putObj l o) := ⟨rfl, rfl, rfl, by simp, fun k _ hx => World.putObj_heap_other (by simpa using hx)⟩
  have nc : ∀ {g : Nat} {cs : Array Value} {t : TypeId}, A.heap[g]? = some (.cells cs t (0, 0)) → g ∉ [l] := fun hg hm => by
    simp at hm
    subst hm
    obtain ⟨y, hy, hyc⟩ := hx
    rw [hy] at hg
    cases hg
    cases hyc
  refine ⟨(hc.block _ (Array.getElem?_eq_some_iff.1 h.h6).1 (nc h.h6)).trans h.h6, (hc.block _ (Array.getElem?_eq_some_iff.1 h.h7).1 (nc h.h7)).trans h.h7, (hc.block _ (Array.getElem?_eq_some_iff.1 h.h8).1 (nc h.h8)).trans h.h8,
    h.hm.far hc (by simp; omega), h.ho.far hc (fun g hg => ?_), h.hb.trans (hc.below h.hb.size (by simp; omega)), Nat.le_trans h.hM hc.size⟩
  obtain ⟨cs, hcs⟩ := h.ho.ty g hg
  exact nc hcs
section
variable {w : World}
attribute [local go_sem] Oper.semAt_some
set_option maxHeartbeats 8000000 in
set_option maxRecDepth 100000 in
theorem move_any (v u : Value) (L : List Rf) (ms : List (Sp × Sp)) (h : RdR w v L) (hL : L.length ≤ 2513169434843) (hu : RdE mc 4 m0 w u ms) (hl : ms.length ≤ 2513169434843) :
    Calls Try.prog 24 #[v, u] w fun e w' => ∃ x, e = .returned (.tuple #[x, .int .i64 ((cnt ms L : Nat) : Int)]) ∧ OwnE rc 35 56 w' w.heap.size x (L.map (mv ms)) ∧ Below w.heap.size w w' := by
  have t1 := targets_any u ms hu hl
  have H := Hid.mk h
  have HvL : Hid (0 < L.length → ∀ k ∈ ob v, k < w.heap.size) := ⟨fun h0 k hk => h.toE.lt (by decide) h0 k hk⟩
  obtain ⟨av, cv, rfl, hcv, hcm, _⟩ := h.shape
  obtain ⟨au, cu, rfl, _⟩ := hu.shape
  have hsm := Hid.mk h.sums
  obtain ⟨n, Hn⟩ : ∃ n, Hid (L.length = n) := ⟨_, ⟨rfl⟩⟩
  rw [Hn.out] at H hcv HvL ⊢
  have hn : n ≤ 2513169434843 := by rw [← Hn.out]; exact hL
  generalize ms.length = mlen at t1 ⊢
  clear h hu
  refine (callsIn_wide (n := 10)).1 ?_
  refine callsIn_of_wp_marks Try.func24 rfl trivial ?_ rfl
  simp only [Try.ntmps24, List.size_toArray, List.length_cons, List.length_nil, Nat.reduceAdd, Nat.reduceSub, Array.replicate_succ, Array.replicate_zero, List.push_toArray, List.append_toArray, List.nil_append, List.cons_append]
  gi_wp2_with fail
  refine ⟨trivial, ?_⟩
  refine (callsIn_wide.2 t1).mono ?_
  rintro e w1 ⟨b1, rfl, hM1, hb1, hB1⟩
  have HM1 := Hid.mk hM1
  have HB1 := Hid.mk hB1
  have Hb1 : Hid (w.heap.size ≤ b1 ∧ b1 < w1.heap.size) := ⟨hb1, hM1.lt⟩
  obtain ⟨x6, Hx6⟩ : ∃ x, Hid (w1.heap.size = x) := ⟨_, ⟨rfl⟩⟩
  obtain ⟨w2, Hw2⟩ : ∃ x, Hid (w1.alloc (.cells #[.map (some b1)] 81) = x) := ⟨_, ⟨rfl⟩⟩
  have HC2 : Hid (Below w1.heap.size w1 w2) := ⟨by rw [← Hw2.out]; exact (Below.refl _ w1).alloc (Nat.le_refl _) _⟩
  have HB2 : Hid (Below w.heap.size w w2) := ⟨HB1.out.trans (HC2.out.mono HB1.out.size)⟩
  have HX2 : Hid (w2.heap[x6]? = some (.cells #[.map (some b1)] 81 (0, 0)) ∧ w2.heap.size = x6 + 1) := ⟨by rw [← Hw2.out, ← Hx6.out]; exact ⟨heap_alloc_new w1 _, by simp⟩⟩
  have t2 := clone_any (w := w2) (.slice av n cv) L (H.out.below HB2.out) (by rw [Hn.out]; exact hn)
  clear t1 hM1 hb1 hB1
  gi_wp2_with fail
  rw [Hw2.out, Hx6.out]
  refine ⟨trivial, ?_⟩
  refine (callsIn_wide.2 t2).mono ?_
  rintro e w3 ⟨rv, rfl, hO3, hB3⟩
  obtain ⟨ar, cr, e3, _⟩ := (hO3.rd r0).shape
  subst e3
  have HO3 : Hid (OwnE rc 35 56 w3 w.heap.size (.slice ar n cr) L) := ⟨by rw [← Hn.out]; exact hO3.base HB2.out.size⟩
  have HC3 := Hid.mk hB3
  have HB3 : Hid (Below w.heap.size w w3) := ⟨HB2.out.trans (hB3.mono HB2.out.size)⟩
  rw [Hn.out]
  clear t2 hO3 hB3
  gi_wp2_with fail
  obtain ⟨x7, Hx7⟩ : ∃ x, Hid (w3.heap.size = x) := ⟨_, ⟨rfl⟩⟩
  obtain ⟨w4, Hw4⟩ : ∃ x, Hid ((w3.alloc (.cells #[.slice ar n cr] 22)).alloc (.cells #[.int .i64 0] 3) = x) := ⟨_, ⟨rfl⟩⟩
  have HC4 : Hid (Below w3.heap.size w3 w4) := ⟨by rw [← Hw4.out]; exact ((Below.refl _ w3).alloc (Nat.le_refl _) _).alloc (by simp) _⟩
  have HB4 : Hid (Below w.heap.size w w4) := ⟨HB3.out.trans (HC4.out.mono HB3.out.size)⟩
  have HX4 : Hid (w4.heap[x7]? = some (.cells #[.slice ar n cr] 22 (0, 0)) ∧ w4.heap[x7 + 1]? = some (.cells #[.int .i64 0] 3 (0, 0)) ∧ w4.heap.size = x7 + 2) := ⟨by
    rw [← Hw4.out, ← Hx7.out]
    refine ⟨?_, ?_, by simp⟩
    · exact (((Below.refl _ (w3.alloc (.cells #[.slice ar n cr] 22))).alloc (Nat.le_refl _) _).block _ (by simp)).trans (heap_alloc_new w3 _)
    · have := heap_alloc_new (w3.alloc (.cells #[.slice ar n cr] 22)) (.cells #[.int .i64 0] 3)
      rw [World.size_alloc] at this
      exact this⟩
  rw [Hw4.out, Hx7.out]
  have t5 := spots_any (w := w4) av n cv
  rw [HX4.out.2.2] at t5
  obtain ⟨w5, Hw5⟩ : ∃ x, Hid (w4.alloc (.cells #[.slice av n cv] 22) = x) := ⟨_, ⟨rfl⟩⟩
  rw [Hw5.out] at t5
  have HC5 : Hid (Below w4.heap.size w4 w5) := ⟨by rw [← Hw5.out]; exact (Below.refl _ w4).alloc (Nat.le_refl _) _⟩
  have HB5 : Hid (Below w.heap.size w w5) := ⟨HB4.out.trans (HC5.out.mono HB4.out.size)⟩
  have Hs5 : Hid (w5.heap.size = x7 + 3) := ⟨by rw [← Hw5.out]; simp [HX4.out.2.2]⟩
  have HQ5 : Hid (w5.cell? ⟨x7 + 2, 0, none⟩ = some (.slice av n cv)) := ⟨by
    have := heap_alloc_new w4 (.cells #[.slice av n cv] 22)
    rw [Hw5.out, HX4.out.2.2] at this
    rw [cell_of_row _ _ _ _ _ _ this]
    rfl⟩
  have HC35 : Hid (Below w3.heap.size w3 w5) := ⟨HC4.out.trans (HC5.out.mono HC4.out.size)⟩
  have HC25 : Hid (Below w2.heap.size w2 w5) := ⟨HC3.out.trans (HC35.out.mono HC3.out.size)⟩
  have HC15 : Hid (Below w1.heap.size w1 w5) := ⟨HC2.out.trans (HC25.out.mono HC2.out.size)⟩
  have HI0 : Hid (InvM w ms L x6 x7 (x7 + 1) b1 (x7 + 3) ar n cr 0 w5) := ⟨⟨(HC25.out.block x6 (by rw [HX2.out.2]; omega)).trans HX2.out.1, (HC5.out.block x7 (by rw [HX4.out.2.2]; omega)).trans HX4.out.1, (HC5.out.block (x7 + 1) (by rw [HX4.out.2.2]; omega)).trans HX4.out.2.1, HM1.out.far (Chg.ofBelow (X := []) HC15.out) (by simp), by rw [Lk_zero]; exact HO3.out.far (Chg.ofBelow (X := []) HC35.out) (by simp), HB5.out, by rw [Hs5.out]; exact Nat.le_refl _⟩⟩
  have HSq := Hid.mk (spots_seq (w := w5) (v := .slice av n cv) hL (x7 + 2) (H.out.below HB5.out) HQ5.out)
  have Hbx : Hid (w.heap.size ≤ x7 ∧ b1 < x7 ∧ w.heap.size ≤ x6) := ⟨by have h1 := HB3.out.size; have h2 := Hb1.out; have h3 := HC2.out.size; have h4 := HC3.out.size; have h5 := Hx7.out; have h6 := Hx6.out; omega⟩
  clear HX4 HC4 HC5 HC3 HC2 HX2
  refine ⟨trivial, ?_⟩
  refine (callsIn_wide.2 t5).mono ?_
  rintro e wx ⟨rfl, ex⟩
  rw [ex]
  clear ex wx t5
  gi_wp2
  have hE : Hid (sps L = spn L L.length) := ⟨rfl⟩
  refine range_each rfl (by decide) (gf := 48) (lb := #[.pointer (some ⟨x7 + 2, 0, none⟩)]) rfl trivial (enters_of Try.func48 (by kernel_rfl) rfl) HSq.out (fun _ => rfl) (fun h k => KpO.trans h k)
    (fun W l o hl => KpO.of (chg_put W l o) (fun h0 k hk hm => by simp at hm; subst hm; have := HvL.out (by rw [← Hn.out]; exact h0) k hk; have := Hbx.out; have := Hs5.out; omega))
    (fun pre W => InvM w ms L x6 x7 (x7 + 1) b1 (x7 + 3) ar n cr pre.length W)
    (fun pre x act A => ∃ pb, act = { tmps := #[.slice av n cv, .slice au mlen cu, undef, undef, .slice none 0 0, .int .i64 0, .pointer (some ⟨x6, 0, none⟩), .pointer (some ⟨x7, 0, none⟩), .pointer (some ⟨x7 + 1, 0, none⟩), .int .i64 (x.1 : Int), .pointer (some ⟨pb, 0, none⟩), undef, undef, .slice au mlen cu, .map (some b1), .slice av n cv, .slice ar n cr, .slice av n cv, .func (.func 48) #[] #[.pointer (some ⟨x7 + 2, 0, none⟩)], .int .i64 (x.1 : Int), spv x.2, undef, undef, undef, undef, undef, undef, undef, undef, undef, undef, undef, undef, undef, undef, undef, undef, undef, undef, undef, undef, undef, undef, undef], defers := [] } ∧ A.heap[pb]? = some (.cells #[.int .i64 x.2.1, .int .i64 x.2.2] 61 (0, 0)) ∧ InvM w ms L x6 x7 (x7 + 1) b1 (x7 + 3) ar n cr pre.length A)
    ?hIb ?hIo ?hMo ?h0 ?hassign ?hbody ?hdone
  case hIb => exact fun pre A B h hb => h.below hb
  case hIo => exact fun pre A l o h hl hx => h.put (by have := Hs5.out; have := Hbx.out; omega) hx
  case hMo =>
    rintro pre x act A l o ⟨pb, rfl, h1, h2⟩ hl hx
    refine ⟨pb, rfl, (World.putObj_heap_other (fun e => ?_)).trans h1, h2.put (by have := Hs5.out; have := Hbx.out; omega) hx⟩
    obtain ⟨y, hy, hyc⟩ := hx
    rw [e, hy] at h1
    cases h1
    cases hyc
  case h0 => exact HI0.out
  case hassign =>
    intro l pre x W hI hE'
    have HI := Hid.mk hI
    have hM := hI.hM
    simp only [spv]
    gi_wp2
    have hb1 : Below W.heap.size W (W.alloc (.cells #[.int .i64 x.2.1, .int .i64 x.2.2] 61)) := (Below.refl _ W).alloc (Nat.le_refl _) _
    exact ⟨keeps_of (Chg.ofBelow (X := []) hb1) (by simp), KpO.of (Chg.ofBelow (X := []) hb1) (by simp), W.heap.size, rfl, heap_alloc_new W _, HI.out.below hb1⟩
  case hbody =>
    rintro l pre x act W ⟨pb, rfl, h1, hI⟩ hx
    obtain ⟨k, hk, rfl, rfl⟩ := hx
    rw [spn_len] at hI
    have HI := Hid.mk hI
    have HP := Hid.mk h1
    have c6 := Boxed.cell (show Boxed W x6 81 (.map (some b1)) from hI.h6)
    have d0 : W.cell? ⟨pb, 0, none⟩ = some (.int .i64 (spo (L.getD k r0)).1) := by rw [cell_of_row _ _ _ _ _ _ h1]; rfl
    have d1 : W.cell? ⟨pb, 1, none⟩ = some (.int .i64 (spo (L.getD k r0)).2) := by rw [cell_of_row _ _ _ _ _ _ h1]; rfl
    have hlk := lookup_run hI.hm (spo (L.getD k r0))
    rw [fnd2_tg] at hlk
    have HSt := Hid.mk (Lk_set ms L hk)
    have HCn := Hid.mk (cnt_snoc ms L hk)
    have HLat := Hid.mk (Lk_at ms L hk)
    have HLs : Hid (∀ r ∈ Lk ms L k, Sm r.s) := ⟨fun r hr => by
      unfold Lk at hr
      rcases List.mem_append.1 hr with q | q
      · obtain ⟨r', hr', rfl⟩ := List.mem_map.1 q
        have := hsm.out r' (List.mem_of_mem_take hr')
        unfold mv
        split
        · exact this
        · exact this
      · exact hsm.out r (List.mem_of_mem_drop q)⟩
    have HLl : Hid ((Lk ms L k).length = n) := ⟨by rw [Lk_len ms L k (Nat.le_of_lt hk), Hn.out]⟩
    have Hmv : Hid (mv ms (L.getD k r0) = match fnd2 ms (spo (L.getD k r0)) with | some t => { L.getD k r0 with b := t.1, o := t.2 } | none => L.getD k r0) := ⟨rfl⟩
    have Hsn : Hid ((spn L k ++ [(k, spo (L.getD k r0))]).length = k + 1) := ⟨by simp [spn_len]⟩
    have hkn : k < n := by rw [← Hn.out]; exact hk
    clear h1 hI
    rw [Hsn.out]
    simp only [spv] at hlk ⊢
    obtain ⟨sb, Hsb⟩ : ∃ x, Hid ((spo (L.getD k r0)).1 = x) := ⟨_, ⟨rfl⟩⟩
    obtain ⟨so, Hso⟩ : ∃ x, Hid ((spo (L.getD k r0)).2 = x) := ⟨_, ⟨rfl⟩⟩
    rw [Hsb.out, Hso.out] at hlk
    rw [Hsb.out] at d0
    rw [Hso.out] at d1
    rw [Hsb.out, Hso.out]
    have Hk' := Hid.mk hk
    clear hk
    cases hfd : fnd2 ms (spo (L.getD k r0)) with
    | none =>
      rw [hfd] at hlk Hmv HCn
      simp only [Option.isSome_none, Option.getD_none] at hlk
      simp only [Option.isSome_none, Bool.false_eq_true, if_false, Nat.add_zero] at HCn
      simp only at Hmv
      have HI2 : Hid (InvM w ms L x6 x7 (x7 + 1) b1 (x7 + 3) ar n cr (k + 1) W) := ⟨{ HI.out with h8 := by rw [HCn.out]; exact HI.out.h8, ho := by rw [HSt.out, Hmv.out, ← HLat.out]; simp only [List.getD]; rw [List.getElem?_eq_getElem (by rw [HLl.out]; exact hkn), Option.getD_some, List.set_getElem_self]; exact HI.out.ho }⟩
      clear hfd HI
      gi_wp2
      have hb1 : Below W.heap.size W (W.alloc (.cells #[.int .i64 0, .int .i64 0] 61)) := (Below.refl _ W).alloc (Nat.le_refl _) _
      exact ⟨keeps_of (Chg.ofBelow (X := []) hb1) (by simp), KpO.of (Chg.ofBelow (X := []) hb1) (by simp), HI2.out.below hb1⟩
    | some t =>
      obtain ⟨tb, ts⟩ := t
      rw [hfd] at hlk Hmv HCn
      simp only [Option.isSome_some, Option.getD_some] at hlk
      simp only [Option.isSome_some, if_true] at HCn
      simp only at Hmv
      have hcb := cnt_le ms (L.take k)
      rw [List.length_take] at hcb
      obtain ⟨C, HC⟩ : ∃ C, Hid (cnt ms (L.take k) = C) := ⟨_, ⟨rfl⟩⟩
      have HI8 := Hid.mk HI.out.h8
      rw [HC.out] at HI8 hcb HCn
      obtain ⟨g, cur, er, hgb, hgh⟩ := own_row (by rw [← HLl.out]; have := HI.out.ho.own; rw [HLl.out] at this ⊢; exact this) (show 0 < n by omega)
      subst er
      obtain ⟨y, Hy⟩ : ∃ y, Hid (W.heap.size = y) := ⟨_, ⟨rfl⟩⟩
      obtain ⟨W2, HW2⟩ : ∃ V, Hid (W.alloc (.cells #[.int .i64 tb, .int .i64 ts] 61) = V) := ⟨_, ⟨rfl⟩⟩
      have HB2' : Hid (Below W.heap.size W W2) := ⟨by rw [← HW2.out]; exact (Below.refl _ W).alloc (Nat.le_refl _) _⟩
      have HY2 : Hid (W2.heap[y]? = some (.cells #[.int .i64 tb, .int .i64 ts] 61 (0, 0))) := ⟨by rw [← HW2.out, ← Hy.out]; exact heap_alloc_new W _⟩
      have HI2 : Hid (InvM w ms L x6 x7 (x7 + 1) b1 (x7 + 3) (some ⟨g, 0, none⟩) n cr k W2) := ⟨HI.out.below HB2'.out⟩
      have HG2 : Hid (W2.heap[g]? = some (.cells cur 56 (0, 0))) := ⟨(HB2'.out.block g (Array.getElem?_eq_some_iff.1 hgh).1).trans hgh⟩
      have H82 : Hid (W2.heap[x7 + 1]? = some (.cells #[.int .i64 (C : Int)] 3 (0, 0))) := ⟨(HB2'.out.block _ (Array.getElem?_eq_some_iff.1 HI8.out).1).trans HI8.out⟩
      have hgb' := hgb
      have Hgl0 := Hid.mk hgh
      have Hgl : Hid (g < W.heap.size) := ⟨(Array.getElem?_eq_some_iff.1 hgh).1⟩
      have HIb : Hid (Below w.heap.size w W) := ⟨HI.out.hb⟩
      have HIM : Hid (x7 + 3 ≤ W.heap.size) := ⟨HI.out.hM⟩
      clear hfd HI hgh hgb
      gi_wp2
      rw [HW2.out, Hy.out]
      obtain ⟨W3, HW3⟩ : ∃ V, Hid (W2.drew = V) := ⟨_, ⟨rfl⟩⟩
      have HB3' : Hid (Below W2.heap.size W2 W3) := ⟨by rw [← HW3.out]; exact ⟨rfl, rfl, rfl, Nat.le_refl _, fun _ _ => rfl⟩⟩
      have HI3 : Hid (InvM w ms L x6 x7 (x7 + 1) b1 (x7 + 3) (some ⟨g, 0, none⟩) n cr k W3) := ⟨HI2.out.below HB3'.out⟩
      have HG3 : Hid (W3.heap[g]? = some (.cells cur 56 (0, 0))) := ⟨(HB3'.out.block g (Array.getElem?_eq_some_iff.1 HG2.out).1).trans HG2.out⟩
      have HY3 : Hid (W3.heap[y]? = some (.cells #[.int .i64 tb, .int .i64 ts] 61 (0, 0))) := ⟨(HB3'.out.block y (Array.getElem?_eq_some_iff.1 HY2.out).1).trans HY2.out⟩
      have H83 : Hid (W3.heap[x7 + 1]? = some (.cells #[.int .i64 (C : Int)] 3 (0, 0))) := ⟨(HB3'.out.block _ (Array.getElem?_eq_some_iff.1 H82.out).1).trans H82.out⟩
      have HB13 : Hid (Below W.heap.size W W3) := ⟨HB2'.out.trans (HB3'.out.mono HB2'.out.size)⟩
      have hrd := (HI3.out.ho.rd r0).at' k (by rw [HLl.out]; exact hkn)
      obtain ⟨g', off, cap', e', hcell⟩ := hrd
      simp at e'
      obtain ⟨⟨rfl, rfl⟩, hjunk⟩ := e'
      clear hjunk
      have hlen35 := rc_num _ (HLs.out _ (getD_mem' (d := r0) (show k < (Lk ms L k).length by rw [HLl.out]; exact hkn)))
      have g33 := (hcell 33 (by decide)).trans hlen35.2.1
      have g34 := (hcell 34 (by decide)).trans hlen35.2.2
      rw [Nat.zero_add] at g33 g34
      have f33 : W3.frozen? ⟨g, k * 35 + 33, none⟩ = false := frozen_of_row W3 g _ _ 56 HG3.out
      obtain ⟨W4, HW4⟩ : ∃ V, Hid (W3.setCell ⟨g, k * 35 + 33, none⟩ (.int .i64 tb) = V) := ⟨_, ⟨rfl⟩⟩
      have HG4 : Hid (∃ cur', W4.heap[g]? = some (.cells cur' 56 (0, 0))) := ⟨by rw [← HW4.out]; exact ⟨_, heap_setCell_same W3 g _ cur 56 _ HG3.out⟩⟩
      have HC34 : Hid (Chg [g] W3 W4) := ⟨by rw [← HW4.out]; exact (Chg.refl [g] W3).setCell (.inl (by simp)) _⟩
      have g34' : W4.cell? ⟨g, k * 35 + 34, none⟩ = some (.int .i64 ((Lk ms L k).getD k r0).o) := by
        rw [← HW4.out, cell_of_row _ _ _ _ _ _ (heap_setCell_same W3 g (k * 35 + 33) cur 56 (.int .i64 tb) HG3.out)]
        rw [cell_of_row _ _ _ _ _ _ HG3.out] at g34
        rw [Array.getElem?_setIfInBounds_ne (by omega)]
        exact g34
      have f34 : W4.frozen? ⟨g, k * 35 + 34, none⟩ = false := by obtain ⟨c', hc'⟩ := HG4.out; exact frozen_of_row W4 g _ _ 56 hc'
      obtain ⟨W5, HW5⟩ : ∃ V, Hid (W4.setCell ⟨g, k * 35 + 34, none⟩ (.int .i64 ts) = V) := ⟨_, ⟨rfl⟩⟩
      have HC45 : Hid (Chg [g] W4 W5) := ⟨by rw [← HW5.out]; exact (Chg.refl [g] W4).setCell (.inl (by simp)) _⟩
      have HC35' : Hid (Chg [g] W3 W5) := ⟨HC34.out.trans HC45.out⟩
      have ng8 : Hid (x7 + 1 ∉ [g] ∧ x7 ∉ [g] ∧ x6 ∉ [g] ∧ y ∉ [g] ∧ b1 ∉ [g]) := ⟨by
        refine ⟨?_, ?_, ?_, ?_, ?_⟩
        · simp; exact Ty.ne ⟨_, H83.out⟩ ⟨_, HG3.out⟩ (by decide)
        · simp; exact Ty.ne ⟨_, HI3.out.h7⟩ ⟨_, HG3.out⟩ (by decide)
        · simp; exact Ty.ne ⟨_, HI3.out.h6⟩ ⟨_, HG3.out⟩ (by decide)
        · simp; exact Ty.ne ⟨_, HY3.out⟩ ⟨_, HG3.out⟩ (by decide)
        · intro hm
          simp at hm
          obtain ⟨es, clk, hm1, _⟩ := HI3.out.hm
          rw [hm, HG3.out] at hm1
          cases hm1⟩
      have H85 : Hid (W5.heap[x7 + 1]? = some (.cells #[.int .i64 (C : Int)] 3 (0, 0))) := ⟨(HC35'.out.block _ (Array.getElem?_eq_some_iff.1 H83.out).1 ng8.out.1).trans H83.out⟩
      have HO5 : Hid (OwnE rc 35 56 W5 w.heap.size (.slice (some ⟨g, 0, none⟩) n cr) (Lk ms L (k + 1))) := ⟨by
        rw [HSt.out, Hmv.out, ← HLat.out]
        have hs' : ∀ r ∈ (Lk ms L k).set k { (Lk ms L k).getD k r0 with b := tb, o := ts }, (rc r).length = 35 ∧ ∀ u ∈ rc r, u.oneCell' = true := fun r hr => by
          rcases List.mem_or_eq_of_mem_set hr with q | q
          · exact ⟨rc_len r (HLs.out r q), rc_one' r⟩
          · rw [q]
            have hq := HLs.out ((Lk ms L k).getD k r0) (getD_mem' (d := r0) (show k < (Lk ms L k).length by rw [HLl.out]; exact hkn))
            exact ⟨rc_len { (Lk ms L k).getD k r0 with b := tb, o := ts } hq, rc_one' _⟩
        refine ⟨?_, hs'⟩
        rw [fl_moved (Lk ms L k) HLs.out (show k < (Lk ms L k).length by rw [HLl.out]; exact hkn), List.length_set, HLl.out, ← HW5.out, ← HW4.out]
        have h0 := HI3.out.ho.own
        rw [HLl.out] at h0
        exact own_setCell (own_setCell h0 _ _) _ _⟩
      have c8 := Boxed.cell (show Boxed W5 (x7 + 1) 3 (.int .i64 (C : Int)) from H85.out)
      have f8 := Boxed.frozen (show Boxed W5 (x7 + 1) 3 (.int .i64 (C : Int)) from H85.out)
      have hS3 : (fun w' => w'.cell? ⟨x7, 0, none⟩ = some (.slice (some ⟨g, 0, none⟩) n cr) ∧ w'.cell? ⟨y, 0, none⟩ = some (.int .i64 tb) ∧ w'.cell? ⟨y, 1, none⟩ = some (.int .i64 ts)) W3 := ⟨Boxed.cell (show Boxed W3 x7 22 _ from HI3.out.h7), by rw [cell_of_row _ _ _ _ _ _ HY3.out]; rfl, by rw [cell_of_row _ _ _ _ _ _ HY3.out]; rfl⟩
      have hS4 : (fun w' => w'.cell? ⟨x7, 0, none⟩ = some (.slice (some ⟨g, 0, none⟩) n cr) ∧ w'.cell? ⟨y, 0, none⟩ = some (.int .i64 tb) ∧ w'.cell? ⟨y, 1, none⟩ = some (.int .i64 ts)) W4 := ⟨(HC34.out.cell (a := ⟨x7, 0, none⟩) (World.block_lt_of_cell? _ _ hS3.1) ng8.out.2.1).trans hS3.1, (HC34.out.cell (a := ⟨y, 0, none⟩) (World.block_lt_of_cell? _ _ hS3.2.1) ng8.out.2.2.2.1).trans hS3.2.1, (HC34.out.cell (a := ⟨y, 1, none⟩) (World.block_lt_of_cell? _ _ hS3.2.2) ng8.out.2.2.2.1).trans hS3.2.2⟩
      have hS5 : (fun w' => w'.cell? ⟨x7, 0, none⟩ = some (.slice (some ⟨g, 0, none⟩) n cr) ∧ w'.cell? ⟨y, 0, none⟩ = some (.int .i64 tb) ∧ w'.cell? ⟨y, 1, none⟩ = some (.int .i64 ts)) W5 := ⟨(HC45.out.cell (a := ⟨x7, 0, none⟩) (World.block_lt_of_cell? _ _ hS4.1) ng8.out.2.1).trans hS4.1, (HC45.out.cell (a := ⟨y, 0, none⟩) (World.block_lt_of_cell? _ _ hS4.2.1) ng8.out.2.2.2.1).trans hS4.2.1, (HC45.out.cell (a := ⟨y, 1, none⟩) (World.block_lt_of_cell? _ _ hS4.2.2) ng8.out.2.2.2.1).trans hS4.2.2⟩
      have HS5 := Hid.mk hS5
      have HS4 := Hid.mk hS4
      have hknz : (k : Int) < (n : Int) := by omega
      clear hS4 hS5 hcell hlen35 d0 d1 c6 hlk
      refine wpIn_norm ?_
      refine region_tame (by kernel_rfl) (by kernel_rfl) (wpAny_of_held (S := (fun w' => w'.cell? ⟨x7, 0, none⟩ = some (.slice (some ⟨g, 0, none⟩) n cr) ∧ w'.cell? ⟨y, 0, none⟩ = some (.int .i64 tb) ∧ w'.cell? ⟨y, 1, none⟩ = some (.int .i64 ts))) _ _ _ _ ?_)
      rw [HW3.out]
      have hS := hS3
      clear hS3
      refine wpAnyH_take (i := 0) (v := .slice (some ⟨g, 0, none⟩) n cr) rfl (by kernel_rfl) (by kernel_rfl) (by kernel_rfl) (fun _ _ _ h => h) (Or.inl ⟨by kernel_rfl, fun wx hx => by obtain ⟨hx1, hx2, hx3⟩ := hx; go_simp⟩) hS ?_
      refine wpAnyH_take (i := 1) (v := .int .i64 (k : Int)) rfl (by kernel_rfl) (by kernel_rfl) (by kernel_rfl) (fun _ _ _ h => h) (Or.inl ⟨by kernel_rfl, fun _ _ => by kernel_rfl⟩) hS ?_
      refine wpAnyH_take (i := 2) (v := .slice (some ⟨g, 0, none⟩) n cr) rfl (by kernel_rfl) (by kernel_rfl) (by kernel_rfl) (fun _ _ _ h => h) (Or.inl ⟨by kernel_rfl, fun wx hx => by obtain ⟨hx1, hx2, hx3⟩ := hx; go_simp⟩) hS ?_
      refine wpAnyH_take (i := 3) (v := .int .i64 (k : Int)) rfl (by kernel_rfl) (by kernel_rfl) (by kernel_rfl) (fun _ _ _ h => h) (Or.inl ⟨by kernel_rfl, fun _ _ => by kernel_rfl⟩) hS ?_
      refine wpAnyH_take (i := 4) (v := .pointer (some ⟨y, 0, none⟩)) rfl (by kernel_rfl) (by kernel_rfl) (by kernel_rfl) (fun _ _ _ h => h) (Or.inl ⟨by kernel_rfl, fun wx hx => by go_simp⟩) hS ?_
      refine wpAnyH_take (i := 5) (v := .int .i64 tb) rfl (by kernel_rfl) (by kernel_rfl) (by kernel_rfl) (fun _ _ _ h => h) (Or.inl ⟨by kernel_rfl, fun wx hx => by obtain ⟨hx1, hx2, hx3⟩ := hx; go_simp⟩) hS ?_
      refine wpAnyH_take (i := 6) (v := .pointer (some ⟨y, 1, none⟩)) rfl (by kernel_rfl) (by kernel_rfl) (by kernel_rfl) (fun _ _ _ h => h) (Or.inl ⟨by kernel_rfl, fun wx hx => by go_simp⟩) hS ?_
      refine wpAnyH_take (i := 7) (v := .int .i64 ts) rfl (by kernel_rfl) (by kernel_rfl) (by kernel_rfl) (fun _ _ _ h => h) (Or.inl ⟨by kernel_rfl, fun wx hx => by obtain ⟨hx1, hx2, hx3⟩ := hx; go_simp⟩) hS ?_
      refine wpAnyH_take (i := 8) (v := .pointer (some ⟨g, k * 35, none⟩)) rfl (by kernel_rfl) (by kernel_rfl) (by kernel_rfl) (fun _ _ _ h => h) (Or.inl ⟨by kernel_rfl, fun wx hx => by go_simp⟩) hS ?_
      refine wpAnyH_take (i := 9) (v := .pointer (some ⟨g, k * 35 + 33, none⟩)) rfl (by kernel_rfl) (by kernel_rfl) (by kernel_rfl) (fun _ _ _ h => h) (Or.inl ⟨by kernel_rfl, fun wx hx => by go_simp⟩) hS ?_
      refine wpAnyH_ready (rs := [10]) (by kernel_rfl) (by simp) (AllReadyH.cons rfl (fun Kc hK => ?_) AllReadyH.nil)
      go_simp
      rw [HW4.out]
      refine hK.out _ _ HS4.out (fun hS => ?_)
      clear hK
      refine wpAnyH_take (i := 11) (v := .pointer (some ⟨g, k * 35, none⟩)) rfl (by kernel_rfl) (by kernel_rfl) (by kernel_rfl) (fun _ _ _ h => h) (Or.inl ⟨by kernel_rfl, fun wx hx => by go_simp⟩) hS ?_
      refine wpAnyH_take (i := 12) (v := .pointer (some ⟨g, k * 35 + 34, none⟩)) rfl (by kernel_rfl) (by kernel_rfl) (by kernel_rfl) (fun _ _ _ h => h) (Or.inl ⟨by kernel_rfl, fun wx hx => by go_simp⟩) hS ?_
      refine wpAnyH_ready (rs := [13]) (by kernel_rfl) (by simp) (AllReadyH.cons rfl (fun Kc hK => ?_) AllReadyH.nil)
      go_simp
      rw [HW5.out]
      refine hK.out _ _ HS5.out (fun hS => ?_)
      clear hK
      refine wpAnyH_done (by kernel_rfl) ?_ _
      unfold only
      clear hS g33 g34 g34' f33 f34
      go_simp
      gi_wp2
      have hcs := (Chg.refl [x7 + 1] W5).setCell (a := ⟨x7 + 1, 0, none⟩) (.inl (by simp)) (.int .i64 ((C : Int) + 1))
      have hall : Chg [g, x7 + 1] W (W5.setCell ⟨x7 + 1, 0, none⟩ (.int .i64 ((C : Int) + 1))) := ((Chg.ofBelow (X := [g, x7 + 1]) HB13.out).trans (HC35'.out.mono (by simp))).trans (hcs.mono (by simp))
      have hgw : g < W.heap.size := by
        rcases Nat.lt_or_ge g W.heap.size with q | q
        · exact q
        · exfalso
          have := HI3.out.ho
          have h1 := Hgl.out
          omega
      have h8w := (Array.getElem?_eq_some_iff.1 HI8.out).1
      refine ⟨keeps_of hall (fun j hj => ?_), KpO.of hall (fun h0 j hj hm => ?_), ?_⟩
      · simp at hj
        rcases hj with rfl | rfl
        · exact .inr ⟨_, _, Hgl0.out⟩
        · exact .inr ⟨_, _, HI8.out⟩
      · have h1 := HvL.out (by rw [← Hn.out]; exact h0) j hj
        have h2 := Hbx.out
        simp at hm
        omega
      · have hne : ∀ {j : Nat} {cs : Array Value} {t : TypeId}, W5.heap[j]? = some (.cells cs t (0, 0)) → t ≠ 3 → j ∉ [x7 + 1] := fun hj ht hm => by simp at hm; exact Ty.ne ⟨_, hj⟩ ⟨_, H85.out⟩ ht hm
        have k6 := (HC35'.out.block _ (Array.getElem?_eq_some_iff.1 HI3.out.h6).1 ng8.out.2.2.1).trans HI3.out.h6
        have k7 := (HC35'.out.block _ (Array.getElem?_eq_some_iff.1 HI3.out.h7).1 ng8.out.2.1).trans HI3.out.h7
        refine ⟨(hcs.block _ (Array.getElem?_eq_some_iff.1 k6).1 (hne k6 (by decide))).trans k6, (hcs.block _ (Array.getElem?_eq_some_iff.1 k7).1 (hne k7 (by decide))).trans k7, ?_, (HI3.out.hm.far HC35'.out ng8.out.2.2.2.2).far hcs (by have := Hbx.out; simp; omega), HO5.out.far hcs (fun j hj => by obtain ⟨cs, hcs'⟩ := HO5.out.ty j hj; exact hne hcs' (by decide)), ?_, ?_⟩
        · rw [HCn.out]
          have := Boxed.set (.int .i64 ((C : Int) + 1)) (show Boxed W5 (x7 + 1) 3 (.int .i64 (C : Int)) from H85.out)
          simpa [Boxed] using this
        · exact HIb.out.trans (hall.below HIb.out.size (fun j hj => by have := Hbx.out; simp at hj; omega))
        · exact Nat.le_trans HIM.out hall.size
  case hdone =>
    rintro D xs W hD rfl hI hK
    have e1 : (sps L).length = L.length := by simp [sps]
    rw [e1] at hI
    have h7 := Boxed.cell (show Boxed W x7 22 _ from hI.h7)
    have h8 := Boxed.cell (show Boxed W (x7 + 1) 3 _ from hI.h8)
    rw [List.take_of_length_le (Nat.le_refl _)] at h8
    have HO := Hid.mk hI.ho
    have HBf := Hid.mk hI.hb
    rw [Lk_end] at HO
    have HPo : Hid (∀ A, Below W.heap.size W A → A.heap[D]? = some (.deferred (some []))) := ⟨fun A hA => (hA.block D (Array.getElem?_eq_some_iff.1 hK).1).trans hK⟩
    have HDw : Hid (w.heap.size ≤ D) := ⟨by have := Hs5.out; have := Hbx.out; omega⟩
    clear hI
    gi_wp2
    refine wpIn_wide.2 (wp_norm ?_)
    go_quiet (fail)
    unfold only
    gi_wp2
    have hK2 := HPo.out (W.drewN nq) (below_drewN (Below.refl _ _) nq)
    refine ⟨by simp, .inl ⟨_, _, rfl, run_takeDeferred hK2, ?_⟩⟩
    have hc := chg_put (W.drewN nq) D (.deferred none)
    have hOq := HO.out.far (Chg.ofBelow (X := []) (below_drewN (Below.refl _ W) nq)) (by simp)
    have hBq := below_drewN HBf.out nq
    refine ⟨_, results_tmp2 rfl _ _ _, _, rfl, hOq.far hc (fun g hg hm => ?_), hBq.trans (hc.below hBq.size (by have := HDw.out; simpa using this))⟩
    simp at hm
    subst hm
    obtain ⟨cs, hcs⟩ := hOq.ty g hg
    rw [hK2] at hcs
    cases hcs
end
end Go.Proofs.Ytkkcdmdkjedkjaa
