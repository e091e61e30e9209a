/- takeLeast, isWrong, isLow, and whether one of some shares is wrong. -/
import Derived.Test.YtjcojpddjhjhbaaC10
import Derived.Test.YtjcojpddjhjhbaaShC
namespace Go.Proofs.Ytjcojpddjhjhbaa
open Go.RowKit Go.Lib Go.Shelf

def shw (s : Sh) : Bool := decide (s.2.2 < 0 ∨ s.2.1 < s.2.2 ∨ 32768 < s.2.1)
theorem shw_rt (s : Sh) : shw s = false ↔ Rt s := by unfold shw Rt; simp
/-- Is less than so many percent live? -/
def low (p : Int) (s : Sh) : Bool := if s.2.1 = 0 then decide (0 < p) else decide (100 * s.2.2 < p * s.2.1)
section
variable {w : World}
set_option maxHeartbeats 4000000 in
set_option maxRecDepth 100000 in
theorem wrong22 (x1 x2 x3 : Int) : Calls Try.prog 22 #[.agg #[.int .i64 x1, .int .i64 x2, .int .i64 x3]] w fun e w' => e = .returned (.bool (shw (x1, x2, x3))) ∧ Below w.heap.size w w' := by
  have HB : Hid (Below w.heap.size w (w.alloc (.cells #[.int .i64 x1, .int .i64 x2, .int .i64 x3] 27))) := ⟨(Below.refl _ w).alloc (Nat.le_refl _) _⟩
  by_cases h1 : x3 < 0
  · have hr : Hid (shw (x1, x2, x3) = true) := ⟨by simp [shw, h1]⟩
    rw [hr.out]
    go_enter Try.func22, Try.ntmps22
    go_wp2_with fail
    go_ret
    exact ⟨rfl, HB.out⟩
  · by_cases h2 : x2 < x3
    · have hr : Hid (shw (x1, x2, x3) = true) := ⟨by simp [shw, h2]⟩
      rw [hr.out]
      go_enter Try.func22, Try.ntmps22
      go_wp2_with fail
      go_ret
      exact ⟨rfl, HB.out⟩
    · by_cases h3 : 32768 < x2
      · have hr : Hid (shw (x1, x2, x3) = true) := ⟨by simp [shw, h3]⟩
        rw [hr.out]
        go_enter Try.func22, Try.ntmps22
        go_wp2_with fail
        go_ret
        exact ⟨rfl, HB.out⟩
      · have hr : Hid (shw (x1, x2, x3) = false) := ⟨by simp [shw]; omega⟩
        rw [hr.out]
        go_enter Try.func22, Try.ntmps22
        go_wp2_with fail
        go_ret
        exact ⟨rfl, HB.out⟩
set_option maxHeartbeats 4000000 in
set_option maxRecDepth 100000 in
theorem low23 (x1 x2 x3 p : Int) (hr : Rt (x1, x2, x3)) (hp : 0 ≤ p ∧ p ≤ 100) : Calls Try.prog 23 #[.agg #[.int .i64 x1, .int .i64 x2, .int .i64 x3], .int .i64 p] w fun e w' => e = .returned (.bool (low p (x1, x2, x3))) ∧ Below w.heap.size w w' := by
  have HB : Hid (Below w.heap.size w (w.alloc (.cells #[.int .i64 x1, .int .i64 x2, .int .i64 x3] 27))) := ⟨(Below.refl _ w).alloc (Nat.le_refl _) _⟩
  obtain ⟨h1, h2, h3⟩ := hr
  simp only at h1 h2 h3
  unfold low
  simp only
  by_cases h0 : x2 = 0
  · subst h0
    rw [if_pos rfl]
    go_enter Try.func23, Try.ntmps23
    go_wp2_with fail
    go_ret
    exact ⟨rfl, HB.out⟩
  · rw [if_neg h0]
    have p1 := prod_fit (a := p) (b := x2) hp.1 (by omega) (by omega) h3
    obtain ⟨m, Hm⟩ : ∃ m, Hid (p * x2 = m) := ⟨_, ⟨rfl⟩⟩
    have hm := Hm.out
    rw [hm] at p1 ⊢
    have hz : (x2 == 0) = false := by simp [h0]
    have q1 : IntKind.i64.wrap m = m := IntWalk.i64_in _ ⟨by omega, by omega⟩
    go_enter Try.func23, Try.ntmps23
    go_wp2_with fail
    go_ret
    exact ⟨rfl, HB.out⟩
set_option maxHeartbeats 4000000 in
set_option maxRecDepth 100000 in
theorem wrong_any (v : Value) (L : List Sh) (h : RdE sh3 3 s0 w v L) (hL : L.length ≤ 6000000000000) : Calls Try.prog 21 #[v, .func (.func 22) #[] #[]] w fun e w' => e = .returned (.bool (L.any shw)) ∧ Below w.heap.size w w' := by
  obtain ⟨a, c, rfl, h1, h2, h3⟩ := h.shape
  by_cases h0 : L.length = 0
  · obtain rfl : L = [] := List.length_eq_zero_iff.1 h0
    have t : Calls Try.prog 29 #[.slice a 0 c, .func (.func 22) #[] #[]] w fun e w' => e = .returned (.int .i64 (-1)) ∧ Below w.heap.size w w' := by
      simp only [List.length_nil] at *
      go_enter Try.func29, Try.ntmps29
      go_wp2_with fail
      go_loopg [5, 8] 0 (fun _ _ s8 wr => s8 = .int .i64 0 ∧ Hid (Below w.heap.size w wr))
      case atStart => exact ⟨rfl, ⟨Below.refl _ _⟩⟩
      case round =>
        obtain ⟨rfl, HB⟩ := hrel
        go_wp2_with fail
        go_ret
        exact ⟨rfl, HB.out⟩
    simp only [List.length_nil, List.any_nil] at *
    go_enter Try.func21, Try.ntmps21
    go_wp2_with fail
    refine t.mono ?_
    rintro e w1 ⟨rfl, hB1⟩
    have HB1 := Hid.mk hB1
    clear t hB1
    go_wp2_with fail
    go_ret
    exact ⟨rfl, HB1.out⟩
  · obtain ⟨b, off, cap, e, _⟩ := h.at' 0 (by omega)
    simp at e
    obtain ⟨rfl, rfl⟩ := e
    have hb : b < w.heap.size := h.lt (by decide) (by omega) b (by simp [ob, Value.ownBlock])
    have t := AnyQ.slices_ContainsFunc contA 3 Try.isAgg27 Try.sizeOf27 sh3 (fun _ => rfl) shw 22 #[] (enters_of Try.func22 (by kernel_rfl) rfl) b off L.length c L w
      (fun W x hb => (wrong22 x.1 x.2.1 x.2.2).mono fun _ _ hh => ⟨hh.1, hb.trans (hh.2.mono hb.size)⟩) (Nat.le_refl _) (by omega) hb (fun j hj i v hv => by
        obtain ⟨b', off', cap', e', hc⟩ := h.at' j hj
        simp at e'
        obtain ⟨⟨rfl, rfl⟩, _⟩ := e'
        have e2 : L[j]! = L.getD j s0 := by simp [List.getD, hj]
        rw [e2] at hv
        have hi : i < 3 := by
          have := (List.getElem?_eq_some_iff.1 hv).1
          simpa [sh3] using this
        rw [hc i hi]
        exact hv)
    rw [List.take_length] at t
    exact t
set_option maxHeartbeats 8000000 in
set_option maxRecDepth 100000 in
theorem least25 {base b n : Nat} {sl : Value} {L : List Sh} (h : Box w b base sl L) (hn : L.length = n + 1) (hL : L.length ≤ 5864062014800) (hr : AllRt L) (hH : Heap L L.length) :
    Calls Try.prog 25 #[.pointer (some ⟨b, 0, none⟩)] w fun e w' => ∃ x1 x2 x3 : Int, e = .returned (.agg #[.int .i64 x1, .int .i64 x2, .int .i64 x3]) ∧ ∃ sl', ∃ L', Box w' b base sl' L' ∧ L.Perm ((x1, x2, x3) :: L') ∧ (∀ s ∈ L, shl s (x1, x2, x3) = false) ∧ Heap L' L'.length ∧ (∀ x ∈ ob sl', x ∈ ob sl) ∧ Chg (b :: ob sl) w w' := by
  obtain ⟨w1, Hw1⟩ : ∃ x, Hid (w.alloc (.cells #[.int .i64 0, .int .i64 0, .int .i64 0] 27) = x) := ⟨_, ⟨rfl⟩⟩
  have HB1 : Hid (Below w.heap.size w w1) := ⟨by rw [← Hw1.out]; exact (Below.refl _ w).alloc (Nat.le_refl _) _⟩
  have HQ1 : Hid (w1.heap[w.heap.size]? = some (.cells #[.int .i64 0, .int .i64 0, .int .i64 0] 27 (0, 0))) := ⟨by rw [← Hw1.out]; exact heap_alloc_new w _⟩
  have t1 := pop31 (w := w1) (h.far (Chg.ofBelow (X := []) HB1.out) (by simp) (by simp)) hn hL hr hH
  have HObl : Hid (w.heap.size ∉ b :: ob sl) := ⟨fun hm => by
    rcases List.mem_cons.1 hm with e | hm
    · have := h.lt; omega
    · have := (h.own.lt _ hm).2; omega⟩
  clear h hn hL hr hH
  go_enter Try.func25, Try.ntmps25
  go_upto_region 1 with fail
  rw [Hw1.out]
  go_wp2_with fail
  refine t1.mono ?_
  rintro e w2 ⟨x1, x2, x3, rfl, sl', L', hX2, hP2, hM2, hH2, hI2, hG2⟩
  have HX2 := Hid.mk hX2
  have HP2 := Hid.mk hP2
  have HM2 := Hid.mk hM2
  have HH2 := Hid.mk hH2
  have HG2 := Hid.mk hG2
  have HI2 := Hid.mk hI2
  have HQ2 : Hid (w2.heap[w.heap.size]? = some (.cells #[.int .i64 0, .int .i64 0, .int .i64 0] 27 (0, 0))) := ⟨(hG2.block _ (Array.getElem?_eq_some_iff.1 HQ1.out).1 HObl.out).trans HQ1.out⟩
  have hta := ta27 w2 x1 x2 x3
  clear t1 hX2 hP2 hM2 hH2 hI2 hG2
  obtain ⟨q, Hq⟩ : ∃ x, Hid (w.heap.size = x) := ⟨_, ⟨rfl⟩⟩
  rw [Hq.out] at HQ2 ⊢
  obtain ⟨w3, Hw3⟩ : ∃ x, Hid (w2.alloc (.cells #[.int .i64 x1, .int .i64 x2, .int .i64 x3] 27) = x) := ⟨_, ⟨rfl⟩⟩
  have HB3 : Hid (Below w2.heap.size w2 w3) := ⟨by rw [← Hw3.out]; exact (Below.refl _ w2).alloc (Nat.le_refl _) _⟩
  have HQ3 : Hid (w3.heap[q]? = some (.cells #[.int .i64 0, .int .i64 0, .int .i64 0] 27 (0, 0))) := ⟨(HB3.out.block q (Array.getElem?_eq_some_iff.1 HQ2.out).1).trans HQ2.out⟩
  have HR3 : Hid (w3.heap[w2.heap.size]? = some (.cells #[.int .i64 x1, .int .i64 x2, .int .i64 x3] 27 (0, 0))) := ⟨by rw [← Hw3.out]; exact heap_alloc_new w2 _⟩
  go_upto_region 2 with fail
  rw [Hw3.out]
  obtain ⟨r, Hr⟩ : ∃ x, Hid (w2.heap.size = x) := ⟨_, ⟨rfl⟩⟩
  rw [Hr.out] at HR3 ⊢
  have c0 : w3.cell? ⟨q, 0, none⟩ = some (.int .i64 0) := by rw [cell_of_row _ _ _ _ _ _ HQ3.out]; rfl
  have c1 : w3.cell? ⟨q, 1, none⟩ = some (.int .i64 0) := by rw [cell_of_row _ _ _ _ _ _ HQ3.out]; rfl
  have c2 : w3.cell? ⟨q, 2, none⟩ = some (.int .i64 0) := by rw [cell_of_row _ _ _ _ _ _ HQ3.out]; rfl
  have f0 : w3.frozen? ⟨q, 0, none⟩ = false := frozen_of_row w3 q _ _ 27 HQ3.out
  have f1 : w3.frozen? ⟨q, 1, none⟩ = false := frozen_of_row w3 q _ _ 27 HQ3.out
  have f2 : w3.frozen? ⟨q, 2, none⟩ = false := frozen_of_row w3 q _ _ 27 HQ3.out
  have d0 : w3.cell? ⟨r, 0, none⟩ = some (.int .i64 x1) := by rw [cell_of_row _ _ _ _ _ _ HR3.out]; rfl
  have d1 : w3.cell? ⟨r, 1, none⟩ = some (.int .i64 x2) := by rw [cell_of_row _ _ _ _ _ _ HR3.out]; rfl
  have d2 : w3.cell? ⟨r, 2, none⟩ = some (.int .i64 x3) := by rw [cell_of_row _ _ _ _ _ _ HR3.out]; rfl
  clear hta
  go_wp2_with fail
  obtain ⟨V, HV⟩ : ∃ x, Hid (((w3.setCell ⟨q, 0, none⟩ (.int .i64 x1)).setCell ⟨q, 1, none⟩ (.int .i64 x2)).setCell ⟨q, 2, none⟩ (.int .i64 x3) = x) := ⟨_, ⟨rfl⟩⟩
  have HCV : Hid (Chg [q] w3 V) := ⟨by rw [← HV.out]; exact (((Chg.refl [q] w3).setCell (.inl (by simp)) _).setCell (.inl (by simp)) _).setCell (.inl (by simp)) _⟩
  have HQV : Hid (V.heap[q]? = some (.cells #[.int .i64 x1, .int .i64 x2, .int .i64 x3] 27 (0, 0))) := ⟨by
    rw [← HV.out]
    have h1 := heap_setCell_same w3 q 0 _ 27 (.int .i64 x1) HQ3.out
    have h2 := heap_setCell_same _ q 1 _ 27 (.int .i64 x2) h1
    have h3 := heap_setCell_same _ q 2 _ 27 (.int .i64 x3) h2
    simpa using h3⟩
  have v0 : V.cell? ⟨q, 0, none⟩ = some (.int .i64 x1) := by rw [cell_of_row _ _ _ _ _ _ HQV.out]; rfl
  have v1 : V.cell? ⟨q, 1, none⟩ = some (.int .i64 x2) := by rw [cell_of_row _ _ _ _ _ _ HQV.out]; rfl
  have v2 : V.cell? ⟨q, 2, none⟩ = some (.int .i64 x3) := by rw [cell_of_row _ _ _ _ _ _ HQV.out]; rfl
  have Hq2 : Hid (q ∉ b :: ob sl) := ⟨by rw [← Hq.out]; exact HObl.out⟩
  have HXV : Hid (Box V b base sl' L') := ⟨(HX2.out.far (Chg.ofBelow (X := []) HB3.out) (by simp) (by simp)).far HCV.out (by have := HX2.out.lt; intro hm; simp at hm; subst hm; have h5 := HX2.out.box; rw [HQ2.out] at h5; simp at h5) (fun g hg hm => by simp at hm; subst hm; exact Hq2.out (List.mem_cons_of_mem _ (HI2.out _ hg)))⟩
  have HGV : Hid (Chg (b :: ob sl) w V) := ⟨(((Chg.ofBelow HB1.out).trans HG2.out).trans (Chg.ofBelow HB3.out)).thenNew HCV.out (fun x hx => .inr (by simp at hx; rw [hx, ← Hq.out]; exact Nat.le_refl _))⟩
  rw [HV.out]
  clear c0 c1 c2 f0 f1 f2 d0 d1 d2
  refine bodyPost_ret (v := .agg #[.int .i64 x1, .int .i64 x2, .int .i64 x3]) (by simp [results, Try.results25, go_sem, v0, v1, v2]) rfl ⟨x1, x2, x3, rfl, sl', L', HXV.out, HP2.out, HM2.out, HH2.out, HI2.out, HGV.out⟩
end
end Go.Proofs.Ytjcojpddjhjhbaa
