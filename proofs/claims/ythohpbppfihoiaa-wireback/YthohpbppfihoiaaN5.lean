/- What is right in a note. -/
import Derived.Test.YthohpbppfihoiaaN4
namespace Go.Proofs.Ythohpbppfihoiaa
open Go.RowKit Oct

/-- Is each part of a note right? -/
def rt (m : Nm) (nm : ByteArray) (g i : Int) (H : List Hd) (P : List Pt) (bn : Nat) : Bool :=
  (!m.1 || flB nm g) && decide (0 ≤ i) && decide (i < 256) && H.all (fun h => flB h.1 h.2) && P.all (fun p => ptOk p.2) && (!m.2.2.2.2 || decide (0 < bn))
theorem below_atN {w w' : World} {b : Nat} {o : Obj} (h : Below w.heap.size w w') (hb : w.heap[b]? = some o) : w'.heap[b]? = some o := (h.block b (Array.getElem?_eq_some_iff.1 hb).1).trans hb
section
variable {w : World}
set_option maxHeartbeats 8000000 in
set_option maxRecDepth 100000 in
theorem right_no (m2 m3 m4 : Bool) (s : Int) (nm : ByteArray) (g i : Int) (ha pa ba : Option Addr) (hn hc pn pc bn bc : Nat) (H : List Hd) (P : List Pt) (hH : RdE he 2 h0 w (.slice ha hn hc) H) (hP : RdE pe 33 p0 w (.slice pa pn pc) P) (h32 : ∀ p ∈ P, p.1.length = 32) :
    Calls Try.prog 17 #[.agg (nmV (false, m2, m3, m4, false)), .agg (na s nm g i (.slice ha hn hc) (.slice pa pn pc) (.slice ba bn bc))] w fun e w' => e = .returned (.bool (rt (false, m2, m3, m4, false) nm g i H P bn)) ∧ Below w.heap.size w w' := by
  obtain ⟨w1, Hw1⟩ : ∃ x, Hid (w.alloc (.cells (nmV (false, m2, m3, m4, false)) 40) = x) := ⟨_, ⟨rfl⟩⟩
  have HB1 : Hid (Below w.heap.size w w1) := ⟨by rw [← Hw1.out]; exact (Below.refl _ w).alloc (Nat.le_refl _) _⟩
  obtain ⟨q, Hq⟩ : ∃ q, Hid (w.heap.size = q) := ⟨_, ⟨rfl⟩⟩
  have HX1 : Hid (w1.heap[q]? = some (.cells (nmV (false, m2, m3, m4, false)) 40 (0, 0))) := ⟨by rw [← Hw1.out, ← Hq.out]; exact heap_alloc_new w _⟩
  have HS1 : Hid (w1.heap.size = q + 1) := ⟨by rw [← Hw1.out, ← Hq.out]; exact Array.size_push _⟩
  obtain ⟨w2, Hw2⟩ : ∃ x, Hid (w1.alloc (.cells (na s nm g i (.slice ha hn hc) (.slice pa pn pc) (.slice ba bn bc)) 27) = x) := ⟨_, ⟨rfl⟩⟩
  have HB2 : Hid (Below w.heap.size w w2) := ⟨by rw [← Hw2.out]; exact HB1.out.alloc HB1.out.size _⟩
  have HX2 : Hid (w2.heap[q]? = some (.cells (nmV (false, m2, m3, m4, false)) 40 (0, 0))) := ⟨by rw [← Hw2.out]; rw [heap_alloc_old (h := by rw [HS1.out]; omega)]; exact HX1.out⟩
  have HY2 : Hid (w2.heap[q + 1]? = some (.cells (na s nm g i (.slice ha hn hc) (.slice pa pn pc) (.slice ba bn bc)) 27 (0, 0))) := ⟨by rw [← Hw2.out, ← HS1.out]; exact heap_alloc_new w1 _⟩
  have a0 : w2.cell? ⟨q, 0, none⟩ = some (.bool false) := by rw [cell_of_row _ _ _ _ _ _ HX2.out]; rfl
  have b1 : w2.cell? ⟨q + 1, 1, none⟩ = some (.string nm) := by rw [cell_of_row _ _ _ _ _ _ HY2.out]; rfl
  have b2 : w2.cell? ⟨q + 1, 2, none⟩ = some (.int .i64 g) := by rw [cell_of_row _ _ _ _ _ _ HY2.out]; rfl
  have b3 : w2.cell? ⟨q + 1, 3, none⟩ = some (.int .i64 i) := by rw [cell_of_row _ _ _ _ _ _ HY2.out]; rfl
  have b4 : w2.cell? ⟨q + 1, 4, none⟩ = some (.slice ha hn hc) := by rw [cell_of_row _ _ _ _ _ _ HY2.out]; rfl
  have b5 : w2.cell? ⟨q + 1, 5, none⟩ = some (.slice pa pn pc) := by rw [cell_of_row _ _ _ _ _ _ HY2.out]; rfl
  have b6 : w2.cell? ⟨q + 1, 6, none⟩ = some (.slice ba bn bc) := by rw [cell_of_row _ _ _ _ _ _ HY2.out]; rfl
  have HHx : Hid (∀ wx, Below w.heap.size w wx → RdE he 2 h0 wx (.slice ha hn hc) H) := ⟨fun wx h => hH.far (Chg.ofBelow (X := []) h) (by simp)⟩
  have HPx : Hid (∀ wx, Below w.heap.size w wx → RdE pe 33 p0 wx (.slice pa pn pc) P) := ⟨fun wx h => hP.far (Chg.ofBelow (X := []) h) (by simp)⟩
  have HHx2 := HHx.out w2 HB2.out
  have t35 := file35 (w := w2) nm g
  have t36 := fun W : World => fun h : RdE he 2 h0 W (.slice ha hn hc) H => each36 (w := W) _ H h
  have t38 := fun W : World => fun h : RdE pe 33 p0 W (.slice pa pn pc) P => each38 (w := W) _ P h h32
  obtain ⟨A, HA⟩ : ∃ x, Hid (na s nm g i (.slice ha hn hc) (.slice pa pn pc) (.slice ba bn bc) = x) := ⟨_, ⟨rfl⟩⟩
  obtain ⟨M, HM⟩ : ∃ x, Hid (nmV (false, m2, m3, m4, false) = x) := ⟨_, ⟨rfl⟩⟩
  obtain ⟨R, HR⟩ : ∃ x, Hid (rt (false, m2, m3, m4, false) nm g i H P bn = x) := ⟨_, ⟨rfl⟩⟩
  rw [HR.out]
  rw [HA.out] at Hw2 HY2
  rw [HM.out] at Hw1 HX2
  rw [HA.out, HM.out]
  clear hH hP h32
  by_cases ci : 0 ≤ i
  · by_cases cj : i < 256
    · cases ch : H.all (fun h => flB h.1 h.2) with
      | true =>
        cases cp : P.all (fun p => ptOk p.2) with
        | true =>
          have HRr : Hid (R = true) := ⟨by rw [← HR.out]; unfold rt; simp [ci, cj, ch, cp]⟩
          rw [ch] at t36
          rw [cp] at t38
          have fi : (0 : Int) ≤ i := by omega
          have fj : i < (256 : Int) := by omega
          clear ci cj ch cp
          go_enter Try.func17, Try.ntmps17
          go_upto_region 1 with (first | (refine wp_box rfl 40 (.tmp 0) rfl M rfl ?_; rw [Hw1.out]) | (refine wp_box rfl 27 (.tmp 1) rfl A rfl ?_; rw [Hw2.out, HS1.out, Hq.out]))
          go_wp2_with fail
          refine (t36 w2 HHx2).mono ?_
          rintro e w3 ⟨rfl, hB3⟩
          have HB3 : Hid (Below w.heap.size w w3) := ⟨HB2.out.trans (hB3.mono HB2.out.size)⟩
          have HY3 := Hid.mk (below_atN hB3 HY2.out)
          have HP3 := HPx.out w3 HB3.out
          have c4 : w3.cell? ⟨q + 1, 4, none⟩ = some (.slice ha hn hc) := by rw [cell_of_row _ _ _ _ _ _ HY3.out, ← HA.out]; rfl
          have c5 : w3.cell? ⟨q + 1, 5, none⟩ = some (.slice pa pn pc) := by rw [cell_of_row _ _ _ _ _ _ HY3.out, ← HA.out]; rfl
          have c6 : w3.cell? ⟨q + 1, 6, none⟩ = some (.slice ba bn bc) := by rw [cell_of_row _ _ _ _ _ _ HY3.out, ← HA.out]; rfl
          have c0 : w3.cell? ⟨q, 4, none⟩ = some (.bool false) := by rw [cell_of_row _ _ _ _ _ _ (below_atN hB3 HX2.out), ← HM.out]; rfl
          have HX3 := Hid.mk (below_atN hB3 HX2.out)
          clear hB3
          go_wp2_with fail
          refine (t38 w3 HP3).mono ?_
          rintro e w4 ⟨rfl, hB4⟩
          have HB4 : Hid (Below w.heap.size w w4) := ⟨HB3.out.trans (hB4.mono HB3.out.size)⟩
          have d6 : w4.cell? ⟨q + 1, 6, none⟩ = some (.slice ba bn bc) := by rw [cell_of_row _ _ _ _ _ _ (below_atN hB4 HY3.out), ← HA.out]; rfl
          have d0 : w4.cell? ⟨q, 4, none⟩ = some (.bool false) := by rw [cell_of_row _ _ _ _ _ _ (below_atN hB4 HX3.out), ← HM.out]; rfl
          clear hB4
          go_wp2_with fail
          go_ret
          exact ⟨by rw [HRr.out]; rfl, HB4.out⟩
        | false =>
          have HRr : Hid (R = false) := ⟨by rw [← HR.out]; unfold rt; simp [ci, cj, ch, cp]⟩
          rw [ch] at t36
          rw [cp] at t38
          have fi : (0 : Int) ≤ i := by omega
          have fj : i < (256 : Int) := by omega
          clear ci cj ch cp
          go_enter Try.func17, Try.ntmps17
          go_upto_region 1 with (first | (refine wp_box rfl 40 (.tmp 0) rfl M rfl ?_; rw [Hw1.out]) | (refine wp_box rfl 27 (.tmp 1) rfl A rfl ?_; rw [Hw2.out, HS1.out, Hq.out]))
          go_wp2_with fail
          refine (t36 w2 HHx2).mono ?_
          rintro e w3 ⟨rfl, hB3⟩
          have HB3 : Hid (Below w.heap.size w w3) := ⟨HB2.out.trans (hB3.mono HB2.out.size)⟩
          have HY3 := Hid.mk (below_atN hB3 HY2.out)
          have HP3 := HPx.out w3 HB3.out
          have c4 : w3.cell? ⟨q + 1, 4, none⟩ = some (.slice ha hn hc) := by rw [cell_of_row _ _ _ _ _ _ HY3.out, ← HA.out]; rfl
          have c5 : w3.cell? ⟨q + 1, 5, none⟩ = some (.slice pa pn pc) := by rw [cell_of_row _ _ _ _ _ _ HY3.out, ← HA.out]; rfl
          have c6 : w3.cell? ⟨q + 1, 6, none⟩ = some (.slice ba bn bc) := by rw [cell_of_row _ _ _ _ _ _ HY3.out, ← HA.out]; rfl
          have c0 : w3.cell? ⟨q, 4, none⟩ = some (.bool false) := by rw [cell_of_row _ _ _ _ _ _ (below_atN hB3 HX2.out), ← HM.out]; rfl
          have HX3 := Hid.mk (below_atN hB3 HX2.out)
          clear hB3
          go_wp2_with fail
          refine (t38 w3 HP3).mono ?_
          rintro e w4 ⟨rfl, hB4⟩
          have HB4 : Hid (Below w.heap.size w w4) := ⟨HB3.out.trans (hB4.mono HB3.out.size)⟩
          have d6 : w4.cell? ⟨q + 1, 6, none⟩ = some (.slice ba bn bc) := by rw [cell_of_row _ _ _ _ _ _ (below_atN hB4 HY3.out), ← HA.out]; rfl
          have d0 : w4.cell? ⟨q, 4, none⟩ = some (.bool false) := by rw [cell_of_row _ _ _ _ _ _ (below_atN hB4 HX3.out), ← HM.out]; rfl
          clear hB4
          go_wp2_with fail
          go_ret
          exact ⟨by rw [HRr.out]; rfl, HB4.out⟩
      | false =>
        have HRr : Hid (R = false) := ⟨by rw [← HR.out]; unfold rt; simp [ci, cj, ch]⟩
        rw [ch] at t36
        have fi : (0 : Int) ≤ i := by omega
        have fj : i < (256 : Int) := by omega
        clear ci cj ch
        go_enter Try.func17, Try.ntmps17
        go_upto_region 1 with (first | (refine wp_box rfl 40 (.tmp 0) rfl M rfl ?_; rw [Hw1.out]) | (refine wp_box rfl 27 (.tmp 1) rfl A rfl ?_; rw [Hw2.out, HS1.out, Hq.out]))
        go_wp2_with fail
        refine (t36 w2 HHx2).mono ?_
        rintro e w3 ⟨rfl, hB3⟩
        have HB3 : Hid (Below w.heap.size w w3) := ⟨HB2.out.trans (hB3.mono HB2.out.size)⟩
        have HY3 := Hid.mk (below_atN hB3 HY2.out)
        have HP3 := HPx.out w3 HB3.out
        have c4 : w3.cell? ⟨q + 1, 4, none⟩ = some (.slice ha hn hc) := by rw [cell_of_row _ _ _ _ _ _ HY3.out, ← HA.out]; rfl
        have c5 : w3.cell? ⟨q + 1, 5, none⟩ = some (.slice pa pn pc) := by rw [cell_of_row _ _ _ _ _ _ HY3.out, ← HA.out]; rfl
        have c6 : w3.cell? ⟨q + 1, 6, none⟩ = some (.slice ba bn bc) := by rw [cell_of_row _ _ _ _ _ _ HY3.out, ← HA.out]; rfl
        have c0 : w3.cell? ⟨q, 4, none⟩ = some (.bool false) := by rw [cell_of_row _ _ _ _ _ _ (below_atN hB3 HX2.out), ← HM.out]; rfl
        have HX3 := Hid.mk (below_atN hB3 HX2.out)
        clear hB3
        go_wp2_with fail
        go_ret
        exact ⟨by rw [HRr.out]; rfl, HB3.out⟩
    · have HRr : Hid (R = false) := ⟨by rw [← HR.out]; unfold rt; simp [ci, cj]⟩
      have fi : (0 : Int) ≤ i := by omega
      have fj : ¬ i < (256 : Int) := by omega
      clear ci cj
      go_enter Try.func17, Try.ntmps17
      go_upto_region 1 with (first | (refine wp_box rfl 40 (.tmp 0) rfl M rfl ?_; rw [Hw1.out]) | (refine wp_box rfl 27 (.tmp 1) rfl A rfl ?_; rw [Hw2.out, HS1.out, Hq.out]))
      go_wp2_with fail
      go_ret
      exact ⟨by rw [HRr.out]; rfl, HB2.out⟩
  · have HRr : Hid (R = false) := ⟨by rw [← HR.out]; unfold rt; simp [ci]⟩
    have fi : ¬ (0 : Int) ≤ i := by omega
    clear ci
    go_enter Try.func17, Try.ntmps17
    go_upto_region 1 with (first | (refine wp_box rfl 40 (.tmp 0) rfl M rfl ?_; rw [Hw1.out]) | (refine wp_box rfl 27 (.tmp 1) rfl A rfl ?_; rw [Hw2.out, HS1.out, Hq.out]))
    go_wp2_with fail
    go_ret
    exact ⟨by rw [HRr.out]; rfl, HB2.out⟩
set_option maxHeartbeats 8000000 in
set_option maxRecDepth 100000 in
theorem right_f (m2 m3 m4 : Bool) (s : Int) (nm : ByteArray) (g i : Int) (ha pa ba : Option Addr) (hn hc pn pc bn bc : Nat) (H : List Hd) (P : List Pt) (hH : RdE he 2 h0 w (.slice ha hn hc) H) (hP : RdE pe 33 p0 w (.slice pa pn pc) P) (h32 : ∀ p ∈ P, p.1.length = 32) :
    Calls Try.prog 17 #[.agg (nmV (true, m2, m3, m4, false)), .agg (na s nm g i (.slice ha hn hc) (.slice pa pn pc) (.slice ba bn bc))] w fun e w' => e = .returned (.bool (rt (true, m2, m3, m4, false) nm g i H P bn)) ∧ Below w.heap.size w w' := by
  obtain ⟨w1, Hw1⟩ : ∃ x, Hid (w.alloc (.cells (nmV (true, m2, m3, m4, false)) 40) = x) := ⟨_, ⟨rfl⟩⟩
  have HB1 : Hid (Below w.heap.size w w1) := ⟨by rw [← Hw1.out]; exact (Below.refl _ w).alloc (Nat.le_refl _) _⟩
  obtain ⟨q, Hq⟩ : ∃ q, Hid (w.heap.size = q) := ⟨_, ⟨rfl⟩⟩
  have HX1 : Hid (w1.heap[q]? = some (.cells (nmV (true, m2, m3, m4, false)) 40 (0, 0))) := ⟨by rw [← Hw1.out, ← Hq.out]; exact heap_alloc_new w _⟩
  have HS1 : Hid (w1.heap.size = q + 1) := ⟨by rw [← Hw1.out, ← Hq.out]; exact Array.size_push _⟩
  obtain ⟨w2, Hw2⟩ : ∃ x, Hid (w1.alloc (.cells (na s nm g i (.slice ha hn hc) (.slice pa pn pc) (.slice ba bn bc)) 27) = x) := ⟨_, ⟨rfl⟩⟩
  have HB2 : Hid (Below w.heap.size w w2) := ⟨by rw [← Hw2.out]; exact HB1.out.alloc HB1.out.size _⟩
  have HX2 : Hid (w2.heap[q]? = some (.cells (nmV (true, m2, m3, m4, false)) 40 (0, 0))) := ⟨by rw [← Hw2.out]; rw [heap_alloc_old (h := by rw [HS1.out]; omega)]; exact HX1.out⟩
  have HY2 : Hid (w2.heap[q + 1]? = some (.cells (na s nm g i (.slice ha hn hc) (.slice pa pn pc) (.slice ba bn bc)) 27 (0, 0))) := ⟨by rw [← Hw2.out, ← HS1.out]; exact heap_alloc_new w1 _⟩
  have a0 : w2.cell? ⟨q, 0, none⟩ = some (.bool true) := by rw [cell_of_row _ _ _ _ _ _ HX2.out]; rfl
  have b1 : w2.cell? ⟨q + 1, 1, none⟩ = some (.string nm) := by rw [cell_of_row _ _ _ _ _ _ HY2.out]; rfl
  have b2 : w2.cell? ⟨q + 1, 2, none⟩ = some (.int .i64 g) := by rw [cell_of_row _ _ _ _ _ _ HY2.out]; rfl
  have b3 : w2.cell? ⟨q + 1, 3, none⟩ = some (.int .i64 i) := by rw [cell_of_row _ _ _ _ _ _ HY2.out]; rfl
  have b4 : w2.cell? ⟨q + 1, 4, none⟩ = some (.slice ha hn hc) := by rw [cell_of_row _ _ _ _ _ _ HY2.out]; rfl
  have b5 : w2.cell? ⟨q + 1, 5, none⟩ = some (.slice pa pn pc) := by rw [cell_of_row _ _ _ _ _ _ HY2.out]; rfl
  have b6 : w2.cell? ⟨q + 1, 6, none⟩ = some (.slice ba bn bc) := by rw [cell_of_row _ _ _ _ _ _ HY2.out]; rfl
  have HHx : Hid (∀ wx, Below w.heap.size w wx → RdE he 2 h0 wx (.slice ha hn hc) H) := ⟨fun wx h => hH.far (Chg.ofBelow (X := []) h) (by simp)⟩
  have HPx : Hid (∀ wx, Below w.heap.size w wx → RdE pe 33 p0 wx (.slice pa pn pc) P) := ⟨fun wx h => hP.far (Chg.ofBelow (X := []) h) (by simp)⟩
  have HHx2 := HHx.out w2 HB2.out
  have t35 := file35 (w := w2) nm g
  have t36 := fun W : World => fun h : RdE he 2 h0 W (.slice ha hn hc) H => each36 (w := W) _ H h
  have t38 := fun W : World => fun h : RdE pe 33 p0 W (.slice pa pn pc) P => each38 (w := W) _ P h h32
  obtain ⟨A, HA⟩ : ∃ x, Hid (na s nm g i (.slice ha hn hc) (.slice pa pn pc) (.slice ba bn bc) = x) := ⟨_, ⟨rfl⟩⟩
  obtain ⟨M, HM⟩ : ∃ x, Hid (nmV (true, m2, m3, m4, false) = x) := ⟨_, ⟨rfl⟩⟩
  obtain ⟨R, HR⟩ : ∃ x, Hid (rt (true, m2, m3, m4, false) nm g i H P bn = x) := ⟨_, ⟨rfl⟩⟩
  rw [HR.out]
  rw [HA.out] at Hw2 HY2
  rw [HM.out] at Hw1 HX2
  rw [HA.out, HM.out]
  clear hH hP h32
  cases cf : flB nm g with
  | true =>
    by_cases ci : 0 ≤ i
    · by_cases cj : i < 256
      · cases ch : H.all (fun h => flB h.1 h.2) with
        | true =>
          cases cp : P.all (fun p => ptOk p.2) with
          | true =>
            rw [cf] at t35
            have HRr : Hid (R = true) := ⟨by rw [← HR.out]; unfold rt; simp [cf, ci, cj, ch, cp]⟩
            rw [ch] at t36
            rw [cp] at t38
            have fi : (0 : Int) ≤ i := by omega
            have fj : i < (256 : Int) := by omega
            clear cf ci cj ch cp
            go_enter Try.func17, Try.ntmps17
            go_upto_region 1 with (first | (refine wp_box rfl 40 (.tmp 0) rfl M rfl ?_; rw [Hw1.out]) | (refine wp_box rfl 27 (.tmp 1) rfl A rfl ?_; rw [Hw2.out, HS1.out, Hq.out]))
            go_wp2_with fail
            refine t35.mono ?_
            rintro e w3 ⟨rfl, rfl⟩
            clear t35
            go_wp2_with fail
            refine (t36 w2 HHx2).mono ?_
            rintro e w3 ⟨rfl, hB3⟩
            have HB3 : Hid (Below w.heap.size w w3) := ⟨HB2.out.trans (hB3.mono HB2.out.size)⟩
            have HY3 := Hid.mk (below_atN hB3 HY2.out)
            have HP3 := HPx.out w3 HB3.out
            have c4 : w3.cell? ⟨q + 1, 4, none⟩ = some (.slice ha hn hc) := by rw [cell_of_row _ _ _ _ _ _ HY3.out, ← HA.out]; rfl
            have c5 : w3.cell? ⟨q + 1, 5, none⟩ = some (.slice pa pn pc) := by rw [cell_of_row _ _ _ _ _ _ HY3.out, ← HA.out]; rfl
            have c6 : w3.cell? ⟨q + 1, 6, none⟩ = some (.slice ba bn bc) := by rw [cell_of_row _ _ _ _ _ _ HY3.out, ← HA.out]; rfl
            have c0 : w3.cell? ⟨q, 4, none⟩ = some (.bool false) := by rw [cell_of_row _ _ _ _ _ _ (below_atN hB3 HX2.out), ← HM.out]; rfl
            have HX3 := Hid.mk (below_atN hB3 HX2.out)
            clear hB3
            go_wp2_with fail
            refine (t38 w3 HP3).mono ?_
            rintro e w4 ⟨rfl, hB4⟩
            have HB4 : Hid (Below w.heap.size w w4) := ⟨HB3.out.trans (hB4.mono HB3.out.size)⟩
            have d6 : w4.cell? ⟨q + 1, 6, none⟩ = some (.slice ba bn bc) := by rw [cell_of_row _ _ _ _ _ _ (below_atN hB4 HY3.out), ← HA.out]; rfl
            have d0 : w4.cell? ⟨q, 4, none⟩ = some (.bool false) := by rw [cell_of_row _ _ _ _ _ _ (below_atN hB4 HX3.out), ← HM.out]; rfl
            clear hB4
            go_wp2_with fail
            go_ret
            exact ⟨by rw [HRr.out]; rfl, HB4.out⟩
          | false =>
            rw [cf] at t35
            have HRr : Hid (R = false) := ⟨by rw [← HR.out]; unfold rt; simp [cf, ci, cj, ch, cp]⟩
            rw [ch] at t36
            rw [cp] at t38
            have fi : (0 : Int) ≤ i := by omega
            have fj : i < (256 : Int) := by omega
            clear cf ci cj ch cp
            go_enter Try.func17, Try.ntmps17
            go_upto_region 1 with (first | (refine wp_box rfl 40 (.tmp 0) rfl M rfl ?_; rw [Hw1.out]) | (refine wp_box rfl 27 (.tmp 1) rfl A rfl ?_; rw [Hw2.out, HS1.out, Hq.out]))
            go_wp2_with fail
            refine t35.mono ?_
            rintro e w3 ⟨rfl, rfl⟩
            clear t35
            go_wp2_with fail
            refine (t36 w2 HHx2).mono ?_
            rintro e w3 ⟨rfl, hB3⟩
            have HB3 : Hid (Below w.heap.size w w3) := ⟨HB2.out.trans (hB3.mono HB2.out.size)⟩
            have HY3 := Hid.mk (below_atN hB3 HY2.out)
            have HP3 := HPx.out w3 HB3.out
            have c4 : w3.cell? ⟨q + 1, 4, none⟩ = some (.slice ha hn hc) := by rw [cell_of_row _ _ _ _ _ _ HY3.out, ← HA.out]; rfl
            have c5 : w3.cell? ⟨q + 1, 5, none⟩ = some (.slice pa pn pc) := by rw [cell_of_row _ _ _ _ _ _ HY3.out, ← HA.out]; rfl
            have c6 : w3.cell? ⟨q + 1, 6, none⟩ = some (.slice ba bn bc) := by rw [cell_of_row _ _ _ _ _ _ HY3.out, ← HA.out]; rfl
            have c0 : w3.cell? ⟨q, 4, none⟩ = some (.bool false) := by rw [cell_of_row _ _ _ _ _ _ (below_atN hB3 HX2.out), ← HM.out]; rfl
            have HX3 := Hid.mk (below_atN hB3 HX2.out)
            clear hB3
            go_wp2_with fail
            refine (t38 w3 HP3).mono ?_
            rintro e w4 ⟨rfl, hB4⟩
            have HB4 : Hid (Below w.heap.size w w4) := ⟨HB3.out.trans (hB4.mono HB3.out.size)⟩
            have d6 : w4.cell? ⟨q + 1, 6, none⟩ = some (.slice ba bn bc) := by rw [cell_of_row _ _ _ _ _ _ (below_atN hB4 HY3.out), ← HA.out]; rfl
            have d0 : w4.cell? ⟨q, 4, none⟩ = some (.bool false) := by rw [cell_of_row _ _ _ _ _ _ (below_atN hB4 HX3.out), ← HM.out]; rfl
            clear hB4
            go_wp2_with fail
            go_ret
            exact ⟨by rw [HRr.out]; rfl, HB4.out⟩
        | false =>
          rw [cf] at t35
          have HRr : Hid (R = false) := ⟨by rw [← HR.out]; unfold rt; simp [cf, ci, cj, ch]⟩
          rw [ch] at t36
          have fi : (0 : Int) ≤ i := by omega
          have fj : i < (256 : Int) := by omega
          clear cf ci cj ch
          go_enter Try.func17, Try.ntmps17
          go_upto_region 1 with (first | (refine wp_box rfl 40 (.tmp 0) rfl M rfl ?_; rw [Hw1.out]) | (refine wp_box rfl 27 (.tmp 1) rfl A rfl ?_; rw [Hw2.out, HS1.out, Hq.out]))
          go_wp2_with fail
          refine t35.mono ?_
          rintro e w3 ⟨rfl, rfl⟩
          clear t35
          go_wp2_with fail
          refine (t36 w2 HHx2).mono ?_
          rintro e w3 ⟨rfl, hB3⟩
          have HB3 : Hid (Below w.heap.size w w3) := ⟨HB2.out.trans (hB3.mono HB2.out.size)⟩
          have HY3 := Hid.mk (below_atN hB3 HY2.out)
          have HP3 := HPx.out w3 HB3.out
          have c4 : w3.cell? ⟨q + 1, 4, none⟩ = some (.slice ha hn hc) := by rw [cell_of_row _ _ _ _ _ _ HY3.out, ← HA.out]; rfl
          have c5 : w3.cell? ⟨q + 1, 5, none⟩ = some (.slice pa pn pc) := by rw [cell_of_row _ _ _ _ _ _ HY3.out, ← HA.out]; rfl
          have c6 : w3.cell? ⟨q + 1, 6, none⟩ = some (.slice ba bn bc) := by rw [cell_of_row _ _ _ _ _ _ HY3.out, ← HA.out]; rfl
          have c0 : w3.cell? ⟨q, 4, none⟩ = some (.bool false) := by rw [cell_of_row _ _ _ _ _ _ (below_atN hB3 HX2.out), ← HM.out]; rfl
          have HX3 := Hid.mk (below_atN hB3 HX2.out)
          clear hB3
          go_wp2_with fail
          go_ret
          exact ⟨by rw [HRr.out]; rfl, HB3.out⟩
      · rw [cf] at t35
        have HRr : Hid (R = false) := ⟨by rw [← HR.out]; unfold rt; simp [cf, ci, cj]⟩
        have fi : (0 : Int) ≤ i := by omega
        have fj : ¬ i < (256 : Int) := by omega
        clear cf ci cj
        go_enter Try.func17, Try.ntmps17
        go_upto_region 1 with (first | (refine wp_box rfl 40 (.tmp 0) rfl M rfl ?_; rw [Hw1.out]) | (refine wp_box rfl 27 (.tmp 1) rfl A rfl ?_; rw [Hw2.out, HS1.out, Hq.out]))
        go_wp2_with fail
        refine t35.mono ?_
        rintro e w3 ⟨rfl, rfl⟩
        clear t35
        go_wp2_with fail
        go_ret
        exact ⟨by rw [HRr.out]; rfl, HB2.out⟩
    · rw [cf] at t35
      have HRr : Hid (R = false) := ⟨by rw [← HR.out]; unfold rt; simp [cf, ci]⟩
      have fi : ¬ (0 : Int) ≤ i := by omega
      clear cf ci
      go_enter Try.func17, Try.ntmps17
      go_upto_region 1 with (first | (refine wp_box rfl 40 (.tmp 0) rfl M rfl ?_; rw [Hw1.out]) | (refine wp_box rfl 27 (.tmp 1) rfl A rfl ?_; rw [Hw2.out, HS1.out, Hq.out]))
      go_wp2_with fail
      refine t35.mono ?_
      rintro e w3 ⟨rfl, rfl⟩
      clear t35
      go_wp2_with fail
      go_ret
      exact ⟨by rw [HRr.out]; rfl, HB2.out⟩
  | false =>
    rw [cf] at t35
    have HRr : Hid (R = false) := ⟨by rw [← HR.out]; unfold rt; simp [cf]⟩
    clear cf
    go_enter Try.func17, Try.ntmps17
    go_upto_region 1 with (first | (refine wp_box rfl 40 (.tmp 0) rfl M rfl ?_; rw [Hw1.out]) | (refine wp_box rfl 27 (.tmp 1) rfl A rfl ?_; rw [Hw2.out, HS1.out, Hq.out]))
    go_wp2_with fail
    refine t35.mono ?_
    rintro e w3 ⟨rfl, rfl⟩
    clear t35
    go_wp2_with fail
    go_ret
    exact ⟨by rw [HRr.out]; rfl, HB2.out⟩
set_option maxHeartbeats 8000000 in
set_option maxRecDepth 100000 in
theorem right_b (m2 m3 m4 : Bool) (s : Int) (nm : ByteArray) (g i : Int) (ha pa ba : Option Addr) (hn hc pn pc bn bc : Nat) (H : List Hd) (P : List Pt) (hH : RdE he 2 h0 w (.slice ha hn hc) H) (hP : RdE pe 33 p0 w (.slice pa pn pc) P) (h32 : ∀ p ∈ P, p.1.length = 32) :
    Calls Try.prog 17 #[.agg (nmV (true, m2, m3, m4, true)), .agg (na s nm g i (.slice ha hn hc) (.slice pa pn pc) (.slice ba bn bc))] w fun e w' => e = .returned (.bool (rt (true, m2, m3, m4, true) nm g i H P bn)) ∧ Below w.heap.size w w' := by
  obtain ⟨w1, Hw1⟩ : ∃ x, Hid (w.alloc (.cells (nmV (true, m2, m3, m4, true)) 40) = x) := ⟨_, ⟨rfl⟩⟩
  have HB1 : Hid (Below w.heap.size w w1) := ⟨by rw [← Hw1.out]; exact (Below.refl _ w).alloc (Nat.le_refl _) _⟩
  obtain ⟨q, Hq⟩ : ∃ q, Hid (w.heap.size = q) := ⟨_, ⟨rfl⟩⟩
  have HX1 : Hid (w1.heap[q]? = some (.cells (nmV (true, m2, m3, m4, true)) 40 (0, 0))) := ⟨by rw [← Hw1.out, ← Hq.out]; exact heap_alloc_new w _⟩
  have HS1 : Hid (w1.heap.size = q + 1) := ⟨by rw [← Hw1.out, ← Hq.out]; exact Array.size_push _⟩
  obtain ⟨w2, Hw2⟩ : ∃ x, Hid (w1.alloc (.cells (na s nm g i (.slice ha hn hc) (.slice pa pn pc) (.slice ba bn bc)) 27) = x) := ⟨_, ⟨rfl⟩⟩
  have HB2 : Hid (Below w.heap.size w w2) := ⟨by rw [← Hw2.out]; exact HB1.out.alloc HB1.out.size _⟩
  have HX2 : Hid (w2.heap[q]? = some (.cells (nmV (true, m2, m3, m4, true)) 40 (0, 0))) := ⟨by rw [← Hw2.out]; rw [heap_alloc_old (h := by rw [HS1.out]; omega)]; exact HX1.out⟩
  have HY2 : Hid (w2.heap[q + 1]? = some (.cells (na s nm g i (.slice ha hn hc) (.slice pa pn pc) (.slice ba bn bc)) 27 (0, 0))) := ⟨by rw [← Hw2.out, ← HS1.out]; exact heap_alloc_new w1 _⟩
  have a0 : w2.cell? ⟨q, 0, none⟩ = some (.bool true) := by rw [cell_of_row _ _ _ _ _ _ HX2.out]; rfl
  have b1 : w2.cell? ⟨q + 1, 1, none⟩ = some (.string nm) := by rw [cell_of_row _ _ _ _ _ _ HY2.out]; rfl
  have b2 : w2.cell? ⟨q + 1, 2, none⟩ = some (.int .i64 g) := by rw [cell_of_row _ _ _ _ _ _ HY2.out]; rfl
  have b3 : w2.cell? ⟨q + 1, 3, none⟩ = some (.int .i64 i) := by rw [cell_of_row _ _ _ _ _ _ HY2.out]; rfl
  have b4 : w2.cell? ⟨q + 1, 4, none⟩ = some (.slice ha hn hc) := by rw [cell_of_row _ _ _ _ _ _ HY2.out]; rfl
  have b5 : w2.cell? ⟨q + 1, 5, none⟩ = some (.slice pa pn pc) := by rw [cell_of_row _ _ _ _ _ _ HY2.out]; rfl
  have b6 : w2.cell? ⟨q + 1, 6, none⟩ = some (.slice ba bn bc) := by rw [cell_of_row _ _ _ _ _ _ HY2.out]; rfl
  have HHx : Hid (∀ wx, Below w.heap.size w wx → RdE he 2 h0 wx (.slice ha hn hc) H) := ⟨fun wx h => hH.far (Chg.ofBelow (X := []) h) (by simp)⟩
  have HPx : Hid (∀ wx, Below w.heap.size w wx → RdE pe 33 p0 wx (.slice pa pn pc) P) := ⟨fun wx h => hP.far (Chg.ofBelow (X := []) h) (by simp)⟩
  have HHx2 := HHx.out w2 HB2.out
  have t35 := file35 (w := w2) nm g
  have t36 := fun W : World => fun h : RdE he 2 h0 W (.slice ha hn hc) H => each36 (w := W) _ H h
  have t38 := fun W : World => fun h : RdE pe 33 p0 W (.slice pa pn pc) P => each38 (w := W) _ P h h32
  obtain ⟨A, HA⟩ : ∃ x, Hid (na s nm g i (.slice ha hn hc) (.slice pa pn pc) (.slice ba bn bc) = x) := ⟨_, ⟨rfl⟩⟩
  obtain ⟨M, HM⟩ : ∃ x, Hid (nmV (true, m2, m3, m4, true) = x) := ⟨_, ⟨rfl⟩⟩
  obtain ⟨R, HR⟩ : ∃ x, Hid (rt (true, m2, m3, m4, true) nm g i H P bn = x) := ⟨_, ⟨rfl⟩⟩
  rw [HR.out]
  rw [HA.out] at Hw2 HY2
  rw [HM.out] at Hw1 HX2
  rw [HA.out, HM.out]
  clear hH hP h32
  cases cf : flB nm g with
  | true =>
    by_cases ci : 0 ≤ i
    · by_cases cj : i < 256
      · cases ch : H.all (fun h => flB h.1 h.2) with
        | true =>
          cases cp : P.all (fun p => ptOk p.2) with
          | true =>
            by_cases cb : 0 < bn
            · rw [cf] at t35
              have HRr : Hid (R = true) := ⟨by rw [← HR.out]; unfold rt; simp [cf, ci, cj, ch, cp, cb]⟩
              rw [ch] at t36
              rw [cp] at t38
              have fi : (0 : Int) ≤ i := by omega
              have fj : i < (256 : Int) := by omega
              have fb : (0 : Int) < (bn : Int) := by omega
              have fbd : decide (0 < bn) = true := decide_eq_true cb
              clear cf ci cj ch cp cb
              go_enter Try.func17, Try.ntmps17
              go_upto_region 1 with (first | (refine wp_box rfl 40 (.tmp 0) rfl M rfl ?_; rw [Hw1.out]) | (refine wp_box rfl 27 (.tmp 1) rfl A rfl ?_; rw [Hw2.out, HS1.out, Hq.out]))
              go_wp2_with fail
              refine t35.mono ?_
              rintro e w3 ⟨rfl, rfl⟩
              clear t35
              go_wp2_with fail
              refine (t36 w2 HHx2).mono ?_
              rintro e w3 ⟨rfl, hB3⟩
              have HB3 : Hid (Below w.heap.size w w3) := ⟨HB2.out.trans (hB3.mono HB2.out.size)⟩
              have HY3 := Hid.mk (below_atN hB3 HY2.out)
              have HP3 := HPx.out w3 HB3.out
              have c4 : w3.cell? ⟨q + 1, 4, none⟩ = some (.slice ha hn hc) := by rw [cell_of_row _ _ _ _ _ _ HY3.out, ← HA.out]; rfl
              have c5 : w3.cell? ⟨q + 1, 5, none⟩ = some (.slice pa pn pc) := by rw [cell_of_row _ _ _ _ _ _ HY3.out, ← HA.out]; rfl
              have c6 : w3.cell? ⟨q + 1, 6, none⟩ = some (.slice ba bn bc) := by rw [cell_of_row _ _ _ _ _ _ HY3.out, ← HA.out]; rfl
              have c0 : w3.cell? ⟨q, 4, none⟩ = some (.bool true) := by rw [cell_of_row _ _ _ _ _ _ (below_atN hB3 HX2.out), ← HM.out]; rfl
              have HX3 := Hid.mk (below_atN hB3 HX2.out)
              clear hB3
              go_wp2_with fail
              refine (t38 w3 HP3).mono ?_
              rintro e w4 ⟨rfl, hB4⟩
              have HB4 : Hid (Below w.heap.size w w4) := ⟨HB3.out.trans (hB4.mono HB3.out.size)⟩
              have d6 : w4.cell? ⟨q + 1, 6, none⟩ = some (.slice ba bn bc) := by rw [cell_of_row _ _ _ _ _ _ (below_atN hB4 HY3.out), ← HA.out]; rfl
              have d0 : w4.cell? ⟨q, 4, none⟩ = some (.bool true) := by rw [cell_of_row _ _ _ _ _ _ (below_atN hB4 HX3.out), ← HM.out]; rfl
              clear hB4
              go_wp2_with fail
              go_ret
              exact ⟨by rw [HRr.out]; rfl, HB4.out⟩
            · rw [cf] at t35
              have HRr : Hid (R = false) := ⟨by rw [← HR.out]; unfold rt; simp [cf, ci, cj, ch, cp, cb]⟩
              rw [ch] at t36
              rw [cp] at t38
              have fi : (0 : Int) ≤ i := by omega
              have fj : i < (256 : Int) := by omega
              have fb : ¬ (0 : Int) < (bn : Int) := by omega
              have fbd : decide (0 < bn) = false := decide_eq_false cb
              clear cf ci cj ch cp cb
              go_enter Try.func17, Try.ntmps17
              go_upto_region 1 with (first | (refine wp_box rfl 40 (.tmp 0) rfl M rfl ?_; rw [Hw1.out]) | (refine wp_box rfl 27 (.tmp 1) rfl A rfl ?_; rw [Hw2.out, HS1.out, Hq.out]))
              go_wp2_with fail
              refine t35.mono ?_
              rintro e w3 ⟨rfl, rfl⟩
              clear t35
              go_wp2_with fail
              refine (t36 w2 HHx2).mono ?_
              rintro e w3 ⟨rfl, hB3⟩
              have HB3 : Hid (Below w.heap.size w w3) := ⟨HB2.out.trans (hB3.mono HB2.out.size)⟩
              have HY3 := Hid.mk (below_atN hB3 HY2.out)
              have HP3 := HPx.out w3 HB3.out
              have c4 : w3.cell? ⟨q + 1, 4, none⟩ = some (.slice ha hn hc) := by rw [cell_of_row _ _ _ _ _ _ HY3.out, ← HA.out]; rfl
              have c5 : w3.cell? ⟨q + 1, 5, none⟩ = some (.slice pa pn pc) := by rw [cell_of_row _ _ _ _ _ _ HY3.out, ← HA.out]; rfl
              have c6 : w3.cell? ⟨q + 1, 6, none⟩ = some (.slice ba bn bc) := by rw [cell_of_row _ _ _ _ _ _ HY3.out, ← HA.out]; rfl
              have c0 : w3.cell? ⟨q, 4, none⟩ = some (.bool true) := by rw [cell_of_row _ _ _ _ _ _ (below_atN hB3 HX2.out), ← HM.out]; rfl
              have HX3 := Hid.mk (below_atN hB3 HX2.out)
              clear hB3
              go_wp2_with fail
              refine (t38 w3 HP3).mono ?_
              rintro e w4 ⟨rfl, hB4⟩
              have HB4 : Hid (Below w.heap.size w w4) := ⟨HB3.out.trans (hB4.mono HB3.out.size)⟩
              have d6 : w4.cell? ⟨q + 1, 6, none⟩ = some (.slice ba bn bc) := by rw [cell_of_row _ _ _ _ _ _ (below_atN hB4 HY3.out), ← HA.out]; rfl
              have d0 : w4.cell? ⟨q, 4, none⟩ = some (.bool true) := by rw [cell_of_row _ _ _ _ _ _ (below_atN hB4 HX3.out), ← HM.out]; rfl
              clear hB4
              go_wp2_with fail
              go_ret
              exact ⟨by rw [HRr.out]; rfl, HB4.out⟩
          | false =>
            rw [cf] at t35
            have HRr : Hid (R = false) := ⟨by rw [← HR.out]; unfold rt; simp [cf, ci, cj, ch, cp]⟩
            rw [ch] at t36
            rw [cp] at t38
            have fi : (0 : Int) ≤ i := by omega
            have fj : i < (256 : Int) := by omega
            clear cf ci cj ch cp
            go_enter Try.func17, Try.ntmps17
            go_upto_region 1 with (first | (refine wp_box rfl 40 (.tmp 0) rfl M rfl ?_; rw [Hw1.out]) | (refine wp_box rfl 27 (.tmp 1) rfl A rfl ?_; rw [Hw2.out, HS1.out, Hq.out]))
            go_wp2_with fail
            refine t35.mono ?_
            rintro e w3 ⟨rfl, rfl⟩
            clear t35
            go_wp2_with fail
            refine (t36 w2 HHx2).mono ?_
            rintro e w3 ⟨rfl, hB3⟩
            have HB3 : Hid (Below w.heap.size w w3) := ⟨HB2.out.trans (hB3.mono HB2.out.size)⟩
            have HY3 := Hid.mk (below_atN hB3 HY2.out)
            have HP3 := HPx.out w3 HB3.out
            have c4 : w3.cell? ⟨q + 1, 4, none⟩ = some (.slice ha hn hc) := by rw [cell_of_row _ _ _ _ _ _ HY3.out, ← HA.out]; rfl
            have c5 : w3.cell? ⟨q + 1, 5, none⟩ = some (.slice pa pn pc) := by rw [cell_of_row _ _ _ _ _ _ HY3.out, ← HA.out]; rfl
            have c6 : w3.cell? ⟨q + 1, 6, none⟩ = some (.slice ba bn bc) := by rw [cell_of_row _ _ _ _ _ _ HY3.out, ← HA.out]; rfl
            have c0 : w3.cell? ⟨q, 4, none⟩ = some (.bool true) := by rw [cell_of_row _ _ _ _ _ _ (below_atN hB3 HX2.out), ← HM.out]; rfl
            have HX3 := Hid.mk (below_atN hB3 HX2.out)
            clear hB3
            go_wp2_with fail
            refine (t38 w3 HP3).mono ?_
            rintro e w4 ⟨rfl, hB4⟩
            have HB4 : Hid (Below w.heap.size w w4) := ⟨HB3.out.trans (hB4.mono HB3.out.size)⟩
            have d6 : w4.cell? ⟨q + 1, 6, none⟩ = some (.slice ba bn bc) := by rw [cell_of_row _ _ _ _ _ _ (below_atN hB4 HY3.out), ← HA.out]; rfl
            have d0 : w4.cell? ⟨q, 4, none⟩ = some (.bool true) := by rw [cell_of_row _ _ _ _ _ _ (below_atN hB4 HX3.out), ← HM.out]; rfl
            clear hB4
            go_wp2_with fail
            go_ret
            exact ⟨by rw [HRr.out]; rfl, HB4.out⟩
        | false =>
          rw [cf] at t35
          have HRr : Hid (R = false) := ⟨by rw [← HR.out]; unfold rt; simp [cf, ci, cj, ch]⟩
          rw [ch] at t36
          have fi : (0 : Int) ≤ i := by omega
          have fj : i < (256 : Int) := by omega
          clear cf ci cj ch
          go_enter Try.func17, Try.ntmps17
          go_upto_region 1 with (first | (refine wp_box rfl 40 (.tmp 0) rfl M rfl ?_; rw [Hw1.out]) | (refine wp_box rfl 27 (.tmp 1) rfl A rfl ?_; rw [Hw2.out, HS1.out, Hq.out]))
          go_wp2_with fail
          refine t35.mono ?_
          rintro e w3 ⟨rfl, rfl⟩
          clear t35
          go_wp2_with fail
          refine (t36 w2 HHx2).mono ?_
          rintro e w3 ⟨rfl, hB3⟩
          have HB3 : Hid (Below w.heap.size w w3) := ⟨HB2.out.trans (hB3.mono HB2.out.size)⟩
          have HY3 := Hid.mk (below_atN hB3 HY2.out)
          have HP3 := HPx.out w3 HB3.out
          have c4 : w3.cell? ⟨q + 1, 4, none⟩ = some (.slice ha hn hc) := by rw [cell_of_row _ _ _ _ _ _ HY3.out, ← HA.out]; rfl
          have c5 : w3.cell? ⟨q + 1, 5, none⟩ = some (.slice pa pn pc) := by rw [cell_of_row _ _ _ _ _ _ HY3.out, ← HA.out]; rfl
          have c6 : w3.cell? ⟨q + 1, 6, none⟩ = some (.slice ba bn bc) := by rw [cell_of_row _ _ _ _ _ _ HY3.out, ← HA.out]; rfl
          have c0 : w3.cell? ⟨q, 4, none⟩ = some (.bool true) := by rw [cell_of_row _ _ _ _ _ _ (below_atN hB3 HX2.out), ← HM.out]; rfl
          have HX3 := Hid.mk (below_atN hB3 HX2.out)
          clear hB3
          go_wp2_with fail
          go_ret
          exact ⟨by rw [HRr.out]; rfl, HB3.out⟩
      · rw [cf] at t35
        have HRr : Hid (R = false) := ⟨by rw [← HR.out]; unfold rt; simp [cf, ci, cj]⟩
        have fi : (0 : Int) ≤ i := by omega
        have fj : ¬ i < (256 : Int) := by omega
        clear cf ci cj
        go_enter Try.func17, Try.ntmps17
        go_upto_region 1 with (first | (refine wp_box rfl 40 (.tmp 0) rfl M rfl ?_; rw [Hw1.out]) | (refine wp_box rfl 27 (.tmp 1) rfl A rfl ?_; rw [Hw2.out, HS1.out, Hq.out]))
        go_wp2_with fail
        refine t35.mono ?_
        rintro e w3 ⟨rfl, rfl⟩
        clear t35
        go_wp2_with fail
        go_ret
        exact ⟨by rw [HRr.out]; rfl, HB2.out⟩
    · rw [cf] at t35
      have HRr : Hid (R = false) := ⟨by rw [← HR.out]; unfold rt; simp [cf, ci]⟩
      have fi : ¬ (0 : Int) ≤ i := by omega
      clear cf ci
      go_enter Try.func17, Try.ntmps17
      go_upto_region 1 with (first | (refine wp_box rfl 40 (.tmp 0) rfl M rfl ?_; rw [Hw1.out]) | (refine wp_box rfl 27 (.tmp 1) rfl A rfl ?_; rw [Hw2.out, HS1.out, Hq.out]))
      go_wp2_with fail
      refine t35.mono ?_
      rintro e w3 ⟨rfl, rfl⟩
      clear t35
      go_wp2_with fail
      go_ret
      exact ⟨by rw [HRr.out]; rfl, HB2.out⟩
  | false =>
    rw [cf] at t35
    have HRr : Hid (R = false) := ⟨by rw [← HR.out]; unfold rt; simp [cf]⟩
    clear cf
    go_enter Try.func17, Try.ntmps17
    go_upto_region 1 with (first | (refine wp_box rfl 40 (.tmp 0) rfl M rfl ?_; rw [Hw1.out]) | (refine wp_box rfl 27 (.tmp 1) rfl A rfl ?_; rw [Hw2.out, HS1.out, Hq.out]))
    go_wp2_with fail
    refine t35.mono ?_
    rintro e w3 ⟨rfl, rfl⟩
    clear t35
    go_wp2_with fail
    go_ret
    exact ⟨by rw [HRr.out]; rfl, HB2.out⟩
end
end Go.Proofs.Ythohpbppfihoiaa
