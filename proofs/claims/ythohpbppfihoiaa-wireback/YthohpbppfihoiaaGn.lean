/- Texts joined into one: N71, N72, N73, N74, N75, N76, N77. -/
import Derived.Test.YthohpbppfihoiaaN6
/- The document's Check of a note whose kind is 1. -/
namespace Go.Proofs.Ythohpbppfihoiaa
open Go.RowKit Oct

section
variable {w : World}
set_option maxHeartbeats 16000000 in
set_option maxRecDepth 100000 in
theorem rcheck_1 (nm : ByteArray) (g i : Int) (ha pa ba : Option Addr) (hn hc pn pc bn bc : Nat) (H : List Hd) (P : List Pt) (hH : RdE he 2 h0 w (.slice ha hn hc) H) (hHn : H.length = hn) (hP : RdE pe 33 p0 w (.slice pa pn pc) P) (hPn : P.length = pn) :
    Calls Try.prog 9 #[.agg (na 1 nm g i (.slice ha hn hc) (.slice pa pn pc) (.slice ba bn bc))] w fun e w' => e = .returned (.int .i64 (chk 1 nm g i H P bn)) ∧ Below w.heap.size w w' := by
  obtain ⟨Z, HZ⟩ : ∃ x, Hid (chk 1 nm g i H P bn = x) := ⟨_, ⟨rfl⟩⟩
  have HZd : Hid (Z = if al (false, false, false, false, false) nm g i hn pn bn = false then 4 else if 64 < hn ∨ 256 < pn ∨ 512 < bn then 6 else if rt (false, false, false, false, false) nm g i H P bn = false then 2 else 0) := ⟨by
    rw [← HZ.out, ← hHn, ← hPn]
    unfold chk
    rw [if_neg (by decide)]
    rfl⟩
  rw [HZ.out]
  clear HZ
  obtain ⟨q, Hq⟩ : ∃ q, Hid (w.heap.size = q) := ⟨_, ⟨rfl⟩⟩
  obtain ⟨A, HA⟩ : ∃ x, Hid (na 1 nm g i (.slice ha hn hc) (.slice pa pn pc) (.slice ba bn bc) = x) := ⟨_, ⟨rfl⟩⟩
  obtain ⟨w1, Hw1⟩ : ∃ x, Hid (w.alloc (.cells A 27) = x) := ⟨_, ⟨rfl⟩⟩
  have HB1 : Hid (Below w.heap.size w w1) := ⟨by rw [← Hw1.out]; exact (Below.refl _ w).alloc (Nat.le_refl _) _⟩
  have HX1 : Hid (w1.heap[q]? = some (.cells A 27 (0, 0))) := ⟨by rw [← Hw1.out, ← Hq.out]; exact heap_alloc_new w _⟩
  have a0 : w1.cell? ⟨q, 0, none⟩ = some (.int .i64 1) := by rw [cell_of_row _ _ _ _ _ _ HX1.out, ← HA.out]; rfl
  have a1 : w1.cell? ⟨q, 1, none⟩ = some (.string nm) := by rw [cell_of_row _ _ _ _ _ _ HX1.out, ← HA.out]; rfl
  have a2 : w1.cell? ⟨q, 2, none⟩ = some (.int .i64 g) := by rw [cell_of_row _ _ _ _ _ _ HX1.out, ← HA.out]; rfl
  have a3 : w1.cell? ⟨q, 3, none⟩ = some (.int .i64 i) := by rw [cell_of_row _ _ _ _ _ _ HX1.out, ← HA.out]; rfl
  have a4 : w1.cell? ⟨q, 4, none⟩ = some (.slice ha hn hc) := by rw [cell_of_row _ _ _ _ _ _ HX1.out, ← HA.out]; rfl
  have a5 : w1.cell? ⟨q, 5, none⟩ = some (.slice pa pn pc) := by rw [cell_of_row _ _ _ _ _ _ HX1.out, ← HA.out]; rfl
  have a6 : w1.cell? ⟨q, 6, none⟩ = some (.slice ba bn bc) := by rw [cell_of_row _ _ _ _ _ _ HX1.out, ← HA.out]; rfl
  have HHx : Hid (∀ wx, Below w.heap.size w wx → RdE he 2 h0 wx (.slice ha hn hc) H) := ⟨fun wx h => hH.far (Chg.ofBelow (X := []) h) (by simp)⟩
  have HPx : Hid (∀ wx, Below w.heap.size w wx → RdE pe 33 p0 wx (.slice pa pn pc) P) := ⟨fun wx h => hP.far (Chg.ofBelow (X := []) h) (by simp)⟩
  have t18 : ∀ W : World, Calls Try.prog 18 #[.int .i64 1] W fun e w' => e = .returned (.bool false) ∧ W = w' := fun W => hasFile18 (w := W) 1
  have t19 : ∀ W : World, Calls Try.prog 19 #[.int .i64 1] W fun e w' => e = .returned (.bool false) ∧ W = w' := fun W => hasI19 (w := W) 1
  rw [HA.out]
  clear hH hP
  by_cases ce : nm.size = 0
  · by_cases cg : g = 0
    · by_cases ci : i = 0
      · by_cases ch : hn = 0
        · by_cases cp : pn = 0
          · by_cases cb : bn = 0
            · have HE : H = [] := List.length_eq_zero_iff.1 (hHn.trans ch)
              have PE : P = [] := List.length_eq_zero_iff.1 (hPn.trans cp)
              have HR : Hid (Z = 0) := ⟨by rw [HZd.out, if_neg (by unfold al; simp [ce, cg, ci, ch, cp, cb]), if_neg (by omega), if_neg (by unfold rt; simp [HE, PE, ci])]⟩
              have fe : decide (0 < nm.size) = false := decide_eq_false (by omega)
              have fg : (g != 0) = false := by simp [cg]
              have fi : (i != 0) = false := by simp [ci]
              have fh : decide (0 < hn) = false := by simp; omega
              have fp : decide (0 < pn) = false := by simp; omega
              have fb : decide (0 < bn) = false := by simp; omega
              have lh : decide ((64 : Int) < (hn : Int)) = false := decide_eq_false (by omega)
              have lp : decide ((256 : Int) < (pn : Int)) = false := decide_eq_false (by omega)
              have lb : decide ((512 : Int) < (bn : Int)) = false := decide_eq_false (by omega)
              have fi2 : i = 0 := ci
              clear HZd ce cg ch cp cb
              go_enter Try.func9, Try.ntmps9
              go_upto_region 1 with (refine wp_box rfl 27 (.tmp 0) rfl A rfl ?_; rw [Hw1.out, Hq.out])
              go_wp2_with fail
              refine (t18 _).mono ?_
              rintro e w' ⟨rfl, rfl⟩
              go_wp2_with fail
              refine (t19 _).mono ?_
              rintro e w' ⟨rfl, rfl⟩
              go_wp2_with fail
              refine (t18 _).mono ?_
              rintro e w' ⟨rfl, rfl⟩
              go_wp2_with fail
              go_loop [4] (fun i => i = .int .i64 0) (fun _ => 0)
              case atStart => rfl
              case round =>
                obtain rfl := hrel
                go_wp2_with fail
                go_loop [5] (fun i => i = .int .i64 0) (fun _ => 0)
                case atStart => rfl
                case round =>
                  obtain rfl := hrel
                  go_wp2_with fail
                  go_ret
                  exact ⟨by rw [HR.out]; rfl, HB1.out⟩
            · have HR : Hid (Z = 4) := ⟨by rw [HZd.out, if_pos (by unfold al; simp [ce, cg, ci, ch, cp, cb])]⟩
              have fe : decide (0 < nm.size) = false := decide_eq_false (by omega)
              have fg : (g != 0) = false := by simp [cg]
              have fi : (i != 0) = false := by simp [ci]
              have fh : decide (0 < hn) = false := by simp; omega
              have fp : decide (0 < pn) = false := by simp; omega
              have fb : decide (0 < bn) = true := by simp; omega
              clear HZd ce cg ci ch cp cb
              go_enter Try.func9, Try.ntmps9
              go_upto_region 1 with (refine wp_box rfl 27 (.tmp 0) rfl A rfl ?_; rw [Hw1.out, Hq.out])
              go_wp2_with fail
              refine (t18 _).mono ?_
              rintro e w' ⟨rfl, rfl⟩
              go_wp2_with fail
              refine (t19 _).mono ?_
              rintro e w' ⟨rfl, rfl⟩
              go_wp2_with fail
              go_ret
              exact ⟨by rw [HR.out]; rfl, HB1.out⟩
          · have HR : Hid (Z = 4) := ⟨by rw [HZd.out, if_pos (by unfold al; simp [ce, cg, ci, ch, cp])]⟩
            have fe : decide (0 < nm.size) = false := decide_eq_false (by omega)
            have fg : (g != 0) = false := by simp [cg]
            have fi : (i != 0) = false := by simp [ci]
            have fh : decide (0 < hn) = false := by simp; omega
            have fp : decide (0 < pn) = true := by simp; omega
            clear HZd ce cg ci ch cp
            go_enter Try.func9, Try.ntmps9
            go_upto_region 1 with (refine wp_box rfl 27 (.tmp 0) rfl A rfl ?_; rw [Hw1.out, Hq.out])
            go_wp2_with fail
            refine (t18 _).mono ?_
            rintro e w' ⟨rfl, rfl⟩
            go_wp2_with fail
            refine (t19 _).mono ?_
            rintro e w' ⟨rfl, rfl⟩
            go_wp2_with fail
            go_ret
            exact ⟨by rw [HR.out]; rfl, HB1.out⟩
        · have HR : Hid (Z = 4) := ⟨by rw [HZd.out, if_pos (by unfold al; simp [ce, cg, ci, ch])]⟩
          have fe : decide (0 < nm.size) = false := decide_eq_false (by omega)
          have fg : (g != 0) = false := by simp [cg]
          have fi : (i != 0) = false := by simp [ci]
          have fh : decide (0 < hn) = true := by simp; omega
          clear HZd ce cg ci ch
          go_enter Try.func9, Try.ntmps9
          go_upto_region 1 with (refine wp_box rfl 27 (.tmp 0) rfl A rfl ?_; rw [Hw1.out, Hq.out])
          go_wp2_with fail
          refine (t18 _).mono ?_
          rintro e w' ⟨rfl, rfl⟩
          go_wp2_with fail
          refine (t19 _).mono ?_
          rintro e w' ⟨rfl, rfl⟩
          go_wp2_with fail
          go_ret
          exact ⟨by rw [HR.out]; rfl, HB1.out⟩
      · have HR : Hid (Z = 4) := ⟨by rw [HZd.out, if_pos (by unfold al; simp [ce, cg, ci])]⟩
        have fe : decide (0 < nm.size) = false := decide_eq_false (by omega)
        have fg : (g != 0) = false := by simp [cg]
        have fi : (i != 0) = true := by simp; omega
        clear HZd ce cg ci
        go_enter Try.func9, Try.ntmps9
        go_upto_region 1 with (refine wp_box rfl 27 (.tmp 0) rfl A rfl ?_; rw [Hw1.out, Hq.out])
        go_wp2_with fail
        refine (t18 _).mono ?_
        rintro e w' ⟨rfl, rfl⟩
        go_wp2_with fail
        refine (t19 _).mono ?_
        rintro e w' ⟨rfl, rfl⟩
        go_wp2_with fail
        go_ret
        exact ⟨by rw [HR.out]; rfl, HB1.out⟩
    · have HR : Hid (Z = 4) := ⟨by rw [HZd.out, if_pos (by unfold al; simp [ce, cg])]⟩
      have fe : decide (0 < nm.size) = false := decide_eq_false (by omega)
      have fg : (g != 0) = true := by simp; omega
      clear HZd ce cg
      go_enter Try.func9, Try.ntmps9
      go_upto_region 1 with (refine wp_box rfl 27 (.tmp 0) rfl A rfl ?_; rw [Hw1.out, Hq.out])
      go_wp2_with fail
      refine (t18 _).mono ?_
      rintro e w' ⟨rfl, rfl⟩
      go_wp2_with fail
      go_ret
      exact ⟨by rw [HR.out]; rfl, HB1.out⟩
  · have HR : Hid (Z = 4) := ⟨by rw [HZd.out, if_pos (by unfold al; simp [ce])]⟩
    have fe : decide (0 < nm.size) = true := decide_eq_true (by omega)
    clear HZd ce
    go_enter Try.func9, Try.ntmps9
    go_upto_region 1 with (refine wp_box rfl 27 (.tmp 0) rfl A rfl ?_; rw [Hw1.out, Hq.out])
    go_wp2_with fail
    refine (t18 _).mono ?_
    rintro e w' ⟨rfl, rfl⟩
    go_wp2_with fail
    go_ret
    exact ⟨by rw [HR.out]; rfl, HB1.out⟩
end
end Go.Proofs.Ythohpbppfihoiaa

/- The document's Check of a note whose kind is 2. -/
namespace Go.Proofs.Ythohpbppfihoiaa
open Go.RowKit Oct

theorem below_drewN {B : Nat} {w w' : World} (h : Below B w w') (n : Nat) : Below B w (w'.drewN n) := ⟨h.os, h.tape, h.output, h.size, h.block⟩
section
variable {w : World}
set_option maxHeartbeats 16000000 in
set_option maxRecDepth 100000 in
theorem rcheck_2 (nm : ByteArray) (g i : Int) (ha pa ba : Option Addr) (hn hc pn pc bn bc : Nat) (H : List Hd) (P : List Pt) (hH : RdE he 2 h0 w (.slice ha hn hc) H) (hHn : H.length = hn) (hP : RdE pe 33 p0 w (.slice pa pn pc) P) (hPn : P.length = pn) :
    Calls Try.prog 9 #[.agg (na 2 nm g i (.slice ha hn hc) (.slice pa pn pc) (.slice ba bn bc))] w fun e w' => e = .returned (.int .i64 (chk 2 nm g i H P bn)) ∧ Below w.heap.size w w' := by
  obtain ⟨Z, HZ⟩ : ∃ x, Hid (chk 2 nm g i H P bn = x) := ⟨_, ⟨rfl⟩⟩
  have HZd : Hid (Z = if al (false, false, true, false, false) nm g i hn pn bn = false then 4 else if 64 < hn ∨ 256 < pn ∨ 512 < bn then 6 else if rt (false, false, true, false, false) nm g i H P bn = false then 2 else 0) := ⟨by
    rw [← HZ.out, ← hHn, ← hPn]
    unfold chk
    rw [if_neg (by decide)]
    rfl⟩
  rw [HZ.out]
  clear HZ
  obtain ⟨q, Hq⟩ : ∃ q, Hid (w.heap.size = q) := ⟨_, ⟨rfl⟩⟩
  obtain ⟨A, HA⟩ : ∃ x, Hid (na 2 nm g i (.slice ha hn hc) (.slice pa pn pc) (.slice ba bn bc) = x) := ⟨_, ⟨rfl⟩⟩
  obtain ⟨w1, Hw1⟩ : ∃ x, Hid (w.alloc (.cells A 27) = x) := ⟨_, ⟨rfl⟩⟩
  have HB1 : Hid (Below w.heap.size w w1) := ⟨by rw [← Hw1.out]; exact (Below.refl _ w).alloc (Nat.le_refl _) _⟩
  have HX1 : Hid (w1.heap[q]? = some (.cells A 27 (0, 0))) := ⟨by rw [← Hw1.out, ← Hq.out]; exact heap_alloc_new w _⟩
  have a0 : w1.cell? ⟨q, 0, none⟩ = some (.int .i64 2) := by rw [cell_of_row _ _ _ _ _ _ HX1.out, ← HA.out]; rfl
  have a1 : w1.cell? ⟨q, 1, none⟩ = some (.string nm) := by rw [cell_of_row _ _ _ _ _ _ HX1.out, ← HA.out]; rfl
  have a2 : w1.cell? ⟨q, 2, none⟩ = some (.int .i64 g) := by rw [cell_of_row _ _ _ _ _ _ HX1.out, ← HA.out]; rfl
  have a3 : w1.cell? ⟨q, 3, none⟩ = some (.int .i64 i) := by rw [cell_of_row _ _ _ _ _ _ HX1.out, ← HA.out]; rfl
  have a4 : w1.cell? ⟨q, 4, none⟩ = some (.slice ha hn hc) := by rw [cell_of_row _ _ _ _ _ _ HX1.out, ← HA.out]; rfl
  have a5 : w1.cell? ⟨q, 5, none⟩ = some (.slice pa pn pc) := by rw [cell_of_row _ _ _ _ _ _ HX1.out, ← HA.out]; rfl
  have a6 : w1.cell? ⟨q, 6, none⟩ = some (.slice ba bn bc) := by rw [cell_of_row _ _ _ _ _ _ HX1.out, ← HA.out]; rfl
  have HHx : Hid (∀ wx, Below w.heap.size w wx → RdE he 2 h0 wx (.slice ha hn hc) H) := ⟨fun wx h => hH.far (Chg.ofBelow (X := []) h) (by simp)⟩
  have HPx : Hid (∀ wx, Below w.heap.size w wx → RdE pe 33 p0 wx (.slice pa pn pc) P) := ⟨fun wx h => hP.far (Chg.ofBelow (X := []) h) (by simp)⟩
  have t18 : ∀ W : World, Calls Try.prog 18 #[.int .i64 2] W fun e w' => e = .returned (.bool false) ∧ W = w' := fun W => hasFile18 (w := W) 2
  have t19 : ∀ W : World, Calls Try.prog 19 #[.int .i64 2] W fun e w' => e = .returned (.bool false) ∧ W = w' := fun W => hasI19 (w := W) 2
  rw [HA.out]
  clear hH hP
  by_cases ce : nm.size = 0
  · by_cases cg : g = 0
    · by_cases ci : i = 0
      · by_cases cp : pn = 0
        · by_cases cb : bn = 0
          · have PE : P = [] := List.length_eq_zero_iff.1 (hPn.trans cp)
            by_cases cl : 64 < hn
            · have HR : Hid (Z = 6) := ⟨by rw [HZd.out, if_neg (by unfold al; simp [ce, cg, ci, cp, cb]), if_pos (by omega)]⟩
              have fe : decide (0 < nm.size) = false := decide_eq_false (by omega)
              have fg : (g != 0) = false := by simp [cg]
              have fi : (i != 0) = false := by simp [ci]
              have fp : decide (0 < pn) = false := by simp; omega
              have fb : decide (0 < bn) = false := by simp; omega
              have lp : decide ((256 : Int) < (pn : Int)) = false := decide_eq_false (by omega)
              have lb : decide ((512 : Int) < (bn : Int)) = false := decide_eq_false (by omega)
              have fi2 : i = 0 := ci
              have lh : decide ((64 : Int) < (hn : Int)) = true := decide_eq_true (by omega)
              clear HZd ce cg cp cb cl
              go_enter Try.func9, Try.ntmps9
              go_upto_region 1 with (refine wp_box rfl 27 (.tmp 0) rfl A rfl ?_; rw [Hw1.out, Hq.out])
              go_wp2_with fail
              refine (t18 _).mono ?_
              rintro e w' ⟨rfl, rfl⟩
              go_wp2_with fail
              refine (t19 _).mono ?_
              rintro e w' ⟨rfl, rfl⟩
              go_wp2_with fail
              go_ret
              exact ⟨by rw [HR.out]; rfl, HB1.out⟩
            · have HB0 : rt (false, false, true, false, false) nm g i H P bn = H.all (fun h => flB h.1 h.2) := by unfold rt; simp [PE, ci]
              have HR : Hid (Z = if H.all (fun h => flB h.1 h.2) = false then 2 else 0) := ⟨by rw [HZd.out, if_neg (by unfold al; simp [ce, cg, ci, cp, cb]), if_neg (by omega), HB0]⟩
              have fe : decide (0 < nm.size) = false := decide_eq_false (by omega)
              have fg : (g != 0) = false := by simp [cg]
              have fi : (i != 0) = false := by simp [ci]
              have fp : decide (0 < pn) = false := by simp; omega
              have fb : decide (0 < bn) = false := by simp; omega
              have lp : decide ((256 : Int) < (pn : Int)) = false := decide_eq_false (by omega)
              have lb : decide ((512 : Int) < (bn : Int)) = false := decide_eq_false (by omega)
              have fi2 : i = 0 := ci
              have lh : decide ((64 : Int) < (hn : Int)) = false := decide_eq_false (by omega)
              clear HB0 HZd ce cg cp cb cl
              go_enter Try.func9, Try.ntmps9
              go_upto_region 1 with (refine wp_box rfl 27 (.tmp 0) rfl A rfl ?_; rw [Hw1.out, Hq.out])
              go_wp2_with fail
              refine (t18 _).mono ?_
              rintro e w' ⟨rfl, rfl⟩
              go_wp2_with fail
              refine (t19 _).mono ?_
              rintro e w' ⟨rfl, rfl⟩
              go_wp2_with fail
              refine (t18 _).mono ?_
              rintro e w' ⟨rfl, rfl⟩
              go_wp2_with fail
              go_loopg [4] hn (fun gg s4 wr => ∃ k : Nat, k ≤ hn ∧ hn - k ≤ gg ∧ s4 = .int .i64 (k : Int) ∧ Hid ((H.take k).all (fun h => flB h.1 h.2) = true) ∧ Hid (Below w1.heap.size w1 wr))
              case atStart => exact ⟨0, Nat.zero_le _, by omega, rfl, ⟨by rw [List.take_zero]; rfl⟩, ⟨Below.refl _ _⟩⟩
              case round =>
                obtain ⟨k, hk, hgg, rfl, HK, HBl⟩ := hrel
                rename World => wo
                have HXo := Hid.mk (below_atN HBl.out HX1.out)
                have HBo : Hid (Below w.heap.size w wo) := ⟨HB1.out.trans (HBl.out.mono HB1.out.size)⟩
                have b4 : wo.cell? ⟨q, 4, none⟩ = some (.slice ha hn hc) := by rw [cell_of_row _ _ _ _ _ _ HXo.out, ← HA.out]; rfl
                have b5 : wo.cell? ⟨q, 5, none⟩ = some (.slice pa pn pc) := by rw [cell_of_row _ _ _ _ _ _ HXo.out, ← HA.out]; rfl
                by_cases hlt : k < hn
                · have hltz : (k : Int) < (hn : Int) := by omega
                  have hiL : k < H.length := by rw [hHn]; exact hlt
                  have HRo := Hid.mk (HHx.out wo HBo.out)
                  obtain ⟨g0, off, c', e, hat⟩ := HRo.out.at' k hiL
                  rw [hHn] at e
                  simp only [Value.slice.injEq] at e
                  obtain ⟨rfl, -, rfl⟩ := e
                  have hmem := getD_mem' (d := h0) hiL
                  have hcm : hc ≤ 9223372036854775807 := by
                    obtain ⟨_, _, e, _, h2, _⟩ := HRo.out.shape
                    simp only [Value.slice.injEq] at e
                    rw [e.2.2]; exact h2
                  have hcn : hn ≤ hc := by
                    obtain ⟨_, _, e, h2, _, _⟩ := HRo.out.shape
                    simp only [Value.slice.injEq] at e
                    rw [e.2.2, ← hHn]; exact h2
                  have hL : (H.take (k + 1)).all (fun h => flB h.1 h.2) = flB (H.getD k h0).1 (H.getD k h0).2 := by
                    rw [List.take_add_one, List.getElem?_eq_getElem hiL]
                    simp only [Option.toList_some, List.all_append, HK.out, Bool.true_and, List.all_cons, List.all_nil, Bool.and_true]
                    simp [List.getD, List.getElem?_eq_getElem hiL]
                  obtain ⟨x, hx⟩ : ∃ x, H.getD k h0 = x := ⟨_, rfl⟩
                  rw [hx] at hat hmem hL
                  obtain ⟨x1, y⟩ := x
                  have c0 : wo.cell? ⟨g0, off + k * 2, none⟩ = some (.string x1) := by have := hat 0 (by decide); simpa [he] using this
                  have c1 : wo.cell? ⟨g0, off + k * 2 + 1, none⟩ = some (.int .i64 y) := by have := hat 1 (by decide); simpa [he] using this
                  have HL := Hid.mk hL
                  have HM := Hid.mk hmem
                  clear hat hx hL hmem hiL
                  cases hok : flB x1 y with
                  | false =>
                    have HR2 : Hid (Z = 2) := ⟨by rw [HR.out, if_pos]; exact List.all_eq_false.2 ⟨(x1, y), HM.out, by simp [hok]⟩⟩
                    have t20 : ∀ W : World, Calls Try.prog 20 #[.string x1, .int .i64 y] W fun e w' => e = .returned (.bool false) ∧ w' = W := fun W => (rfile20 (w := W) x1 y).mono fun e w' h => ⟨by rw [h.1, hok], h.2.symm⟩
                    clear hok
                    go_upto_region 13 with fail
                    go_quiet ((go_at_call 20; exact Calls.quiet_of_same (t20 _)))
                    go_wp2_with fail
                    go_ret
                    exact ⟨by rw [HR2.out]; rfl, below_drewN HBo.out nq⟩
                  | true =>
                    have HK2 : Hid ((H.take (k + 1)).all (fun h => flB h.1 h.2) = true) := ⟨by rw [HL.out]; exact hok⟩
                    have t20 : ∀ W : World, Calls Try.prog 20 #[.string x1, .int .i64 y] W fun e w' => e = .returned (.bool true) ∧ w' = W := fun W => (rfile20 (w := W) x1 y).mono fun e w' h => ⟨by rw [h.1, hok], h.2.symm⟩
                    clear hok
                    go_upto_region 13 with fail
                    go_quiet ((go_at_call 20; exact Calls.quiet_of_same (t20 _)))
                    go_wp2_with fail
                    go_roundg (hn - (k + 1))
                    case measure => omega
                    case rel => exact ⟨k + 1, by omega, by omega, by go_num, HK2, ⟨below_drewN HBl.out nq⟩⟩
                · have HR2 : Hid (Z = 0) := ⟨by
                    have h := HK.out
                    rw [List.take_of_length_le (by omega)] at h
                    rw [HR.out, h]
                    rfl⟩
                  have hltz : ¬ (k : Int) < (hn : Int) := by omega
                  go_wp2_with fail
                  go_loop [5] (fun i => i = .int .i64 0) (fun _ => 0)
                  case atStart => rfl
                  case round =>
                    obtain rfl := hrel
                    go_wp2_with fail
                    go_ret
                    exact ⟨by rw [HR2.out]; rfl, HBo.out⟩
          · have HR : Hid (Z = 4) := ⟨by rw [HZd.out, if_pos (by unfold al; simp [ce, cg, ci, cp, cb])]⟩
            have fe : decide (0 < nm.size) = false := decide_eq_false (by omega)
            have fg : (g != 0) = false := by simp [cg]
            have fi : (i != 0) = false := by simp [ci]
            have fp : decide (0 < pn) = false := by simp; omega
            have fb : decide (0 < bn) = true := by simp; omega
            clear HZd ce cg ci cp cb
            go_enter Try.func9, Try.ntmps9
            go_upto_region 1 with (refine wp_box rfl 27 (.tmp 0) rfl A rfl ?_; rw [Hw1.out, Hq.out])
            go_wp2_with fail
            refine (t18 _).mono ?_
            rintro e w' ⟨rfl, rfl⟩
            go_wp2_with fail
            refine (t19 _).mono ?_
            rintro e w' ⟨rfl, rfl⟩
            go_wp2_with fail
            go_ret
            exact ⟨by rw [HR.out]; rfl, HB1.out⟩
        · have HR : Hid (Z = 4) := ⟨by rw [HZd.out, if_pos (by unfold al; simp [ce, cg, ci, cp])]⟩
          have fe : decide (0 < nm.size) = false := decide_eq_false (by omega)
          have fg : (g != 0) = false := by simp [cg]
          have fi : (i != 0) = false := by simp [ci]
          have fp : decide (0 < pn) = true := by simp; omega
          clear HZd ce cg ci cp
          go_enter Try.func9, Try.ntmps9
          go_upto_region 1 with (refine wp_box rfl 27 (.tmp 0) rfl A rfl ?_; rw [Hw1.out, Hq.out])
          go_wp2_with fail
          refine (t18 _).mono ?_
          rintro e w' ⟨rfl, rfl⟩
          go_wp2_with fail
          refine (t19 _).mono ?_
          rintro e w' ⟨rfl, rfl⟩
          go_wp2_with fail
          go_ret
          exact ⟨by rw [HR.out]; rfl, HB1.out⟩
      · have HR : Hid (Z = 4) := ⟨by rw [HZd.out, if_pos (by unfold al; simp [ce, cg, ci])]⟩
        have fe : decide (0 < nm.size) = false := decide_eq_false (by omega)
        have fg : (g != 0) = false := by simp [cg]
        have fi : (i != 0) = true := by simp; omega
        clear HZd ce cg ci
        go_enter Try.func9, Try.ntmps9
        go_upto_region 1 with (refine wp_box rfl 27 (.tmp 0) rfl A rfl ?_; rw [Hw1.out, Hq.out])
        go_wp2_with fail
        refine (t18 _).mono ?_
        rintro e w' ⟨rfl, rfl⟩
        go_wp2_with fail
        refine (t19 _).mono ?_
        rintro e w' ⟨rfl, rfl⟩
        go_wp2_with fail
        go_ret
        exact ⟨by rw [HR.out]; rfl, HB1.out⟩
    · have HR : Hid (Z = 4) := ⟨by rw [HZd.out, if_pos (by unfold al; simp [ce, cg])]⟩
      have fe : decide (0 < nm.size) = false := decide_eq_false (by omega)
      have fg : (g != 0) = true := by simp; omega
      clear HZd ce cg
      go_enter Try.func9, Try.ntmps9
      go_upto_region 1 with (refine wp_box rfl 27 (.tmp 0) rfl A rfl ?_; rw [Hw1.out, Hq.out])
      go_wp2_with fail
      refine (t18 _).mono ?_
      rintro e w' ⟨rfl, rfl⟩
      go_wp2_with fail
      go_ret
      exact ⟨by rw [HR.out]; rfl, HB1.out⟩
  · have HR : Hid (Z = 4) := ⟨by rw [HZd.out, if_pos (by unfold al; simp [ce])]⟩
    have fe : decide (0 < nm.size) = true := decide_eq_true (by omega)
    clear HZd ce
    go_enter Try.func9, Try.ntmps9
    go_upto_region 1 with (refine wp_box rfl 27 (.tmp 0) rfl A rfl ?_; rw [Hw1.out, Hq.out])
    go_wp2_with fail
    refine (t18 _).mono ?_
    rintro e w' ⟨rfl, rfl⟩
    go_wp2_with fail
    go_ret
    exact ⟨by rw [HR.out]; rfl, HB1.out⟩
end
end Go.Proofs.Ythohpbppfihoiaa

/- The document's Check of a note whose kind is 3. -/
namespace Go.Proofs.Ythohpbppfihoiaa
open Go.RowKit Oct

section
variable {w : World}
set_option maxHeartbeats 16000000 in
set_option maxRecDepth 100000 in
theorem rcheck_3 (nm : ByteArray) (g i : Int) (ha pa ba : Option Addr) (hn hc pn pc bn bc : Nat) (H : List Hd) (P : List Pt) (hH : RdE he 2 h0 w (.slice ha hn hc) H) (hHn : H.length = hn) (hP : RdE pe 33 p0 w (.slice pa pn pc) P) (hPn : P.length = pn) :
    Calls Try.prog 9 #[.agg (na 3 nm g i (.slice ha hn hc) (.slice pa pn pc) (.slice ba bn bc))] w fun e w' => e = .returned (.int .i64 (chk 3 nm g i H P bn)) ∧ Below w.heap.size w w' := by
  obtain ⟨Z, HZ⟩ : ∃ x, Hid (chk 3 nm g i H P bn = x) := ⟨_, ⟨rfl⟩⟩
  have HZd : Hid (Z = if al (true, false, false, false, false) nm g i hn pn bn = false then 4 else if 64 < hn ∨ 256 < pn ∨ 512 < bn then 6 else if rt (true, false, false, false, false) nm g i H P bn = false then 2 else 0) := ⟨by
    rw [← HZ.out, ← hHn, ← hPn]
    unfold chk
    rw [if_neg (by decide)]
    rfl⟩
  rw [HZ.out]
  clear HZ
  obtain ⟨q, Hq⟩ : ∃ q, Hid (w.heap.size = q) := ⟨_, ⟨rfl⟩⟩
  obtain ⟨A, HA⟩ : ∃ x, Hid (na 3 nm g i (.slice ha hn hc) (.slice pa pn pc) (.slice ba bn bc) = x) := ⟨_, ⟨rfl⟩⟩
  obtain ⟨w1, Hw1⟩ : ∃ x, Hid (w.alloc (.cells A 27) = x) := ⟨_, ⟨rfl⟩⟩
  have HB1 : Hid (Below w.heap.size w w1) := ⟨by rw [← Hw1.out]; exact (Below.refl _ w).alloc (Nat.le_refl _) _⟩
  have HX1 : Hid (w1.heap[q]? = some (.cells A 27 (0, 0))) := ⟨by rw [← Hw1.out, ← Hq.out]; exact heap_alloc_new w _⟩
  have a0 : w1.cell? ⟨q, 0, none⟩ = some (.int .i64 3) := by rw [cell_of_row _ _ _ _ _ _ HX1.out, ← HA.out]; rfl
  have a1 : w1.cell? ⟨q, 1, none⟩ = some (.string nm) := by rw [cell_of_row _ _ _ _ _ _ HX1.out, ← HA.out]; rfl
  have a2 : w1.cell? ⟨q, 2, none⟩ = some (.int .i64 g) := by rw [cell_of_row _ _ _ _ _ _ HX1.out, ← HA.out]; rfl
  have a3 : w1.cell? ⟨q, 3, none⟩ = some (.int .i64 i) := by rw [cell_of_row _ _ _ _ _ _ HX1.out, ← HA.out]; rfl
  have a4 : w1.cell? ⟨q, 4, none⟩ = some (.slice ha hn hc) := by rw [cell_of_row _ _ _ _ _ _ HX1.out, ← HA.out]; rfl
  have a5 : w1.cell? ⟨q, 5, none⟩ = some (.slice pa pn pc) := by rw [cell_of_row _ _ _ _ _ _ HX1.out, ← HA.out]; rfl
  have a6 : w1.cell? ⟨q, 6, none⟩ = some (.slice ba bn bc) := by rw [cell_of_row _ _ _ _ _ _ HX1.out, ← HA.out]; rfl
  have HHx : Hid (∀ wx, Below w.heap.size w wx → RdE he 2 h0 wx (.slice ha hn hc) H) := ⟨fun wx h => hH.far (Chg.ofBelow (X := []) h) (by simp)⟩
  have HPx : Hid (∀ wx, Below w.heap.size w wx → RdE pe 33 p0 wx (.slice pa pn pc) P) := ⟨fun wx h => hP.far (Chg.ofBelow (X := []) h) (by simp)⟩
  have t18 : ∀ W : World, Calls Try.prog 18 #[.int .i64 3] W fun e w' => e = .returned (.bool true) ∧ W = w' := fun W => hasFile18 (w := W) 3
  have t19 : ∀ W : World, Calls Try.prog 19 #[.int .i64 3] W fun e w' => e = .returned (.bool false) ∧ W = w' := fun W => hasI19 (w := W) 3
  rw [HA.out]
  clear hH hP
  by_cases ci : i = 0
  · by_cases ch : hn = 0
    · by_cases cp : pn = 0
      · by_cases cb : bn = 0
        · have HE : H = [] := List.length_eq_zero_iff.1 (hHn.trans ch)
          have PE : P = [] := List.length_eq_zero_iff.1 (hPn.trans cp)
          cases cf : flB nm g with
          | false =>
            have HR : Hid (Z = 2) := ⟨by rw [HZd.out, if_neg (by unfold al; simp [ci, ch, cp, cb]), if_neg (by omega), if_pos (by unfold rt; simp [cf])]⟩
            have fi : (i != 0) = false := by simp [ci]
            have fh : decide (0 < hn) = false := by simp; omega
            have fp : decide (0 < pn) = false := by simp; omega
            have fb : decide (0 < bn) = false := by simp; omega
            have lh : decide ((64 : Int) < (hn : Int)) = false := decide_eq_false (by omega)
            have lp : decide ((256 : Int) < (pn : Int)) = false := decide_eq_false (by omega)
            have lb : decide ((512 : Int) < (bn : Int)) = false := decide_eq_false (by omega)
            have fi2 : i = 0 := ci
            have t20 : ∀ W : World, Calls Try.prog 20 #[.string nm, .int .i64 g] W fun e w' => e = .returned (.bool false) ∧ W = w' := fun W => by have := rfile20 (w := W) nm g; rw [cf] at this; exact this
            clear HZd ch cp cb cf
            go_enter Try.func9, Try.ntmps9
            go_upto_region 1 with (refine wp_box rfl 27 (.tmp 0) rfl A rfl ?_; rw [Hw1.out, Hq.out])
            go_wp2_with fail
            refine (t18 _).mono ?_
            rintro e w' ⟨rfl, rfl⟩
            go_wp2_with fail
            refine (t19 _).mono ?_
            rintro e w' ⟨rfl, rfl⟩
            go_wp2_with fail
            refine (t18 _).mono ?_
            rintro e w' ⟨rfl, rfl⟩
            go_wp2_with fail
            refine (t20 _).mono ?_
            rintro e w' ⟨rfl, rfl⟩
            go_wp2_with fail
            go_ret
            exact ⟨by rw [HR.out]; rfl, HB1.out⟩
          | true =>
            have HR : Hid (Z = 0) := ⟨by rw [HZd.out, if_neg (by unfold al; simp [ci, ch, cp, cb]), if_neg (by omega), if_neg (by unfold rt; simp [cf, HE, PE, ci])]⟩
            have fi : (i != 0) = false := by simp [ci]
            have fh : decide (0 < hn) = false := by simp; omega
            have fp : decide (0 < pn) = false := by simp; omega
            have fb : decide (0 < bn) = false := by simp; omega
            have lh : decide ((64 : Int) < (hn : Int)) = false := decide_eq_false (by omega)
            have lp : decide ((256 : Int) < (pn : Int)) = false := decide_eq_false (by omega)
            have lb : decide ((512 : Int) < (bn : Int)) = false := decide_eq_false (by omega)
            have fi2 : i = 0 := ci
            have t20 : ∀ W : World, Calls Try.prog 20 #[.string nm, .int .i64 g] W fun e w' => e = .returned (.bool true) ∧ W = w' := fun W => by have := rfile20 (w := W) nm g; rw [cf] at this; exact this
            clear HZd ch cp cb cf
            go_enter Try.func9, Try.ntmps9
            go_upto_region 1 with (refine wp_box rfl 27 (.tmp 0) rfl A rfl ?_; rw [Hw1.out, Hq.out])
            go_wp2_with fail
            refine (t18 _).mono ?_
            rintro e w' ⟨rfl, rfl⟩
            go_wp2_with fail
            refine (t19 _).mono ?_
            rintro e w' ⟨rfl, rfl⟩
            go_wp2_with fail
            refine (t18 _).mono ?_
            rintro e w' ⟨rfl, rfl⟩
            go_wp2_with fail
            refine (t20 _).mono ?_
            rintro e w' ⟨rfl, rfl⟩
            go_wp2_with fail
            go_loop [4] (fun i => i = .int .i64 0) (fun _ => 0)
            case atStart => rfl
            case round =>
              obtain rfl := hrel
              go_wp2_with fail
              go_loop [5] (fun i => i = .int .i64 0) (fun _ => 0)
              case atStart => rfl
              case round =>
                obtain rfl := hrel
                go_wp2_with fail
                go_ret
                exact ⟨by rw [HR.out]; rfl, HB1.out⟩
        · have HR : Hid (Z = 4) := ⟨by rw [HZd.out, if_pos (by unfold al; simp [ci, ch, cp, cb])]⟩
          have fi : (i != 0) = false := by simp [ci]
          have fh : decide (0 < hn) = false := by simp; omega
          have fp : decide (0 < pn) = false := by simp; omega
          have fb : decide (0 < bn) = true := by simp; omega
          clear HZd ci ch cp cb
          go_enter Try.func9, Try.ntmps9
          go_upto_region 1 with (refine wp_box rfl 27 (.tmp 0) rfl A rfl ?_; rw [Hw1.out, Hq.out])
          go_wp2_with fail
          refine (t18 _).mono ?_
          rintro e w' ⟨rfl, rfl⟩
          go_wp2_with fail
          refine (t19 _).mono ?_
          rintro e w' ⟨rfl, rfl⟩
          go_wp2_with fail
          go_ret
          exact ⟨by rw [HR.out]; rfl, HB1.out⟩
      · have HR : Hid (Z = 4) := ⟨by rw [HZd.out, if_pos (by unfold al; simp [ci, ch, cp])]⟩
        have fi : (i != 0) = false := by simp [ci]
        have fh : decide (0 < hn) = false := by simp; omega
        have fp : decide (0 < pn) = true := by simp; omega
        clear HZd ci ch cp
        go_enter Try.func9, Try.ntmps9
        go_upto_region 1 with (refine wp_box rfl 27 (.tmp 0) rfl A rfl ?_; rw [Hw1.out, Hq.out])
        go_wp2_with fail
        refine (t18 _).mono ?_
        rintro e w' ⟨rfl, rfl⟩
        go_wp2_with fail
        refine (t19 _).mono ?_
        rintro e w' ⟨rfl, rfl⟩
        go_wp2_with fail
        go_ret
        exact ⟨by rw [HR.out]; rfl, HB1.out⟩
    · have HR : Hid (Z = 4) := ⟨by rw [HZd.out, if_pos (by unfold al; simp [ci, ch])]⟩
      have fi : (i != 0) = false := by simp [ci]
      have fh : decide (0 < hn) = true := by simp; omega
      clear HZd ci ch
      go_enter Try.func9, Try.ntmps9
      go_upto_region 1 with (refine wp_box rfl 27 (.tmp 0) rfl A rfl ?_; rw [Hw1.out, Hq.out])
      go_wp2_with fail
      refine (t18 _).mono ?_
      rintro e w' ⟨rfl, rfl⟩
      go_wp2_with fail
      refine (t19 _).mono ?_
      rintro e w' ⟨rfl, rfl⟩
      go_wp2_with fail
      go_ret
      exact ⟨by rw [HR.out]; rfl, HB1.out⟩
  · have HR : Hid (Z = 4) := ⟨by rw [HZd.out, if_pos (by unfold al; simp [ci])]⟩
    have fi : (i != 0) = true := by simp; omega
    clear HZd ci
    go_enter Try.func9, Try.ntmps9
    go_upto_region 1 with (refine wp_box rfl 27 (.tmp 0) rfl A rfl ?_; rw [Hw1.out, Hq.out])
    go_wp2_with fail
    refine (t18 _).mono ?_
    rintro e w' ⟨rfl, rfl⟩
    go_wp2_with fail
    refine (t19 _).mono ?_
    rintro e w' ⟨rfl, rfl⟩
    go_wp2_with fail
    go_ret
    exact ⟨by rw [HR.out]; rfl, HB1.out⟩
end
end Go.Proofs.Ythohpbppfihoiaa

/- The document's Check of a note whose kind is 4. -/
namespace Go.Proofs.Ythohpbppfihoiaa
open Go.RowKit Oct

section
variable {w : World}
set_option maxHeartbeats 16000000 in
set_option maxRecDepth 100000 in
theorem rcheck_4 (nm : ByteArray) (g i : Int) (ha pa ba : Option Addr) (hn hc pn pc bn bc : Nat) (H : List Hd) (P : List Pt) (hH : RdE he 2 h0 w (.slice ha hn hc) H) (hHn : H.length = hn) (hP : RdE pe 33 p0 w (.slice pa pn pc) P) (hPn : P.length = pn) :
    Calls Try.prog 9 #[.agg (na 4 nm g i (.slice ha hn hc) (.slice pa pn pc) (.slice ba bn bc))] w fun e w' => e = .returned (.int .i64 (chk 4 nm g i H P bn)) ∧ Below w.heap.size w w' := by
  obtain ⟨Z, HZ⟩ : ∃ x, Hid (chk 4 nm g i H P bn = x) := ⟨_, ⟨rfl⟩⟩
  have HZd : Hid (Z = if al (true, false, false, true, false) nm g i hn pn bn = false then 4 else if 64 < hn ∨ 256 < pn ∨ 512 < bn then 6 else if rt (true, false, false, true, false) nm g i H P bn = false then 2 else 0) := ⟨by
    rw [← HZ.out, ← hHn, ← hPn]
    unfold chk
    rw [if_neg (by decide)]
    rfl⟩
  rw [HZ.out]
  clear HZ
  obtain ⟨q, Hq⟩ : ∃ q, Hid (w.heap.size = q) := ⟨_, ⟨rfl⟩⟩
  obtain ⟨A, HA⟩ : ∃ x, Hid (na 4 nm g i (.slice ha hn hc) (.slice pa pn pc) (.slice ba bn bc) = x) := ⟨_, ⟨rfl⟩⟩
  obtain ⟨w1, Hw1⟩ : ∃ x, Hid (w.alloc (.cells A 27) = x) := ⟨_, ⟨rfl⟩⟩
  have HB1 : Hid (Below w.heap.size w w1) := ⟨by rw [← Hw1.out]; exact (Below.refl _ w).alloc (Nat.le_refl _) _⟩
  have HX1 : Hid (w1.heap[q]? = some (.cells A 27 (0, 0))) := ⟨by rw [← Hw1.out, ← Hq.out]; exact heap_alloc_new w _⟩
  have a0 : w1.cell? ⟨q, 0, none⟩ = some (.int .i64 4) := by rw [cell_of_row _ _ _ _ _ _ HX1.out, ← HA.out]; rfl
  have a1 : w1.cell? ⟨q, 1, none⟩ = some (.string nm) := by rw [cell_of_row _ _ _ _ _ _ HX1.out, ← HA.out]; rfl
  have a2 : w1.cell? ⟨q, 2, none⟩ = some (.int .i64 g) := by rw [cell_of_row _ _ _ _ _ _ HX1.out, ← HA.out]; rfl
  have a3 : w1.cell? ⟨q, 3, none⟩ = some (.int .i64 i) := by rw [cell_of_row _ _ _ _ _ _ HX1.out, ← HA.out]; rfl
  have a4 : w1.cell? ⟨q, 4, none⟩ = some (.slice ha hn hc) := by rw [cell_of_row _ _ _ _ _ _ HX1.out, ← HA.out]; rfl
  have a5 : w1.cell? ⟨q, 5, none⟩ = some (.slice pa pn pc) := by rw [cell_of_row _ _ _ _ _ _ HX1.out, ← HA.out]; rfl
  have a6 : w1.cell? ⟨q, 6, none⟩ = some (.slice ba bn bc) := by rw [cell_of_row _ _ _ _ _ _ HX1.out, ← HA.out]; rfl
  have HHx : Hid (∀ wx, Below w.heap.size w wx → RdE he 2 h0 wx (.slice ha hn hc) H) := ⟨fun wx h => hH.far (Chg.ofBelow (X := []) h) (by simp)⟩
  have HPx : Hid (∀ wx, Below w.heap.size w wx → RdE pe 33 p0 wx (.slice pa pn pc) P) := ⟨fun wx h => hP.far (Chg.ofBelow (X := []) h) (by simp)⟩
  have t18 : ∀ W : World, Calls Try.prog 18 #[.int .i64 4] W fun e w' => e = .returned (.bool true) ∧ W = w' := fun W => hasFile18 (w := W) 4
  have t19 : ∀ W : World, Calls Try.prog 19 #[.int .i64 4] W fun e w' => e = .returned (.bool false) ∧ W = w' := fun W => hasI19 (w := W) 4
  rw [HA.out]
  clear hH hP
  by_cases ci : i = 0
  · by_cases ch : hn = 0
    · by_cases cb : bn = 0
      · have HE : H = [] := List.length_eq_zero_iff.1 (hHn.trans ch)
        by_cases cl : 256 < pn
        · have HR : Hid (Z = 6) := ⟨by rw [HZd.out, if_neg (by unfold al; simp [ci, ch, cb]), if_pos (by omega)]⟩
          have fi : (i != 0) = false := by simp [ci]
          have fh : decide (0 < hn) = false := by simp; omega
          have fb : decide (0 < bn) = false := by simp; omega
          have lh : decide ((64 : Int) < (hn : Int)) = false := decide_eq_false (by omega)
          have lb : decide ((512 : Int) < (bn : Int)) = false := decide_eq_false (by omega)
          have fi2 : i = 0 := ci
          have lp : decide ((256 : Int) < (pn : Int)) = true := decide_eq_true (by omega)
          clear HZd ch cb cl
          go_enter Try.func9, Try.ntmps9
          go_upto_region 1 with (refine wp_box rfl 27 (.tmp 0) rfl A rfl ?_; rw [Hw1.out, Hq.out])
          go_wp2_with fail
          refine (t18 _).mono ?_
          rintro e w' ⟨rfl, rfl⟩
          go_wp2_with fail
          refine (t19 _).mono ?_
          rintro e w' ⟨rfl, rfl⟩
          go_wp2_with fail
          go_ret
          exact ⟨by rw [HR.out]; rfl, HB1.out⟩
        · cases cf : flB nm g with
          | false =>
            have HR : Hid (Z = 2) := ⟨by rw [HZd.out, if_neg (by unfold al; simp [ci, ch, cb]), if_neg (by omega), if_pos (by unfold rt; simp [cf])]⟩
            have fi : (i != 0) = false := by simp [ci]
            have fh : decide (0 < hn) = false := by simp; omega
            have fb : decide (0 < bn) = false := by simp; omega
            have lh : decide ((64 : Int) < (hn : Int)) = false := decide_eq_false (by omega)
            have lb : decide ((512 : Int) < (bn : Int)) = false := decide_eq_false (by omega)
            have fi2 : i = 0 := ci
            have lp : decide ((256 : Int) < (pn : Int)) = false := decide_eq_false (by omega)
            have t20 : ∀ W : World, Calls Try.prog 20 #[.string nm, .int .i64 g] W fun e w' => e = .returned (.bool false) ∧ W = w' := fun W => by have := rfile20 (w := W) nm g; rw [cf] at this; exact this
            clear HZd ch cb cl cf
            go_enter Try.func9, Try.ntmps9
            go_upto_region 1 with (refine wp_box rfl 27 (.tmp 0) rfl A rfl ?_; rw [Hw1.out, Hq.out])
            go_wp2_with fail
            refine (t18 _).mono ?_
            rintro e w' ⟨rfl, rfl⟩
            go_wp2_with fail
            refine (t19 _).mono ?_
            rintro e w' ⟨rfl, rfl⟩
            go_wp2_with fail
            refine (t18 _).mono ?_
            rintro e w' ⟨rfl, rfl⟩
            go_wp2_with fail
            refine (t20 _).mono ?_
            rintro e w' ⟨rfl, rfl⟩
            go_wp2_with fail
            go_ret
            exact ⟨by rw [HR.out]; rfl, HB1.out⟩
          | true =>
            have HB0 : rt (true, false, false, true, false) nm g i H P bn = P.all (fun p => ptOk p.2) := by unfold rt; simp [cf, HE, ci]
            have HR : Hid (Z = if P.all (fun p => ptOk p.2) = false then 2 else 0) := ⟨by rw [HZd.out, if_neg (by unfold al; simp [ci, ch, cb]), if_neg (by omega), HB0]⟩
            have fi : (i != 0) = false := by simp [ci]
            have fh : decide (0 < hn) = false := by simp; omega
            have fb : decide (0 < bn) = false := by simp; omega
            have lh : decide ((64 : Int) < (hn : Int)) = false := decide_eq_false (by omega)
            have lb : decide ((512 : Int) < (bn : Int)) = false := decide_eq_false (by omega)
            have fi2 : i = 0 := ci
            have lp : decide ((256 : Int) < (pn : Int)) = false := decide_eq_false (by omega)
            have t20 : ∀ W : World, Calls Try.prog 20 #[.string nm, .int .i64 g] W fun e w' => e = .returned (.bool true) ∧ W = w' := fun W => by have := rfile20 (w := W) nm g; rw [cf] at this; exact this
            clear HB0 HZd ch cb cl cf
            go_enter Try.func9, Try.ntmps9
            go_upto_region 1 with (refine wp_box rfl 27 (.tmp 0) rfl A rfl ?_; rw [Hw1.out, Hq.out])
            go_wp2_with fail
            refine (t18 _).mono ?_
            rintro e w' ⟨rfl, rfl⟩
            go_wp2_with fail
            refine (t19 _).mono ?_
            rintro e w' ⟨rfl, rfl⟩
            go_wp2_with fail
            refine (t18 _).mono ?_
            rintro e w' ⟨rfl, rfl⟩
            go_wp2_with fail
            refine (t20 _).mono ?_
            rintro e w' ⟨rfl, rfl⟩
            go_wp2_with fail
            go_loop [4] (fun i => i = .int .i64 0) (fun _ => 0)
            case atStart => rfl
            case round =>
              obtain rfl := hrel
              go_wp2_with fail
              go_loop [5] (fun i => ∃ k : Nat, k ≤ pn ∧ i = .int .i64 (k : Int) ∧ Hid ((P.take k).all (fun p => ptOk p.2) = true)) (fun i => pn - (intOf i).toNat)
              case atStart => exact ⟨0, Nat.zero_le _, rfl, ⟨by rw [List.take_zero]; rfl⟩⟩
              case round =>
                obtain ⟨k, hk, rfl, HK⟩ := hrel
                by_cases hlt : k < pn
                · have hltz : (k : Int) < (pn : Int) := by omega
                  have hiL : k < P.length := by rw [hPn]; exact hlt
                  have HRo := Hid.mk (HPx.out w1 HB1.out)
                  obtain ⟨g0, off, c', e, hat⟩ := HRo.out.at' k hiL
                  rw [hPn] at e
                  simp only [Value.slice.injEq] at e
                  obtain ⟨rfl, -, rfl⟩ := e
                  have hx33 := (HRo.out.each _ (getD_mem' (d := p0) hiL)).1
                  have hmem := getD_mem' (d := p0) hiL
                  have hcm : pc ≤ 9223372036854775807 := by
                    obtain ⟨_, _, e, _, h2, _⟩ := HRo.out.shape
                    simp only [Value.slice.injEq] at e
                    rw [e.2.2]; exact h2
                  have hcn : pn ≤ pc := by
                    obtain ⟨_, _, e, h2, _, _⟩ := HRo.out.shape
                    simp only [Value.slice.injEq] at e
                    rw [e.2.2, ← hPn]; exact h2
                  have hL : (P.take (k + 1)).all (fun p => ptOk p.2) = ptOk (P.getD k p0).2 := by
                    rw [List.take_add_one, List.getElem?_eq_getElem hiL]
                    simp only [Option.toList_some, List.all_append, HK.out, Bool.true_and, List.all_cons, List.all_nil, Bool.and_true]
                    simp [List.getD, List.getElem?_eq_getElem hiL]
                  obtain ⟨x, hx⟩ : ∃ x, P.getD k p0 = x := ⟨_, rfl⟩
                  rw [hx] at hat hx33 hmem hL
                  obtain ⟨x1, y⟩ := x
                  have hx32 : x1.length = 32 := by simp [pe] at hx33; exact hx33
                  have c1 : w1.cell? ⟨g0, off + k * 33 + 32, none⟩ = some (.int .i64 y) := by
                    rw [hat 32 (by decide)]
                    unfold pe
                    rw [List.getElem?_append_right (by simp [hx32])]
                    simp [hx32]
                  have HL := Hid.mk hL
                  have HM := Hid.mk hmem
                  clear hat hx33 hx32 hx hL hmem hiL
                  by_cases q1 : y < 1
                  · have HR2 : Hid (Z = 2) := ⟨by rw [HR.out, if_pos]; exact List.all_eq_false.2 ⟨(x1, y), HM.out, by unfold ptOk; simp; omega⟩⟩
                    go_wp2_with fail
                    go_ret
                    exact ⟨by rw [HR2.out]; rfl, HB1.out⟩
                  · by_cases q2 : 512 < y
                    · have HR2 : Hid (Z = 2) := ⟨by rw [HR.out, if_pos]; exact List.all_eq_false.2 ⟨(x1, y), HM.out, by unfold ptOk; simp; omega⟩⟩
                      go_wp2_with fail
                      go_ret
                      exact ⟨by rw [HR2.out]; rfl, HB1.out⟩
                    · have HK2 : Hid ((P.take (k + 1)).all (fun p => ptOk p.2) = true) := ⟨by rw [HL.out]; unfold ptOk; exact decide_eq_true (by omega)⟩
                      go_wp2_with fail
                      go_round
                      case rel => exact ⟨k + 1, by omega, by go_num, HK2⟩
                      case measure => simp [intOf]; omega
                · have HR2 : Hid (Z = 0) := ⟨by
                    have h := HK.out
                    rw [List.take_of_length_le (by omega)] at h
                    rw [HR.out, h]
                    rfl⟩
                  go_wp2_with fail
                  go_ret
                  exact ⟨by rw [HR2.out]; rfl, HB1.out⟩
      · have HR : Hid (Z = 4) := ⟨by rw [HZd.out, if_pos (by unfold al; simp [ci, ch, cb])]⟩
        have fi : (i != 0) = false := by simp [ci]
        have fh : decide (0 < hn) = false := by simp; omega
        have fb : decide (0 < bn) = true := by simp; omega
        clear HZd ci ch cb
        go_enter Try.func9, Try.ntmps9
        go_upto_region 1 with (refine wp_box rfl 27 (.tmp 0) rfl A rfl ?_; rw [Hw1.out, Hq.out])
        go_wp2_with fail
        refine (t18 _).mono ?_
        rintro e w' ⟨rfl, rfl⟩
        go_wp2_with fail
        refine (t19 _).mono ?_
        rintro e w' ⟨rfl, rfl⟩
        go_wp2_with fail
        go_ret
        exact ⟨by rw [HR.out]; rfl, HB1.out⟩
    · have HR : Hid (Z = 4) := ⟨by rw [HZd.out, if_pos (by unfold al; simp [ci, ch])]⟩
      have fi : (i != 0) = false := by simp [ci]
      have fh : decide (0 < hn) = true := by simp; omega
      clear HZd ci ch
      go_enter Try.func9, Try.ntmps9
      go_upto_region 1 with (refine wp_box rfl 27 (.tmp 0) rfl A rfl ?_; rw [Hw1.out, Hq.out])
      go_wp2_with fail
      refine (t18 _).mono ?_
      rintro e w' ⟨rfl, rfl⟩
      go_wp2_with fail
      refine (t19 _).mono ?_
      rintro e w' ⟨rfl, rfl⟩
      go_wp2_with fail
      go_ret
      exact ⟨by rw [HR.out]; rfl, HB1.out⟩
  · have HR : Hid (Z = 4) := ⟨by rw [HZd.out, if_pos (by unfold al; simp [ci])]⟩
    have fi : (i != 0) = true := by simp; omega
    clear HZd ci
    go_enter Try.func9, Try.ntmps9
    go_upto_region 1 with (refine wp_box rfl 27 (.tmp 0) rfl A rfl ?_; rw [Hw1.out, Hq.out])
    go_wp2_with fail
    refine (t18 _).mono ?_
    rintro e w' ⟨rfl, rfl⟩
    go_wp2_with fail
    refine (t19 _).mono ?_
    rintro e w' ⟨rfl, rfl⟩
    go_wp2_with fail
    go_ret
    exact ⟨by rw [HR.out]; rfl, HB1.out⟩
end
end Go.Proofs.Ythohpbppfihoiaa

/- The document's Check of a note whose kind is 5. -/
namespace Go.Proofs.Ythohpbppfihoiaa
open Go.RowKit Oct

section
variable {w : World}
set_option maxHeartbeats 16000000 in
set_option maxRecDepth 100000 in
theorem rcheck_5 (nm : ByteArray) (g i : Int) (ha pa ba : Option Addr) (hn hc pn pc bn bc : Nat) (H : List Hd) (P : List Pt) (hH : RdE he 2 h0 w (.slice ha hn hc) H) (hHn : H.length = hn) (hP : RdE pe 33 p0 w (.slice pa pn pc) P) (hPn : P.length = pn) :
    Calls Try.prog 9 #[.agg (na 5 nm g i (.slice ha hn hc) (.slice pa pn pc) (.slice ba bn bc))] w fun e w' => e = .returned (.int .i64 (chk 5 nm g i H P bn)) ∧ Below w.heap.size w w' := by
  obtain ⟨Z, HZ⟩ : ∃ x, Hid (chk 5 nm g i H P bn = x) := ⟨_, ⟨rfl⟩⟩
  have HZd : Hid (Z = if al (true, false, false, false, false) nm g i hn pn bn = false then 4 else if 64 < hn ∨ 256 < pn ∨ 512 < bn then 6 else if rt (true, false, false, false, false) nm g i H P bn = false then 2 else 0) := ⟨by
    rw [← HZ.out, ← hHn, ← hPn]
    unfold chk
    rw [if_neg (by decide)]
    rfl⟩
  rw [HZ.out]
  clear HZ
  obtain ⟨q, Hq⟩ : ∃ q, Hid (w.heap.size = q) := ⟨_, ⟨rfl⟩⟩
  obtain ⟨A, HA⟩ : ∃ x, Hid (na 5 nm g i (.slice ha hn hc) (.slice pa pn pc) (.slice ba bn bc) = x) := ⟨_, ⟨rfl⟩⟩
  obtain ⟨w1, Hw1⟩ : ∃ x, Hid (w.alloc (.cells A 27) = x) := ⟨_, ⟨rfl⟩⟩
  have HB1 : Hid (Below w.heap.size w w1) := ⟨by rw [← Hw1.out]; exact (Below.refl _ w).alloc (Nat.le_refl _) _⟩
  have HX1 : Hid (w1.heap[q]? = some (.cells A 27 (0, 0))) := ⟨by rw [← Hw1.out, ← Hq.out]; exact heap_alloc_new w _⟩
  have a0 : w1.cell? ⟨q, 0, none⟩ = some (.int .i64 5) := by rw [cell_of_row _ _ _ _ _ _ HX1.out, ← HA.out]; rfl
  have a1 : w1.cell? ⟨q, 1, none⟩ = some (.string nm) := by rw [cell_of_row _ _ _ _ _ _ HX1.out, ← HA.out]; rfl
  have a2 : w1.cell? ⟨q, 2, none⟩ = some (.int .i64 g) := by rw [cell_of_row _ _ _ _ _ _ HX1.out, ← HA.out]; rfl
  have a3 : w1.cell? ⟨q, 3, none⟩ = some (.int .i64 i) := by rw [cell_of_row _ _ _ _ _ _ HX1.out, ← HA.out]; rfl
  have a4 : w1.cell? ⟨q, 4, none⟩ = some (.slice ha hn hc) := by rw [cell_of_row _ _ _ _ _ _ HX1.out, ← HA.out]; rfl
  have a5 : w1.cell? ⟨q, 5, none⟩ = some (.slice pa pn pc) := by rw [cell_of_row _ _ _ _ _ _ HX1.out, ← HA.out]; rfl
  have a6 : w1.cell? ⟨q, 6, none⟩ = some (.slice ba bn bc) := by rw [cell_of_row _ _ _ _ _ _ HX1.out, ← HA.out]; rfl
  have HHx : Hid (∀ wx, Below w.heap.size w wx → RdE he 2 h0 wx (.slice ha hn hc) H) := ⟨fun wx h => hH.far (Chg.ofBelow (X := []) h) (by simp)⟩
  have HPx : Hid (∀ wx, Below w.heap.size w wx → RdE pe 33 p0 wx (.slice pa pn pc) P) := ⟨fun wx h => hP.far (Chg.ofBelow (X := []) h) (by simp)⟩
  have t18 : ∀ W : World, Calls Try.prog 18 #[.int .i64 5] W fun e w' => e = .returned (.bool true) ∧ W = w' := fun W => hasFile18 (w := W) 5
  have t19 : ∀ W : World, Calls Try.prog 19 #[.int .i64 5] W fun e w' => e = .returned (.bool false) ∧ W = w' := fun W => hasI19 (w := W) 5
  rw [HA.out]
  clear hH hP
  by_cases ci : i = 0
  · by_cases ch : hn = 0
    · by_cases cp : pn = 0
      · by_cases cb : bn = 0
        · have HE : H = [] := List.length_eq_zero_iff.1 (hHn.trans ch)
          have PE : P = [] := List.length_eq_zero_iff.1 (hPn.trans cp)
          cases cf : flB nm g with
          | false =>
            have HR : Hid (Z = 2) := ⟨by rw [HZd.out, if_neg (by unfold al; simp [ci, ch, cp, cb]), if_neg (by omega), if_pos (by unfold rt; simp [cf])]⟩
            have fi : (i != 0) = false := by simp [ci]
            have fh : decide (0 < hn) = false := by simp; omega
            have fp : decide (0 < pn) = false := by simp; omega
            have fb : decide (0 < bn) = false := by simp; omega
            have lh : decide ((64 : Int) < (hn : Int)) = false := decide_eq_false (by omega)
            have lp : decide ((256 : Int) < (pn : Int)) = false := decide_eq_false (by omega)
            have lb : decide ((512 : Int) < (bn : Int)) = false := decide_eq_false (by omega)
            have fi2 : i = 0 := ci
            have t20 : ∀ W : World, Calls Try.prog 20 #[.string nm, .int .i64 g] W fun e w' => e = .returned (.bool false) ∧ W = w' := fun W => by have := rfile20 (w := W) nm g; rw [cf] at this; exact this
            clear HZd ch cp cb cf
            go_enter Try.func9, Try.ntmps9
            go_upto_region 1 with (refine wp_box rfl 27 (.tmp 0) rfl A rfl ?_; rw [Hw1.out, Hq.out])
            go_wp2_with fail
            refine (t18 _).mono ?_
            rintro e w' ⟨rfl, rfl⟩
            go_wp2_with fail
            refine (t19 _).mono ?_
            rintro e w' ⟨rfl, rfl⟩
            go_wp2_with fail
            refine (t18 _).mono ?_
            rintro e w' ⟨rfl, rfl⟩
            go_wp2_with fail
            refine (t20 _).mono ?_
            rintro e w' ⟨rfl, rfl⟩
            go_wp2_with fail
            go_ret
            exact ⟨by rw [HR.out]; rfl, HB1.out⟩
          | true =>
            have HR : Hid (Z = 0) := ⟨by rw [HZd.out, if_neg (by unfold al; simp [ci, ch, cp, cb]), if_neg (by omega), if_neg (by unfold rt; simp [cf, HE, PE, ci])]⟩
            have fi : (i != 0) = false := by simp [ci]
            have fh : decide (0 < hn) = false := by simp; omega
            have fp : decide (0 < pn) = false := by simp; omega
            have fb : decide (0 < bn) = false := by simp; omega
            have lh : decide ((64 : Int) < (hn : Int)) = false := decide_eq_false (by omega)
            have lp : decide ((256 : Int) < (pn : Int)) = false := decide_eq_false (by omega)
            have lb : decide ((512 : Int) < (bn : Int)) = false := decide_eq_false (by omega)
            have fi2 : i = 0 := ci
            have t20 : ∀ W : World, Calls Try.prog 20 #[.string nm, .int .i64 g] W fun e w' => e = .returned (.bool true) ∧ W = w' := fun W => by have := rfile20 (w := W) nm g; rw [cf] at this; exact this
            clear HZd ch cp cb cf
            go_enter Try.func9, Try.ntmps9
            go_upto_region 1 with (refine wp_box rfl 27 (.tmp 0) rfl A rfl ?_; rw [Hw1.out, Hq.out])
            go_wp2_with fail
            refine (t18 _).mono ?_
            rintro e w' ⟨rfl, rfl⟩
            go_wp2_with fail
            refine (t19 _).mono ?_
            rintro e w' ⟨rfl, rfl⟩
            go_wp2_with fail
            refine (t18 _).mono ?_
            rintro e w' ⟨rfl, rfl⟩
            go_wp2_with fail
            refine (t20 _).mono ?_
            rintro e w' ⟨rfl, rfl⟩
            go_wp2_with fail
            go_loop [4] (fun i => i = .int .i64 0) (fun _ => 0)
            case atStart => rfl
            case round =>
              obtain rfl := hrel
              go_wp2_with fail
              go_loop [5] (fun i => i = .int .i64 0) (fun _ => 0)
              case atStart => rfl
              case round =>
                obtain rfl := hrel
                go_wp2_with fail
                go_ret
                exact ⟨by rw [HR.out]; rfl, HB1.out⟩
        · have HR : Hid (Z = 4) := ⟨by rw [HZd.out, if_pos (by unfold al; simp [ci, ch, cp, cb])]⟩
          have fi : (i != 0) = false := by simp [ci]
          have fh : decide (0 < hn) = false := by simp; omega
          have fp : decide (0 < pn) = false := by simp; omega
          have fb : decide (0 < bn) = true := by simp; omega
          clear HZd ci ch cp cb
          go_enter Try.func9, Try.ntmps9
          go_upto_region 1 with (refine wp_box rfl 27 (.tmp 0) rfl A rfl ?_; rw [Hw1.out, Hq.out])
          go_wp2_with fail
          refine (t18 _).mono ?_
          rintro e w' ⟨rfl, rfl⟩
          go_wp2_with fail
          refine (t19 _).mono ?_
          rintro e w' ⟨rfl, rfl⟩
          go_wp2_with fail
          go_ret
          exact ⟨by rw [HR.out]; rfl, HB1.out⟩
      · have HR : Hid (Z = 4) := ⟨by rw [HZd.out, if_pos (by unfold al; simp [ci, ch, cp])]⟩
        have fi : (i != 0) = false := by simp [ci]
        have fh : decide (0 < hn) = false := by simp; omega
        have fp : decide (0 < pn) = true := by simp; omega
        clear HZd ci ch cp
        go_enter Try.func9, Try.ntmps9
        go_upto_region 1 with (refine wp_box rfl 27 (.tmp 0) rfl A rfl ?_; rw [Hw1.out, Hq.out])
        go_wp2_with fail
        refine (t18 _).mono ?_
        rintro e w' ⟨rfl, rfl⟩
        go_wp2_with fail
        refine (t19 _).mono ?_
        rintro e w' ⟨rfl, rfl⟩
        go_wp2_with fail
        go_ret
        exact ⟨by rw [HR.out]; rfl, HB1.out⟩
    · have HR : Hid (Z = 4) := ⟨by rw [HZd.out, if_pos (by unfold al; simp [ci, ch])]⟩
      have fi : (i != 0) = false := by simp [ci]
      have fh : decide (0 < hn) = true := by simp; omega
      clear HZd ci ch
      go_enter Try.func9, Try.ntmps9
      go_upto_region 1 with (refine wp_box rfl 27 (.tmp 0) rfl A rfl ?_; rw [Hw1.out, Hq.out])
      go_wp2_with fail
      refine (t18 _).mono ?_
      rintro e w' ⟨rfl, rfl⟩
      go_wp2_with fail
      refine (t19 _).mono ?_
      rintro e w' ⟨rfl, rfl⟩
      go_wp2_with fail
      go_ret
      exact ⟨by rw [HR.out]; rfl, HB1.out⟩
  · have HR : Hid (Z = 4) := ⟨by rw [HZd.out, if_pos (by unfold al; simp [ci])]⟩
    have fi : (i != 0) = true := by simp; omega
    clear HZd ci
    go_enter Try.func9, Try.ntmps9
    go_upto_region 1 with (refine wp_box rfl 27 (.tmp 0) rfl A rfl ?_; rw [Hw1.out, Hq.out])
    go_wp2_with fail
    refine (t18 _).mono ?_
    rintro e w' ⟨rfl, rfl⟩
    go_wp2_with fail
    refine (t19 _).mono ?_
    rintro e w' ⟨rfl, rfl⟩
    go_wp2_with fail
    go_ret
    exact ⟨by rw [HR.out]; rfl, HB1.out⟩
end
end Go.Proofs.Ythohpbppfihoiaa

/- The document's Check of a note whose kind is 6. -/
namespace Go.Proofs.Ythohpbppfihoiaa
open Go.RowKit Oct

section
variable {w : World}
set_option maxHeartbeats 16000000 in
set_option maxRecDepth 100000 in
theorem rcheck_6 (nm : ByteArray) (g i : Int) (ha pa ba : Option Addr) (hn hc pn pc bn bc : Nat) (H : List Hd) (P : List Pt) (hH : RdE he 2 h0 w (.slice ha hn hc) H) (hHn : H.length = hn) (hP : RdE pe 33 p0 w (.slice pa pn pc) P) (hPn : P.length = pn) :
    Calls Try.prog 9 #[.agg (na 6 nm g i (.slice ha hn hc) (.slice pa pn pc) (.slice ba bn bc))] w fun e w' => e = .returned (.int .i64 (chk 6 nm g i H P bn)) ∧ Below w.heap.size w w' := by
  obtain ⟨Z, HZ⟩ : ∃ x, Hid (chk 6 nm g i H P bn = x) := ⟨_, ⟨rfl⟩⟩
  have HZd : Hid (Z = if al (true, true, false, false, false) nm g i hn pn bn = false then 4 else if 64 < hn ∨ 256 < pn ∨ 512 < bn then 6 else if rt (true, true, false, false, false) nm g i H P bn = false then 2 else 0) := ⟨by
    rw [← HZ.out, ← hHn, ← hPn]
    unfold chk
    rw [if_neg (by decide)]
    rfl⟩
  rw [HZ.out]
  clear HZ
  obtain ⟨q, Hq⟩ : ∃ q, Hid (w.heap.size = q) := ⟨_, ⟨rfl⟩⟩
  obtain ⟨A, HA⟩ : ∃ x, Hid (na 6 nm g i (.slice ha hn hc) (.slice pa pn pc) (.slice ba bn bc) = x) := ⟨_, ⟨rfl⟩⟩
  obtain ⟨w1, Hw1⟩ : ∃ x, Hid (w.alloc (.cells A 27) = x) := ⟨_, ⟨rfl⟩⟩
  have HB1 : Hid (Below w.heap.size w w1) := ⟨by rw [← Hw1.out]; exact (Below.refl _ w).alloc (Nat.le_refl _) _⟩
  have HX1 : Hid (w1.heap[q]? = some (.cells A 27 (0, 0))) := ⟨by rw [← Hw1.out, ← Hq.out]; exact heap_alloc_new w _⟩
  have a0 : w1.cell? ⟨q, 0, none⟩ = some (.int .i64 6) := by rw [cell_of_row _ _ _ _ _ _ HX1.out, ← HA.out]; rfl
  have a1 : w1.cell? ⟨q, 1, none⟩ = some (.string nm) := by rw [cell_of_row _ _ _ _ _ _ HX1.out, ← HA.out]; rfl
  have a2 : w1.cell? ⟨q, 2, none⟩ = some (.int .i64 g) := by rw [cell_of_row _ _ _ _ _ _ HX1.out, ← HA.out]; rfl
  have a3 : w1.cell? ⟨q, 3, none⟩ = some (.int .i64 i) := by rw [cell_of_row _ _ _ _ _ _ HX1.out, ← HA.out]; rfl
  have a4 : w1.cell? ⟨q, 4, none⟩ = some (.slice ha hn hc) := by rw [cell_of_row _ _ _ _ _ _ HX1.out, ← HA.out]; rfl
  have a5 : w1.cell? ⟨q, 5, none⟩ = some (.slice pa pn pc) := by rw [cell_of_row _ _ _ _ _ _ HX1.out, ← HA.out]; rfl
  have a6 : w1.cell? ⟨q, 6, none⟩ = some (.slice ba bn bc) := by rw [cell_of_row _ _ _ _ _ _ HX1.out, ← HA.out]; rfl
  have HHx : Hid (∀ wx, Below w.heap.size w wx → RdE he 2 h0 wx (.slice ha hn hc) H) := ⟨fun wx h => hH.far (Chg.ofBelow (X := []) h) (by simp)⟩
  have HPx : Hid (∀ wx, Below w.heap.size w wx → RdE pe 33 p0 wx (.slice pa pn pc) P) := ⟨fun wx h => hP.far (Chg.ofBelow (X := []) h) (by simp)⟩
  have t18 : ∀ W : World, Calls Try.prog 18 #[.int .i64 6] W fun e w' => e = .returned (.bool true) ∧ W = w' := fun W => hasFile18 (w := W) 6
  have t19 : ∀ W : World, Calls Try.prog 19 #[.int .i64 6] W fun e w' => e = .returned (.bool true) ∧ W = w' := fun W => hasI19 (w := W) 6
  rw [HA.out]
  clear hH hP
  by_cases ch : hn = 0
  · by_cases cp : pn = 0
    · by_cases cb : bn = 0
      · have HE : H = [] := List.length_eq_zero_iff.1 (hHn.trans ch)
        have PE : P = [] := List.length_eq_zero_iff.1 (hPn.trans cp)
        cases cf : flB nm g with
        | false =>
          have HR : Hid (Z = 2) := ⟨by rw [HZd.out, if_neg (by unfold al; simp [ch, cp, cb]), if_neg (by omega), if_pos (by unfold rt; simp [cf])]⟩
          have fh : decide (0 < hn) = false := by simp; omega
          have fp : decide (0 < pn) = false := by simp; omega
          have fb : decide (0 < bn) = false := by simp; omega
          have lh : decide ((64 : Int) < (hn : Int)) = false := decide_eq_false (by omega)
          have lp : decide ((256 : Int) < (pn : Int)) = false := decide_eq_false (by omega)
          have lb : decide ((512 : Int) < (bn : Int)) = false := decide_eq_false (by omega)
          have t20 : ∀ W : World, Calls Try.prog 20 #[.string nm, .int .i64 g] W fun e w' => e = .returned (.bool false) ∧ W = w' := fun W => by have := rfile20 (w := W) nm g; rw [cf] at this; exact this
          clear HZd ch cp cb cf
          go_enter Try.func9, Try.ntmps9
          go_upto_region 1 with (refine wp_box rfl 27 (.tmp 0) rfl A rfl ?_; rw [Hw1.out, Hq.out])
          go_wp2_with fail
          refine (t18 _).mono ?_
          rintro e w' ⟨rfl, rfl⟩
          go_wp2_with fail
          refine (t19 _).mono ?_
          rintro e w' ⟨rfl, rfl⟩
          go_wp2_with fail
          refine (t18 _).mono ?_
          rintro e w' ⟨rfl, rfl⟩
          go_wp2_with fail
          refine (t20 _).mono ?_
          rintro e w' ⟨rfl, rfl⟩
          go_wp2_with fail
          go_ret
          exact ⟨by rw [HR.out]; rfl, HB1.out⟩
        | true =>
          by_cases cn : i < 0
          · have g1 : decide (0 ≤ i) = false := decide_eq_false (by omega)
            have HR : Hid (Z = 2) := ⟨by rw [HZd.out, if_neg (by unfold al; simp [ch, cp, cb]), if_neg (by omega), if_pos (by unfold rt; simp [g1])]⟩
            have fh : decide (0 < hn) = false := by simp; omega
            have fp : decide (0 < pn) = false := by simp; omega
            have fb : decide (0 < bn) = false := by simp; omega
            have lh : decide ((64 : Int) < (hn : Int)) = false := decide_eq_false (by omega)
            have lp : decide ((256 : Int) < (pn : Int)) = false := decide_eq_false (by omega)
            have lb : decide ((512 : Int) < (bn : Int)) = false := decide_eq_false (by omega)
            have t20 : ∀ W : World, Calls Try.prog 20 #[.string nm, .int .i64 g] W fun e w' => e = .returned (.bool true) ∧ W = w' := fun W => by have := rfile20 (w := W) nm g; rw [cf] at this; exact this
            have f1 : decide (i < 0) = true := decide_eq_true (by omega)
            clear HZd ch cp cb cf g1 cn
            go_enter Try.func9, Try.ntmps9
            go_upto_region 1 with (refine wp_box rfl 27 (.tmp 0) rfl A rfl ?_; rw [Hw1.out, Hq.out])
            go_wp2_with fail
            refine (t18 _).mono ?_
            rintro e w' ⟨rfl, rfl⟩
            go_wp2_with fail
            refine (t19 _).mono ?_
            rintro e w' ⟨rfl, rfl⟩
            go_wp2_with fail
            refine (t18 _).mono ?_
            rintro e w' ⟨rfl, rfl⟩
            go_wp2_with fail
            refine (t20 _).mono ?_
            rintro e w' ⟨rfl, rfl⟩
            go_wp2_with fail
            go_ret
            exact ⟨by rw [HR.out]; rfl, HB1.out⟩
          · by_cases cx : 255 < i
            · have g2 : decide (i < 256) = false := decide_eq_false (by omega)
              have HR : Hid (Z = 2) := ⟨by rw [HZd.out, if_neg (by unfold al; simp [ch, cp, cb]), if_neg (by omega), if_pos (by unfold rt; simp [g2])]⟩
              have fh : decide (0 < hn) = false := by simp; omega
              have fp : decide (0 < pn) = false := by simp; omega
              have fb : decide (0 < bn) = false := by simp; omega
              have lh : decide ((64 : Int) < (hn : Int)) = false := decide_eq_false (by omega)
              have lp : decide ((256 : Int) < (pn : Int)) = false := decide_eq_false (by omega)
              have lb : decide ((512 : Int) < (bn : Int)) = false := decide_eq_false (by omega)
              have t20 : ∀ W : World, Calls Try.prog 20 #[.string nm, .int .i64 g] W fun e w' => e = .returned (.bool true) ∧ W = w' := fun W => by have := rfile20 (w := W) nm g; rw [cf] at this; exact this
              have f1 : decide (i < 0) = false := decide_eq_false (by omega)
              have f2 : decide (255 < i) = true := decide_eq_true (by omega)
              clear HZd ch cp cb cf g2 cn cx
              go_enter Try.func9, Try.ntmps9
              go_upto_region 1 with (refine wp_box rfl 27 (.tmp 0) rfl A rfl ?_; rw [Hw1.out, Hq.out])
              go_wp2_with fail
              refine (t18 _).mono ?_
              rintro e w' ⟨rfl, rfl⟩
              go_wp2_with fail
              refine (t19 _).mono ?_
              rintro e w' ⟨rfl, rfl⟩
              go_wp2_with fail
              refine (t18 _).mono ?_
              rintro e w' ⟨rfl, rfl⟩
              go_wp2_with fail
              refine (t20 _).mono ?_
              rintro e w' ⟨rfl, rfl⟩
              go_wp2_with fail
              go_ret
              exact ⟨by rw [HR.out]; rfl, HB1.out⟩
            · have g1 : decide (0 ≤ i) = true := decide_eq_true (by omega)
              have g2 : decide (i < 256) = true := decide_eq_true (by omega)
              have HR : Hid (Z = 0) := ⟨by rw [HZd.out, if_neg (by unfold al; simp [ch, cp, cb]), if_neg (by omega), if_neg (by unfold rt; simp [cf, g1, g2, HE, PE])]⟩
              have fh : decide (0 < hn) = false := by simp; omega
              have fp : decide (0 < pn) = false := by simp; omega
              have fb : decide (0 < bn) = false := by simp; omega
              have lh : decide ((64 : Int) < (hn : Int)) = false := decide_eq_false (by omega)
              have lp : decide ((256 : Int) < (pn : Int)) = false := decide_eq_false (by omega)
              have lb : decide ((512 : Int) < (bn : Int)) = false := decide_eq_false (by omega)
              have t20 : ∀ W : World, Calls Try.prog 20 #[.string nm, .int .i64 g] W fun e w' => e = .returned (.bool true) ∧ W = w' := fun W => by have := rfile20 (w := W) nm g; rw [cf] at this; exact this
              have f1 : decide (i < 0) = false := decide_eq_false (by omega)
              have f2 : decide (255 < i) = false := decide_eq_false (by omega)
              clear HZd ch cp cb cf g1 g2 cn cx
              go_enter Try.func9, Try.ntmps9
              go_upto_region 1 with (refine wp_box rfl 27 (.tmp 0) rfl A rfl ?_; rw [Hw1.out, Hq.out])
              go_wp2_with fail
              refine (t18 _).mono ?_
              rintro e w' ⟨rfl, rfl⟩
              go_wp2_with fail
              refine (t19 _).mono ?_
              rintro e w' ⟨rfl, rfl⟩
              go_wp2_with fail
              refine (t18 _).mono ?_
              rintro e w' ⟨rfl, rfl⟩
              go_wp2_with fail
              refine (t20 _).mono ?_
              rintro e w' ⟨rfl, rfl⟩
              go_wp2_with fail
              go_loop [4] (fun i => i = .int .i64 0) (fun _ => 0)
              case atStart => rfl
              case round =>
                obtain rfl := hrel
                go_wp2_with fail
                go_loop [5] (fun i => i = .int .i64 0) (fun _ => 0)
                case atStart => rfl
                case round =>
                  obtain rfl := hrel
                  go_wp2_with fail
                  go_ret
                  exact ⟨by rw [HR.out]; rfl, HB1.out⟩
      · have HR : Hid (Z = 4) := ⟨by rw [HZd.out, if_pos (by unfold al; simp [ch, cp, cb])]⟩
        have fh : decide (0 < hn) = false := by simp; omega
        have fp : decide (0 < pn) = false := by simp; omega
        have fb : decide (0 < bn) = true := by simp; omega
        clear HZd ch cp cb
        go_enter Try.func9, Try.ntmps9
        go_upto_region 1 with (refine wp_box rfl 27 (.tmp 0) rfl A rfl ?_; rw [Hw1.out, Hq.out])
        go_wp2_with fail
        refine (t18 _).mono ?_
        rintro e w' ⟨rfl, rfl⟩
        go_wp2_with fail
        refine (t19 _).mono ?_
        rintro e w' ⟨rfl, rfl⟩
        go_wp2_with fail
        go_ret
        exact ⟨by rw [HR.out]; rfl, HB1.out⟩
    · have HR : Hid (Z = 4) := ⟨by rw [HZd.out, if_pos (by unfold al; simp [ch, cp])]⟩
      have fh : decide (0 < hn) = false := by simp; omega
      have fp : decide (0 < pn) = true := by simp; omega
      clear HZd ch cp
      go_enter Try.func9, Try.ntmps9
      go_upto_region 1 with (refine wp_box rfl 27 (.tmp 0) rfl A rfl ?_; rw [Hw1.out, Hq.out])
      go_wp2_with fail
      refine (t18 _).mono ?_
      rintro e w' ⟨rfl, rfl⟩
      go_wp2_with fail
      refine (t19 _).mono ?_
      rintro e w' ⟨rfl, rfl⟩
      go_wp2_with fail
      go_ret
      exact ⟨by rw [HR.out]; rfl, HB1.out⟩
  · have HR : Hid (Z = 4) := ⟨by rw [HZd.out, if_pos (by unfold al; simp [ch])]⟩
    have fh : decide (0 < hn) = true := by simp; omega
    clear HZd ch
    go_enter Try.func9, Try.ntmps9
    go_upto_region 1 with (refine wp_box rfl 27 (.tmp 0) rfl A rfl ?_; rw [Hw1.out, Hq.out])
    go_wp2_with fail
    refine (t18 _).mono ?_
    rintro e w' ⟨rfl, rfl⟩
    go_wp2_with fail
    refine (t19 _).mono ?_
    rintro e w' ⟨rfl, rfl⟩
    go_wp2_with fail
    go_ret
    exact ⟨by rw [HR.out]; rfl, HB1.out⟩
end
end Go.Proofs.Ythohpbppfihoiaa

/- The document's Check of a note whose kind is 7. -/
namespace Go.Proofs.Ythohpbppfihoiaa
open Go.RowKit Oct

section
variable {w : World}
set_option maxHeartbeats 16000000 in
set_option maxRecDepth 100000 in
theorem rcheck_7 (nm : ByteArray) (g i : Int) (ha pa ba : Option Addr) (hn hc pn pc bn bc : Nat) (H : List Hd) (P : List Pt) (hH : RdE he 2 h0 w (.slice ha hn hc) H) (hHn : H.length = hn) (hP : RdE pe 33 p0 w (.slice pa pn pc) P) (hPn : P.length = pn) :
    Calls Try.prog 9 #[.agg (na 7 nm g i (.slice ha hn hc) (.slice pa pn pc) (.slice ba bn bc))] w fun e w' => e = .returned (.int .i64 (chk 7 nm g i H P bn)) ∧ Below w.heap.size w w' := by
  obtain ⟨Z, HZ⟩ : ∃ x, Hid (chk 7 nm g i H P bn = x) := ⟨_, ⟨rfl⟩⟩
  have HZd : Hid (Z = if al (true, true, false, false, true) nm g i hn pn bn = false then 4 else if 64 < hn ∨ 256 < pn ∨ 512 < bn then 6 else if rt (true, true, false, false, true) nm g i H P bn = false then 2 else 0) := ⟨by
    rw [← HZ.out, ← hHn, ← hPn]
    unfold chk
    rw [if_neg (by decide)]
    rfl⟩
  rw [HZ.out]
  clear HZ
  obtain ⟨q, Hq⟩ : ∃ q, Hid (w.heap.size = q) := ⟨_, ⟨rfl⟩⟩
  obtain ⟨A, HA⟩ : ∃ x, Hid (na 7 nm g i (.slice ha hn hc) (.slice pa pn pc) (.slice ba bn bc) = x) := ⟨_, ⟨rfl⟩⟩
  obtain ⟨w1, Hw1⟩ : ∃ x, Hid (w.alloc (.cells A 27) = x) := ⟨_, ⟨rfl⟩⟩
  have HB1 : Hid (Below w.heap.size w w1) := ⟨by rw [← Hw1.out]; exact (Below.refl _ w).alloc (Nat.le_refl _) _⟩
  have HX1 : Hid (w1.heap[q]? = some (.cells A 27 (0, 0))) := ⟨by rw [← Hw1.out, ← Hq.out]; exact heap_alloc_new w _⟩
  have a0 : w1.cell? ⟨q, 0, none⟩ = some (.int .i64 7) := by rw [cell_of_row _ _ _ _ _ _ HX1.out, ← HA.out]; rfl
  have a1 : w1.cell? ⟨q, 1, none⟩ = some (.string nm) := by rw [cell_of_row _ _ _ _ _ _ HX1.out, ← HA.out]; rfl
  have a2 : w1.cell? ⟨q, 2, none⟩ = some (.int .i64 g) := by rw [cell_of_row _ _ _ _ _ _ HX1.out, ← HA.out]; rfl
  have a3 : w1.cell? ⟨q, 3, none⟩ = some (.int .i64 i) := by rw [cell_of_row _ _ _ _ _ _ HX1.out, ← HA.out]; rfl
  have a4 : w1.cell? ⟨q, 4, none⟩ = some (.slice ha hn hc) := by rw [cell_of_row _ _ _ _ _ _ HX1.out, ← HA.out]; rfl
  have a5 : w1.cell? ⟨q, 5, none⟩ = some (.slice pa pn pc) := by rw [cell_of_row _ _ _ _ _ _ HX1.out, ← HA.out]; rfl
  have a6 : w1.cell? ⟨q, 6, none⟩ = some (.slice ba bn bc) := by rw [cell_of_row _ _ _ _ _ _ HX1.out, ← HA.out]; rfl
  have HHx : Hid (∀ wx, Below w.heap.size w wx → RdE he 2 h0 wx (.slice ha hn hc) H) := ⟨fun wx h => hH.far (Chg.ofBelow (X := []) h) (by simp)⟩
  have HPx : Hid (∀ wx, Below w.heap.size w wx → RdE pe 33 p0 wx (.slice pa pn pc) P) := ⟨fun wx h => hP.far (Chg.ofBelow (X := []) h) (by simp)⟩
  have t18 : ∀ W : World, Calls Try.prog 18 #[.int .i64 7] W fun e w' => e = .returned (.bool true) ∧ W = w' := fun W => hasFile18 (w := W) 7
  have t19 : ∀ W : World, Calls Try.prog 19 #[.int .i64 7] W fun e w' => e = .returned (.bool true) ∧ W = w' := fun W => hasI19 (w := W) 7
  rw [HA.out]
  clear hH hP
  by_cases ch : hn = 0
  · by_cases cp : pn = 0
    · have HE : H = [] := List.length_eq_zero_iff.1 (hHn.trans ch)
      have PE : P = [] := List.length_eq_zero_iff.1 (hPn.trans cp)
      by_cases cl : 512 < bn
      · have HR : Hid (Z = 6) := ⟨by rw [HZd.out, if_neg (by unfold al; simp [ch, cp]), if_pos (by omega)]⟩
        have fh : decide (0 < hn) = false := by simp; omega
        have fp : decide (0 < pn) = false := by simp; omega
        have lh : decide ((64 : Int) < (hn : Int)) = false := decide_eq_false (by omega)
        have lp : decide ((256 : Int) < (pn : Int)) = false := decide_eq_false (by omega)
        have lb : decide ((512 : Int) < (bn : Int)) = true := decide_eq_true (by omega)
        clear HZd ch cp cl
        go_enter Try.func9, Try.ntmps9
        go_upto_region 1 with (refine wp_box rfl 27 (.tmp 0) rfl A rfl ?_; rw [Hw1.out, Hq.out])
        go_wp2_with fail
        refine (t18 _).mono ?_
        rintro e w' ⟨rfl, rfl⟩
        go_wp2_with fail
        refine (t19 _).mono ?_
        rintro e w' ⟨rfl, rfl⟩
        go_wp2_with fail
        go_ret
        exact ⟨by rw [HR.out]; rfl, HB1.out⟩
      · cases cf : flB nm g with
        | false =>
          have HR : Hid (Z = 2) := ⟨by rw [HZd.out, if_neg (by unfold al; simp [ch, cp]), if_neg (by omega), if_pos (by unfold rt; simp [cf])]⟩
          have fh : decide (0 < hn) = false := by simp; omega
          have fp : decide (0 < pn) = false := by simp; omega
          have lh : decide ((64 : Int) < (hn : Int)) = false := decide_eq_false (by omega)
          have lp : decide ((256 : Int) < (pn : Int)) = false := decide_eq_false (by omega)
          have lb : decide ((512 : Int) < (bn : Int)) = false := decide_eq_false (by omega)
          have t20 : ∀ W : World, Calls Try.prog 20 #[.string nm, .int .i64 g] W fun e w' => e = .returned (.bool false) ∧ W = w' := fun W => by have := rfile20 (w := W) nm g; rw [cf] at this; exact this
          clear HZd ch cp cl cf
          go_enter Try.func9, Try.ntmps9
          go_upto_region 1 with (refine wp_box rfl 27 (.tmp 0) rfl A rfl ?_; rw [Hw1.out, Hq.out])
          go_wp2_with fail
          refine (t18 _).mono ?_
          rintro e w' ⟨rfl, rfl⟩
          go_wp2_with fail
          refine (t19 _).mono ?_
          rintro e w' ⟨rfl, rfl⟩
          go_wp2_with fail
          refine (t18 _).mono ?_
          rintro e w' ⟨rfl, rfl⟩
          go_wp2_with fail
          refine (t20 _).mono ?_
          rintro e w' ⟨rfl, rfl⟩
          go_wp2_with fail
          go_ret
          exact ⟨by rw [HR.out]; rfl, HB1.out⟩
        | true =>
          by_cases cn : i < 0
          · have g1 : decide (0 ≤ i) = false := decide_eq_false (by omega)
            have HR : Hid (Z = 2) := ⟨by rw [HZd.out, if_neg (by unfold al; simp [ch, cp]), if_neg (by omega), if_pos (by unfold rt; simp [g1])]⟩
            have fh : decide (0 < hn) = false := by simp; omega
            have fp : decide (0 < pn) = false := by simp; omega
            have lh : decide ((64 : Int) < (hn : Int)) = false := decide_eq_false (by omega)
            have lp : decide ((256 : Int) < (pn : Int)) = false := decide_eq_false (by omega)
            have lb : decide ((512 : Int) < (bn : Int)) = false := decide_eq_false (by omega)
            have t20 : ∀ W : World, Calls Try.prog 20 #[.string nm, .int .i64 g] W fun e w' => e = .returned (.bool true) ∧ W = w' := fun W => by have := rfile20 (w := W) nm g; rw [cf] at this; exact this
            have f1 : decide (i < 0) = true := decide_eq_true (by omega)
            clear HZd ch cp cl cf g1 cn
            go_enter Try.func9, Try.ntmps9
            go_upto_region 1 with (refine wp_box rfl 27 (.tmp 0) rfl A rfl ?_; rw [Hw1.out, Hq.out])
            go_wp2_with fail
            refine (t18 _).mono ?_
            rintro e w' ⟨rfl, rfl⟩
            go_wp2_with fail
            refine (t19 _).mono ?_
            rintro e w' ⟨rfl, rfl⟩
            go_wp2_with fail
            refine (t18 _).mono ?_
            rintro e w' ⟨rfl, rfl⟩
            go_wp2_with fail
            refine (t20 _).mono ?_
            rintro e w' ⟨rfl, rfl⟩
            go_wp2_with fail
            go_ret
            exact ⟨by rw [HR.out]; rfl, HB1.out⟩
          · by_cases cx : 255 < i
            · have g2 : decide (i < 256) = false := decide_eq_false (by omega)
              have HR : Hid (Z = 2) := ⟨by rw [HZd.out, if_neg (by unfold al; simp [ch, cp]), if_neg (by omega), if_pos (by unfold rt; simp [g2])]⟩
              have fh : decide (0 < hn) = false := by simp; omega
              have fp : decide (0 < pn) = false := by simp; omega
              have lh : decide ((64 : Int) < (hn : Int)) = false := decide_eq_false (by omega)
              have lp : decide ((256 : Int) < (pn : Int)) = false := decide_eq_false (by omega)
              have lb : decide ((512 : Int) < (bn : Int)) = false := decide_eq_false (by omega)
              have t20 : ∀ W : World, Calls Try.prog 20 #[.string nm, .int .i64 g] W fun e w' => e = .returned (.bool true) ∧ W = w' := fun W => by have := rfile20 (w := W) nm g; rw [cf] at this; exact this
              have f1 : decide (i < 0) = false := decide_eq_false (by omega)
              have f2 : decide (255 < i) = true := decide_eq_true (by omega)
              clear HZd ch cp cl cf g2 cn cx
              go_enter Try.func9, Try.ntmps9
              go_upto_region 1 with (refine wp_box rfl 27 (.tmp 0) rfl A rfl ?_; rw [Hw1.out, Hq.out])
              go_wp2_with fail
              refine (t18 _).mono ?_
              rintro e w' ⟨rfl, rfl⟩
              go_wp2_with fail
              refine (t19 _).mono ?_
              rintro e w' ⟨rfl, rfl⟩
              go_wp2_with fail
              refine (t18 _).mono ?_
              rintro e w' ⟨rfl, rfl⟩
              go_wp2_with fail
              refine (t20 _).mono ?_
              rintro e w' ⟨rfl, rfl⟩
              go_wp2_with fail
              go_ret
              exact ⟨by rw [HR.out]; rfl, HB1.out⟩
            · have g1 : decide (0 ≤ i) = true := decide_eq_true (by omega)
              have g2 : decide (i < 256) = true := decide_eq_true (by omega)
              by_cases cb : bn = 0
              · have HR : Hid (Z = 2) := ⟨by rw [HZd.out, if_neg (by unfold al; simp [ch, cp]), if_neg (by omega), if_pos (by unfold rt; simp [cb])]⟩
                have fh : decide (0 < hn) = false := by simp; omega
                have fp : decide (0 < pn) = false := by simp; omega
                have lh : decide ((64 : Int) < (hn : Int)) = false := decide_eq_false (by omega)
                have lp : decide ((256 : Int) < (pn : Int)) = false := decide_eq_false (by omega)
                have lb : decide ((512 : Int) < (bn : Int)) = false := decide_eq_false (by omega)
                have t20 : ∀ W : World, Calls Try.prog 20 #[.string nm, .int .i64 g] W fun e w' => e = .returned (.bool true) ∧ W = w' := fun W => by have := rfile20 (w := W) nm g; rw [cf] at this; exact this
                have f1 : decide (i < 0) = false := decide_eq_false (by omega)
                have f2 : decide (255 < i) = false := decide_eq_false (by omega)
                have fb : ((bn : Int) == 0) = true := by simp [cb]
                clear HZd ch cp cl cf g1 g2 cn cx cb
                go_enter Try.func9, Try.ntmps9
                go_upto_region 1 with (refine wp_box rfl 27 (.tmp 0) rfl A rfl ?_; rw [Hw1.out, Hq.out])
                go_wp2_with fail
                refine (t18 _).mono ?_
                rintro e w' ⟨rfl, rfl⟩
                go_wp2_with fail
                refine (t19 _).mono ?_
                rintro e w' ⟨rfl, rfl⟩
                go_wp2_with fail
                refine (t18 _).mono ?_
                rintro e w' ⟨rfl, rfl⟩
                go_wp2_with fail
                refine (t20 _).mono ?_
                rintro e w' ⟨rfl, rfl⟩
                go_wp2_with fail
                go_ret
                exact ⟨by rw [HR.out]; rfl, HB1.out⟩
              · have g3 : decide (0 < bn) = true := decide_eq_true (by omega)
                have HR : Hid (Z = 0) := ⟨by rw [HZd.out, if_neg (by unfold al; simp [ch, cp]), if_neg (by omega), if_neg (by unfold rt; simp [cf, g1, g2, g3, HE, PE])]⟩
                have fh : decide (0 < hn) = false := by simp; omega
                have fp : decide (0 < pn) = false := by simp; omega
                have lh : decide ((64 : Int) < (hn : Int)) = false := decide_eq_false (by omega)
                have lp : decide ((256 : Int) < (pn : Int)) = false := decide_eq_false (by omega)
                have lb : decide ((512 : Int) < (bn : Int)) = false := decide_eq_false (by omega)
                have t20 : ∀ W : World, Calls Try.prog 20 #[.string nm, .int .i64 g] W fun e w' => e = .returned (.bool true) ∧ W = w' := fun W => by have := rfile20 (w := W) nm g; rw [cf] at this; exact this
                have f1 : decide (i < 0) = false := decide_eq_false (by omega)
                have f2 : decide (255 < i) = false := decide_eq_false (by omega)
                have fb : ((bn : Int) == 0) = false := by simp [cb]
                clear HZd ch cp cl cf g1 g2 cn cx cb g3
                go_enter Try.func9, Try.ntmps9
                go_upto_region 1 with (refine wp_box rfl 27 (.tmp 0) rfl A rfl ?_; rw [Hw1.out, Hq.out])
                go_wp2_with fail
                refine (t18 _).mono ?_
                rintro e w' ⟨rfl, rfl⟩
                go_wp2_with fail
                refine (t19 _).mono ?_
                rintro e w' ⟨rfl, rfl⟩
                go_wp2_with fail
                refine (t18 _).mono ?_
                rintro e w' ⟨rfl, rfl⟩
                go_wp2_with fail
                refine (t20 _).mono ?_
                rintro e w' ⟨rfl, rfl⟩
                go_wp2_with fail
                go_loop [4] (fun i => i = .int .i64 0) (fun _ => 0)
                case atStart => rfl
                case round =>
                  obtain rfl := hrel
                  go_wp2_with fail
                  go_loop [5] (fun i => i = .int .i64 0) (fun _ => 0)
                  case atStart => rfl
                  case round =>
                    obtain rfl := hrel
                    go_wp2_with fail
                    go_ret
                    exact ⟨by rw [HR.out]; rfl, HB1.out⟩
    · have HR : Hid (Z = 4) := ⟨by rw [HZd.out, if_pos (by unfold al; simp [ch, cp])]⟩
      have fh : decide (0 < hn) = false := by simp; omega
      have fp : decide (0 < pn) = true := by simp; omega
      clear HZd ch cp
      go_enter Try.func9, Try.ntmps9
      go_upto_region 1 with (refine wp_box rfl 27 (.tmp 0) rfl A rfl ?_; rw [Hw1.out, Hq.out])
      go_wp2_with fail
      refine (t18 _).mono ?_
      rintro e w' ⟨rfl, rfl⟩
      go_wp2_with fail
      refine (t19 _).mono ?_
      rintro e w' ⟨rfl, rfl⟩
      go_wp2_with fail
      go_ret
      exact ⟨by rw [HR.out]; rfl, HB1.out⟩
  · have HR : Hid (Z = 4) := ⟨by rw [HZd.out, if_pos (by unfold al; simp [ch])]⟩
    have fh : decide (0 < hn) = true := by simp; omega
    clear HZd ch
    go_enter Try.func9, Try.ntmps9
    go_upto_region 1 with (refine wp_box rfl 27 (.tmp 0) rfl A rfl ?_; rw [Hw1.out, Hq.out])
    go_wp2_with fail
    refine (t18 _).mono ?_
    rintro e w' ⟨rfl, rfl⟩
    go_wp2_with fail
    refine (t19 _).mono ?_
    rintro e w' ⟨rfl, rfl⟩
    go_wp2_with fail
    go_ret
    exact ⟨by rw [HR.out]; rfl, HB1.out⟩
end
end Go.Proofs.Ythohpbppfihoiaa
