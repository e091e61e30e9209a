/- Texts joined into one: V31, V32, V33, V34, V35, V36, V37. -/
import Derived.Test.YthohpbppfihoiaaV3
/- The document's Put of a right note whose kind is 1. -/
namespace Go.Proofs.Ythohpbppfihoiaa
open Go.RowKit

section
variable {w : World}
set_option maxHeartbeats 16000000 in
set_option maxRecDepth 100000 in
theorem rput_1 (nm : ByteArray) (g i : Nat) (ha pa ba : Option Addr) (hn hc pn pc bn bc : Nat) (H : List Hd) (P : List Pt) (bs : List Int) (hH : RdE he 2 h0 w (.slice ha hn hc) H) (hHn : H.length = hn) (hP : RdE pe 33 p0 w (.slice pa pn pc) P) (hPn : P.length = pn) (hb : Oct.Bs w (.slice ba bn bc) bs) (hbn : bs.length = bn) (h32 : ∀ p ∈ P, p.1.length = 32) (h256 : ∀ z ∈ bs, 0 ≤ z ∧ z < 256) (hk : chk 1 nm g i H P bn = 0) :
    Calls Try.prog 11 #[.agg (na 1 nm (g : Int) (i : Int) (.slice ha hn hc) (.slice pa pn pc) (.slice ba bn bc))] w fun e w' => ∃ v, e = .returned (.tuple #[v, .int .i64 0]) ∧ OwnY w' w.heap.size v (Oct.numB 1) ∧ Below w.heap.size w w' := by
  have R := right_of hk
  have him : (i : Int) < 256 := R.i.2
  have HHl : Hid (H.length ≤ 64) := ⟨R.hl⟩
  have HPl : Hid (P.length ≤ 256) := ⟨R.pl⟩
  have HBl : Hid (bs.length ≤ 512) := ⟨by rw [hbn]; exact R.bl⟩
  have HHd : Hid (∀ x ∈ H, HdB x) := ⟨R.hd⟩
  have HPt : Hid (∀ x ∈ P, PtB x) := ⟨fun x hx => R.pt x hx (h32 x hx)⟩
  have HHn : Hid (H.length = hn) := ⟨hHn⟩
  have HPn : Hid (P.length = pn) := ⟨hPn⟩
  have HBn : Hid (bs.length = bn) := ⟨hbn⟩
  have H256 : Hid (∀ z ∈ bs, 0 ≤ z ∧ z < 256) := ⟨h256⟩
  obtain ⟨q, Hq⟩ : ∃ q, Hid (w.heap.size = q) := ⟨_, ⟨rfl⟩⟩
  obtain ⟨A, HA⟩ : ∃ x, Hid (na 1 nm (g : Int) (i : Int) (.slice ha hn hc) (.slice pa pn pc) (.slice ba bn bc) = x) := ⟨_, ⟨rfl⟩⟩
  obtain ⟨w1, Hw1⟩ : ∃ x, Hid (w.alloc (.cells A 27) = x) := ⟨_, ⟨rfl⟩⟩
  have HB0 : Hid (Below w.heap.size w w1) := ⟨by rw [← Hw1.out]; exact (Below.refl _ w).alloc (Nat.le_refl _) _⟩
  have HX1 : Hid (w1.heap[q]? = some (.cells A 27 (0, 0))) := ⟨by rw [← Hw1.out, ← Hq.out]; exact heap_alloc_new w _⟩
  have hq : q < w1.heap.size := (Array.getElem?_eq_some_iff.1 HX1.out).1
  have HIA : Hid ((Try.prog.info? 27).map (·.size) = some A.size) := ⟨by rw [← HA.out]; exact info27⟩
  have HHx : Hid (∀ wx, Below w1.heap.size w1 wx → RdE he 2 h0 wx (.slice ha hn hc) H) := ⟨fun wx h => hH.far (Chg.ofBelow (X := []) (HB0.out.trans (h.mono HB0.out.size))) (by simp)⟩
  have HPx : Hid (∀ wx, Below w1.heap.size w1 wx → RdE pe 33 p0 wx (.slice pa pn pc) P) := ⟨fun wx h => hP.far (Chg.ofBelow (X := []) (HB0.out.trans (h.mono HB0.out.size))) (by simp)⟩
  have HBx : Hid (∀ wx, Below w1.heap.size w1 wx → Oct.Bs wx (.slice ba bn bc) bs) := ⟨fun wx h => hb.below (HB0.out.trans (h.mono HB0.out.size))⟩
  have t9 := rcheck9 (w := w1) 1 nm (g : Int) (i : Int) ha pa ba hn hc pn pc bn bc H P (HHx.out w1 (Below.refl _ _)) hHn (HPx.out w1 (Below.refl _ _)) hPn
  rw [hk] at t9
  have t18 : ∀ W : World, Calls Try.prog 18 #[.int .i64 1] W fun e w' => e = .returned (.bool false) ∧ W = w' := fun W => hasFile18 (w := W) 1
  have t19 : ∀ W : World, Calls Try.prog 19 #[.int .i64 1] W fun e w' => e = .returned (.bool false) ∧ W = w' := fun W => hasI19 (w := W) 1
  rw [HA.out] at t9 ⊢
  clear hH hP hb R hk h32 hHn hPn hbn h256
  go_enter Try.func11, Try.ntmps11
  go_upto_region 1 with (refine wp_box rfl 27 (.tmp 0) rfl A rfl ?_; rw [Hw1.out, Hq.out])
  go_wp2_with (refine wp_load rfl 27 (.tmp 1) rfl q rfl A 27 (0, 0) _ HX1.out Try.underlying27 rfl HIA.out ?_)
  refine t9.mono ?_
  rintro e w2 ⟨rfl, hB2⟩
  have HB2 : Hid (Below w1.heap.size w1 w2) := ⟨hB2⟩
  clear t9 hB2
  have HX2 := Hid.mk ((HB2.out.block q hq).trans HX1.out)
  have y0_2 : w2.cell? ⟨q, 0, none⟩ = some (.int .i64 1) := by rw [cell_of_row _ _ _ _ _ _ HX2.out, ← HA.out]; rfl
  have y1_2 : w2.cell? ⟨q, 1, none⟩ = some (.string nm) := by rw [cell_of_row _ _ _ _ _ _ HX2.out, ← HA.out]; rfl
  have y2_2 : w2.cell? ⟨q, 2, none⟩ = some (.int .i64 (g : Int)) := by rw [cell_of_row _ _ _ _ _ _ HX2.out, ← HA.out]; rfl
  have y3_2 : w2.cell? ⟨q, 3, none⟩ = some (.int .i64 (i : Int)) := by rw [cell_of_row _ _ _ _ _ _ HX2.out, ← HA.out]; rfl
  have y4_2 : w2.cell? ⟨q, 4, none⟩ = some (.slice ha hn hc) := by rw [cell_of_row _ _ _ _ _ _ HX2.out, ← HA.out]; rfl
  have y5_2 : w2.cell? ⟨q, 5, none⟩ = some (.slice pa pn pc) := by rw [cell_of_row _ _ _ _ _ _ HX2.out, ← HA.out]; rfl
  have y6_2 : w2.cell? ⟨q, 6, none⟩ = some (.slice ba bn bc) := by rw [cell_of_row _ _ _ _ _ _ HX2.out, ← HA.out]; rfl
  go_wp2_with fail
  refine (rnum29 (w := w2) (.slice none 0 0) [] (Oct.Bs.nil w2) (by simp) 1 (by decide)).mono ?_
  rintro e w3 ⟨v3, rfl, hO3, hB3⟩
  have HB3 : Hid (Below w1.heap.size w1 w3) := ⟨HB2.out.trans (hB3.mono HB2.out.size)⟩
  have hO3' : OwnY w3 w1.heap.size v3 ([] ++ Oct.numB 1) := Oct.OwnB.mono hO3 HB2.out.size
  obtain ⟨X3, HXd3⟩ : ∃ X, Hid ([] ++ Oct.numB 1 = X) := ⟨_, ⟨rfl⟩⟩
  have HXl3 : Hid (X3.length ≤ 40000) := ⟨by rw [← HXd3.out]; simp only [List.length_append, List.length_nil]; have := Oct.numB_len8 1 (by decide); omega⟩
  rw [HXd3.out] at hO3'
  obtain ⟨a3, c3, e, _⟩ := OwnY.shape hO3'
  subst e
  have HO3 : Hid (OwnY w3 w1.heap.size (.slice a3 X3.length c3) X3) := ⟨hO3'⟩
  clear hO3 hO3' hB3
  clear y0_2 y1_2 y2_2 y3_2 y4_2 y5_2 y6_2
  have HX3 := Hid.mk ((HB3.out.block q hq).trans HX1.out)
  have y0_3 : w3.cell? ⟨q, 0, none⟩ = some (.int .i64 1) := by rw [cell_of_row _ _ _ _ _ _ HX3.out, ← HA.out]; rfl
  have y1_3 : w3.cell? ⟨q, 1, none⟩ = some (.string nm) := by rw [cell_of_row _ _ _ _ _ _ HX3.out, ← HA.out]; rfl
  have y2_3 : w3.cell? ⟨q, 2, none⟩ = some (.int .i64 (g : Int)) := by rw [cell_of_row _ _ _ _ _ _ HX3.out, ← HA.out]; rfl
  have y3_3 : w3.cell? ⟨q, 3, none⟩ = some (.int .i64 (i : Int)) := by rw [cell_of_row _ _ _ _ _ _ HX3.out, ← HA.out]; rfl
  have y4_3 : w3.cell? ⟨q, 4, none⟩ = some (.slice ha hn hc) := by rw [cell_of_row _ _ _ _ _ _ HX3.out, ← HA.out]; rfl
  have y5_3 : w3.cell? ⟨q, 5, none⟩ = some (.slice pa pn pc) := by rw [cell_of_row _ _ _ _ _ _ HX3.out, ← HA.out]; rfl
  have y6_3 : w3.cell? ⟨q, 6, none⟩ = some (.slice ba bn bc) := by rw [cell_of_row _ _ _ _ _ _ HX3.out, ← HA.out]; rfl
  go_wp2_with fail
  refine (t18 _).mono ?_
  rintro e w' ⟨rfl, rfl⟩
  go_wp2_with fail
  refine (t19 _).mono ?_
  rintro e w' ⟨rfl, rfl⟩
  go_wp2_with fail
  go_ret2
  have HE : Hid (Oct.numB 1 = X3) := ⟨by rw [← HXd3.out]; simp⟩
  rw [HE.out]
  exact ⟨_, rfl, Oct.OwnB.mono HO3.out HB0.out.size, HB0.out.trans (HB3.out.mono HB0.out.size)⟩
end
end Go.Proofs.Ythohpbppfihoiaa

/- The document's Put of a right note whose kind is 2. -/
namespace Go.Proofs.Ythohpbppfihoiaa
open Go.RowKit

section
variable {w : World}
set_option maxHeartbeats 16000000 in
set_option maxRecDepth 100000 in
theorem rput_2 (nm : ByteArray) (g i : Nat) (ha pa ba : Option Addr) (hn hc pn pc bn bc : Nat) (H : List Hd) (P : List Pt) (bs : List Int) (hH : RdE he 2 h0 w (.slice ha hn hc) H) (hHn : H.length = hn) (hP : RdE pe 33 p0 w (.slice pa pn pc) P) (hPn : P.length = pn) (hb : Oct.Bs w (.slice ba bn bc) bs) (hbn : bs.length = bn) (h32 : ∀ p ∈ P, p.1.length = 32) (h256 : ∀ z ∈ bs, 0 ≤ z ∧ z < 256) (hk : chk 2 nm g i H P bn = 0) :
    Calls Try.prog 11 #[.agg (na 2 nm (g : Int) (i : Int) (.slice ha hn hc) (.slice pa pn pc) (.slice ba bn bc))] w fun e w' => ∃ v, e = .returned (.tuple #[v, .int .i64 0]) ∧ OwnY w' w.heap.size v (Oct.numB 2 ++ lB hB H) ∧ Below w.heap.size w w' := by
  have R := right_of hk
  have him : (i : Int) < 256 := R.i.2
  have HHl : Hid (H.length ≤ 64) := ⟨R.hl⟩
  have HPl : Hid (P.length ≤ 256) := ⟨R.pl⟩
  have HBl : Hid (bs.length ≤ 512) := ⟨by rw [hbn]; exact R.bl⟩
  have HHd : Hid (∀ x ∈ H, HdB x) := ⟨R.hd⟩
  have HPt : Hid (∀ x ∈ P, PtB x) := ⟨fun x hx => R.pt x hx (h32 x hx)⟩
  have HHn : Hid (H.length = hn) := ⟨hHn⟩
  have HPn : Hid (P.length = pn) := ⟨hPn⟩
  have HBn : Hid (bs.length = bn) := ⟨hbn⟩
  have H256 : Hid (∀ z ∈ bs, 0 ≤ z ∧ z < 256) := ⟨h256⟩
  obtain ⟨q, Hq⟩ : ∃ q, Hid (w.heap.size = q) := ⟨_, ⟨rfl⟩⟩
  obtain ⟨A, HA⟩ : ∃ x, Hid (na 2 nm (g : Int) (i : Int) (.slice ha hn hc) (.slice pa pn pc) (.slice ba bn bc) = x) := ⟨_, ⟨rfl⟩⟩
  obtain ⟨w1, Hw1⟩ : ∃ x, Hid (w.alloc (.cells A 27) = x) := ⟨_, ⟨rfl⟩⟩
  have HB0 : Hid (Below w.heap.size w w1) := ⟨by rw [← Hw1.out]; exact (Below.refl _ w).alloc (Nat.le_refl _) _⟩
  have HX1 : Hid (w1.heap[q]? = some (.cells A 27 (0, 0))) := ⟨by rw [← Hw1.out, ← Hq.out]; exact heap_alloc_new w _⟩
  have hq : q < w1.heap.size := (Array.getElem?_eq_some_iff.1 HX1.out).1
  have HIA : Hid ((Try.prog.info? 27).map (·.size) = some A.size) := ⟨by rw [← HA.out]; exact info27⟩
  have HHx : Hid (∀ wx, Below w1.heap.size w1 wx → RdE he 2 h0 wx (.slice ha hn hc) H) := ⟨fun wx h => hH.far (Chg.ofBelow (X := []) (HB0.out.trans (h.mono HB0.out.size))) (by simp)⟩
  have HPx : Hid (∀ wx, Below w1.heap.size w1 wx → RdE pe 33 p0 wx (.slice pa pn pc) P) := ⟨fun wx h => hP.far (Chg.ofBelow (X := []) (HB0.out.trans (h.mono HB0.out.size))) (by simp)⟩
  have HBx : Hid (∀ wx, Below w1.heap.size w1 wx → Oct.Bs wx (.slice ba bn bc) bs) := ⟨fun wx h => hb.below (HB0.out.trans (h.mono HB0.out.size))⟩
  have t9 := rcheck9 (w := w1) 2 nm (g : Int) (i : Int) ha pa ba hn hc pn pc bn bc H P (HHx.out w1 (Below.refl _ _)) hHn (HPx.out w1 (Below.refl _ _)) hPn
  rw [hk] at t9
  have t18 : ∀ W : World, Calls Try.prog 18 #[.int .i64 2] W fun e w' => e = .returned (.bool false) ∧ W = w' := fun W => hasFile18 (w := W) 2
  have t19 : ∀ W : World, Calls Try.prog 19 #[.int .i64 2] W fun e w' => e = .returned (.bool false) ∧ W = w' := fun W => hasI19 (w := W) 2
  rw [HA.out] at t9 ⊢
  clear hH hP hb R hk h32 hHn hPn hbn h256
  go_enter Try.func11, Try.ntmps11
  go_upto_region 1 with (refine wp_box rfl 27 (.tmp 0) rfl A rfl ?_; rw [Hw1.out, Hq.out])
  go_wp2_with (refine wp_load rfl 27 (.tmp 1) rfl q rfl A 27 (0, 0) _ HX1.out Try.underlying27 rfl HIA.out ?_)
  refine t9.mono ?_
  rintro e w2 ⟨rfl, hB2⟩
  have HB2 : Hid (Below w1.heap.size w1 w2) := ⟨hB2⟩
  clear t9 hB2
  have HX2 := Hid.mk ((HB2.out.block q hq).trans HX1.out)
  have y0_2 : w2.cell? ⟨q, 0, none⟩ = some (.int .i64 2) := by rw [cell_of_row _ _ _ _ _ _ HX2.out, ← HA.out]; rfl
  have y1_2 : w2.cell? ⟨q, 1, none⟩ = some (.string nm) := by rw [cell_of_row _ _ _ _ _ _ HX2.out, ← HA.out]; rfl
  have y2_2 : w2.cell? ⟨q, 2, none⟩ = some (.int .i64 (g : Int)) := by rw [cell_of_row _ _ _ _ _ _ HX2.out, ← HA.out]; rfl
  have y3_2 : w2.cell? ⟨q, 3, none⟩ = some (.int .i64 (i : Int)) := by rw [cell_of_row _ _ _ _ _ _ HX2.out, ← HA.out]; rfl
  have y4_2 : w2.cell? ⟨q, 4, none⟩ = some (.slice ha hn hc) := by rw [cell_of_row _ _ _ _ _ _ HX2.out, ← HA.out]; rfl
  have y5_2 : w2.cell? ⟨q, 5, none⟩ = some (.slice pa pn pc) := by rw [cell_of_row _ _ _ _ _ _ HX2.out, ← HA.out]; rfl
  have y6_2 : w2.cell? ⟨q, 6, none⟩ = some (.slice ba bn bc) := by rw [cell_of_row _ _ _ _ _ _ HX2.out, ← HA.out]; rfl
  go_wp2_with fail
  refine (rnum29 (w := w2) (.slice none 0 0) [] (Oct.Bs.nil w2) (by simp) 2 (by decide)).mono ?_
  rintro e w3 ⟨v3, rfl, hO3, hB3⟩
  have HB3 : Hid (Below w1.heap.size w1 w3) := ⟨HB2.out.trans (hB3.mono HB2.out.size)⟩
  have hO3' : OwnY w3 w1.heap.size v3 ([] ++ Oct.numB 2) := Oct.OwnB.mono hO3 HB2.out.size
  obtain ⟨X3, HXd3⟩ : ∃ X, Hid ([] ++ Oct.numB 2 = X) := ⟨_, ⟨rfl⟩⟩
  have HXl3 : Hid (X3.length ≤ 40000) := ⟨by rw [← HXd3.out]; simp only [List.length_append, List.length_nil]; have := Oct.numB_len8 2 (by decide); omega⟩
  rw [HXd3.out] at hO3'
  obtain ⟨a3, c3, e, _⟩ := OwnY.shape hO3'
  subst e
  have HO3 : Hid (OwnY w3 w1.heap.size (.slice a3 X3.length c3) X3) := ⟨hO3'⟩
  clear hO3 hO3' hB3
  clear y0_2 y1_2 y2_2 y3_2 y4_2 y5_2 y6_2
  have HX3 := Hid.mk ((HB3.out.block q hq).trans HX1.out)
  have y0_3 : w3.cell? ⟨q, 0, none⟩ = some (.int .i64 2) := by rw [cell_of_row _ _ _ _ _ _ HX3.out, ← HA.out]; rfl
  have y1_3 : w3.cell? ⟨q, 1, none⟩ = some (.string nm) := by rw [cell_of_row _ _ _ _ _ _ HX3.out, ← HA.out]; rfl
  have y2_3 : w3.cell? ⟨q, 2, none⟩ = some (.int .i64 (g : Int)) := by rw [cell_of_row _ _ _ _ _ _ HX3.out, ← HA.out]; rfl
  have y3_3 : w3.cell? ⟨q, 3, none⟩ = some (.int .i64 (i : Int)) := by rw [cell_of_row _ _ _ _ _ _ HX3.out, ← HA.out]; rfl
  have y4_3 : w3.cell? ⟨q, 4, none⟩ = some (.slice ha hn hc) := by rw [cell_of_row _ _ _ _ _ _ HX3.out, ← HA.out]; rfl
  have y5_3 : w3.cell? ⟨q, 5, none⟩ = some (.slice pa pn pc) := by rw [cell_of_row _ _ _ _ _ _ HX3.out, ← HA.out]; rfl
  have y6_3 : w3.cell? ⟨q, 6, none⟩ = some (.slice ba bn bc) := by rw [cell_of_row _ _ _ _ _ _ HX3.out, ← HA.out]; rfl
  go_wp2_with fail
  refine (t18 _).mono ?_
  rintro e w' ⟨rfl, rfl⟩
  go_wp2_with fail
  refine (t19 _).mono ?_
  rintro e w' ⟨rfl, rfl⟩
  go_wp2_with fail
  refine (rnum29 (w := w3) (.slice a3 X3.length c3) X3 (Oct.OwnB.bs HO3.out) (by have := HXl3.out; omega) hn (by have := HHn.out; have := HHl.out; have := HPn.out; have := HPl.out; omega)).mono ?_
  rintro e w4 ⟨v4, rfl, hO4, hB4⟩
  have HB4 : Hid (Below w1.heap.size w1 w4) := ⟨HB3.out.trans (hB4.mono HB3.out.size)⟩
  have hO4' : OwnY w4 w1.heap.size v4 (X3 ++ Oct.numB hn) := Oct.OwnB.mono hO4 HB3.out.size
  obtain ⟨X4, HXd4⟩ : ∃ X, Hid (X3 ++ Oct.numB hn = X) := ⟨_, ⟨rfl⟩⟩
  have HXl4 : Hid (X4.length ≤ 60000) := ⟨by rw [← HXd4.out]; simp only [List.length_append]; have := Oct.numB_len8 hn (by have := HHn.out; have := HHl.out; have := HPn.out; have := HPl.out; omega); have := HXl3.out; omega⟩
  rw [HXd4.out] at hO4'
  obtain ⟨a4, c4, e, _⟩ := OwnY.shape hO4'
  subst e
  have HO4 : Hid (OwnY w4 w1.heap.size (.slice a4 X4.length c4) X4) := ⟨hO4'⟩
  clear hO4 hO4' hB4
  clear y0_3 y1_3 y2_3 y3_3 y4_3 y5_3 y6_3
  have HX4 := Hid.mk ((HB4.out.block q hq).trans HX1.out)
  have y0_4 : w4.cell? ⟨q, 0, none⟩ = some (.int .i64 2) := by rw [cell_of_row _ _ _ _ _ _ HX4.out, ← HA.out]; rfl
  have y1_4 : w4.cell? ⟨q, 1, none⟩ = some (.string nm) := by rw [cell_of_row _ _ _ _ _ _ HX4.out, ← HA.out]; rfl
  have y2_4 : w4.cell? ⟨q, 2, none⟩ = some (.int .i64 (g : Int)) := by rw [cell_of_row _ _ _ _ _ _ HX4.out, ← HA.out]; rfl
  have y3_4 : w4.cell? ⟨q, 3, none⟩ = some (.int .i64 (i : Int)) := by rw [cell_of_row _ _ _ _ _ _ HX4.out, ← HA.out]; rfl
  have y4_4 : w4.cell? ⟨q, 4, none⟩ = some (.slice ha hn hc) := by rw [cell_of_row _ _ _ _ _ _ HX4.out, ← HA.out]; rfl
  have y5_4 : w4.cell? ⟨q, 5, none⟩ = some (.slice pa pn pc) := by rw [cell_of_row _ _ _ _ _ _ HX4.out, ← HA.out]; rfl
  have y6_4 : w4.cell? ⟨q, 6, none⟩ = some (.slice ba bn bc) := by rw [cell_of_row _ _ _ _ _ _ HX4.out, ← HA.out]; rfl
  have hfl : Hid (∀ i, ((H.take i).flatMap hB).length ≤ 64 * 256) := ⟨fun i => by
    have := fm_len (H.take i) (fun x hx => hB_len x (HHd.out x (List.mem_of_mem_take hx)))
    have h2 := HHl.out
    rw [List.length_take] at this
    omega⟩
  clear y0_4 y1_4 y2_4 y3_4 y6_4
  go_wp2_with fail
  go_loopg [5, 6] hn (fun gg s5 s6 wr => ∃ k : Nat, k ≤ hn ∧ hn - k ≤ gg ∧ s6 = .int .i64 (k : Int) ∧ Hid (OwnY wr w1.heap.size s5 (X4 ++ (H.take k).flatMap hB)) ∧ Hid (Below w1.heap.size w1 wr))
  case atStart => exact ⟨0, Nat.zero_le _, by omega, rfl, ⟨by simpa using HO4.out⟩, HB4⟩
  case round =>
    obtain ⟨k, hk, hgg, rfl, HO, HBo⟩ := hrel
    rename World => wo
    have HXo := Hid.mk ((HBo.out.block q hq).trans HX1.out)
    obtain ⟨a5, c5, e5, _⟩ := OwnY.shape HO.out
    subst e5
    have z4 : wo.cell? ⟨q, 4, none⟩ = some (.slice ha hn hc) := by rw [cell_of_row _ _ _ _ _ _ HXo.out, ← HA.out]; rfl
    have z5 : wo.cell? ⟨q, 5, none⟩ = some (.slice pa pn pc) := by rw [cell_of_row _ _ _ _ _ _ HXo.out, ← HA.out]; rfl
    by_cases hlt : k < hn
    · have hltz : (k : Int) < (hn : Int) := by omega
      have hiL : k < H.length := by rw [HHn.out]; exact hlt
      have HRo := Hid.mk (HHx.out wo HBo.out)
      obtain ⟨g0, off, c', e, hat⟩ := HRo.out.at' k hiL
      rw [HHn.out] at e
      simp only [Value.slice.injEq] at e
      obtain ⟨rfl, -, rfl⟩ := e
      have hcm : hc ≤ 9223372036854775807 := by
        obtain ⟨_, _, e, _, h2, _⟩ := HRo.out.shape
        simp only [Value.slice.injEq] at e
        rw [e.2.2]; exact h2
      have hcn : hn ≤ hc := by
        obtain ⟨_, _, e, h2, _, _⟩ := HRo.out.shape
        simp only [Value.slice.injEq] at e
        rw [e.2.2, ← HHn.out]; exact h2
      have hmem := getD_mem' (d := h0) hiL
      have Hqx := Hid.mk (HHd.out _ hmem)
      have HAn : Hid ((H.take (k + 1)).flatMap hB = (H.take k).flatMap hB ++ hB (H.getD k h0)) := ⟨by
        rw [List.take_add_one, List.getElem?_eq_getElem hiL]
        have : H[k] = H.getD k h0 := by simp [List.getD, List.getElem?_eq_getElem hiL]
        simp only [Option.toList_some, List.flatMap_append, List.flatMap_cons, List.flatMap_nil, List.append_nil, this]⟩
      obtain ⟨x, hx⟩ : ∃ x, H.getD k h0 = x := ⟨_, rfl⟩
      rw [hx] at Hqx HAn
      obtain ⟨x1, y⟩ := x
      have hget : ∀ wx, Below w1.heap.size w1 wx → (∀ j, j < 2 → wx.cell? ⟨g0, off + k * 2 + j, none⟩ = (he (x1, y))[j]?) := fun wx hwx j hj => by
        obtain ⟨g1, o1, c1, e1, hat1⟩ := (HHx.out wx hwx).at' k hiL
        simp only [Value.slice.injEq, Option.some.injEq, Addr.mk.injEq] at e1
        obtain ⟨⟨rfl, rfl, -⟩, -, rfl⟩ := e1
        rw [hat1 j hj, hx]
      have Hget := Hid.mk hget
      obtain ⟨q1, q2, q3⟩ := Hqx.out
      simp only at q1 q2 q3
      obtain ⟨yn, rfl⟩ := Int.eq_ofNat_of_zero_le q2
      have hyn : yn ≤ 9007199254740991 := by omega
      obtain ⟨M, HM⟩ : ∃ M, Hid (X4 ++ (H.take k).flatMap hB = M) := ⟨_, ⟨rfl⟩⟩
      have HMl : Hid (M.length ≤ 100000) := ⟨by
        rw [← HM.out, List.length_append]
        have h1 := hfl.out k
        have h2 := HXl4.out
        omega⟩
      rw [HM.out] at HO ⊢
      clear hat hget hmem hiL hx
      have hN8 := Oct.numB_len8 x1.size (by omega)
      obtain ⟨Y, HY⟩ : ∃ X, Hid (M ++ Oct.numB x1.size ++ strBs x1 = X) := ⟨_, ⟨rfl⟩⟩
      obtain ⟨Z, HZ⟩ : ∃ X, Hid (Y ++ Oct.numB yn = X) := ⟨_, ⟨rfl⟩⟩
      have HYl : Hid (Y.length ≤ 200000) := ⟨by rw [← HY.out]; simp only [List.length_append]; have := HMl.out; have := strBs_len x1; omega⟩
      have t30 : ∀ (W : World), Oct.Bs W (.slice a5 M.length c5) M → Calls Try.prog 30 #[.slice a5 M.length c5, .string x1] W fun e w' => ∃ v, e = .returned v ∧ OwnY w' W.heap.size v Y ∧ Below W.heap.size W w' := fun W h => by
        rw [← HY.out]; exact rtext30 (w := W) _ M h (by have := HMl.out; omega) x1 (by omega)
      have t29 : ∀ (W : World) (u : Value), Oct.Bs W u Y → Calls Try.prog 29 #[u, .int .i64 (yn : Int)] W fun e w' => ∃ v, e = .returned v ∧ OwnY w' W.heap.size v Z ∧ Below W.heap.size W w' := fun W u h => by
        rw [← HZ.out]; exact rnum29 (w := W) u Y h (by have := HYl.out; omega) yn hyn
      have c0 : wo.cell? ⟨g0, off + k * 2, none⟩ = some (.string x1) := by have := Hget.out wo HBo.out 0 (by decide); simpa [he] using this
      have c1 : wo.cell? ⟨g0, off + k * 2 + 1, none⟩ = some (.int .i64 (yn : Int)) := by have := Hget.out wo HBo.out 1 (by decide); simpa [he] using this
      have HE : Hid (X4 ++ (H.take (k + 1)).flatMap hB = Z) := ⟨by rw [HAn.out, ← HZ.out, ← HY.out, ← HM.out]; simp [hB, fB, List.append_assoc]⟩
      clear c0 c1
      go_upto_region 15 with fail
      clear z4 z5
      obtain ⟨wd, Hwd⟩ : ∃ x, Hid (wo.drew = x) := ⟨_, ⟨rfl⟩⟩
      have HBd : Hid (Below wo.heap.size wo wd) := ⟨by rw [← Hwd.out]; exact ⟨rfl, rfl, rfl, Nat.le_refl _, fun _ _ => rfl⟩⟩
      have HBwd : Hid (Below w1.heap.size w1 wd) := ⟨HBo.out.trans (HBd.out.mono HBo.out.size)⟩
      have HOd : Hid (OwnY wd w1.heap.size (.slice a5 M.length c5) M) := ⟨Oct.OwnB.below HO.out HBd.out⟩
      have hS : (fun w' => w'.cell? ⟨q, 4, none⟩ = some (.slice (some ⟨g0, off, none⟩) hn hc) ∧ w'.cell? ⟨g0, off + k * 2, none⟩ = some (.string x1) ∧ w'.cell? ⟨g0, off + k * 2 + 1, none⟩ = some (.int .i64 (yn : Int))) wo.drew := by
        rw [Hwd.out]
        exact cellsH HA.out ((HBwd.out.block q hq).trans HX1.out) (Hget.out wd HBwd.out)
      refine wp_region_held_drew (S := (fun w' => w'.cell? ⟨q, 4, none⟩ = some (.slice (some ⟨g0, off, none⟩) hn hc) ∧ w'.cell? ⟨g0, off + k * 2, none⟩ = some (.string x1) ∧ w'.cell? ⟨g0, off + k * 2 + 1, none⟩ = some (.int .i64 (yn : Int)))) (by kernel_rfl) hS (fun hS => ?_)
      refine wpAnyH_take (i := 0) (v := .slice a5 M.length c5) rfl (by kernel_rfl) (by kernel_rfl) (by kernel_rfl) (fun _ _ _ h => h) (Or.inl ⟨by kernel_rfl, fun _ _ => by kernel_rfl⟩) hS ?_
      refine wpAnyH_take (i := 1) (v := .pointer (some ⟨q, 4, none⟩)) rfl (by kernel_rfl) (by kernel_rfl) (by kernel_rfl) (fun _ _ _ h => h) (Or.inl ⟨by kernel_rfl, fun wx hx => by go_simp⟩) hS ?_
      refine wpAnyH_take (i := 2) (v := .slice (some ⟨g0, off, none⟩) hn hc) rfl (by kernel_rfl) (by kernel_rfl) (by kernel_rfl) (fun _ _ _ h => h) (Or.inl ⟨by kernel_rfl, fun wx hx => by obtain ⟨hx1, hx2, hx3⟩ := hx; go_simp⟩) hS ?_
      refine wpAnyH_take (i := 3) (v := .int .i64 (k : Int)) rfl (by kernel_rfl) (by kernel_rfl) (by kernel_rfl) (fun _ _ _ h => h) (Or.inl ⟨by kernel_rfl, fun _ _ => by kernel_rfl⟩) hS ?_
      refine wpAnyH_take (i := 4) (v := .pointer (some ⟨g0, off + k * 2, none⟩)) rfl (by kernel_rfl) (by kernel_rfl) (by kernel_rfl) (fun _ _ _ h => h) (Or.inl ⟨by kernel_rfl, fun wx hx => by go_simp⟩) hS ?_
      refine wpAnyH_take (i := 5) (v := .pointer (some ⟨g0, off + k * 2, none⟩)) rfl (by kernel_rfl) (by kernel_rfl) (by kernel_rfl) (fun _ _ _ h => h) (Or.inl ⟨by kernel_rfl, fun wx hx => by go_simp⟩) hS ?_
      refine wpAnyH_take (i := 6) (v := .string x1) rfl (by kernel_rfl) (by kernel_rfl) (by kernel_rfl) (fun _ _ _ h => h) (Or.inl ⟨by kernel_rfl, fun wx hx => by obtain ⟨hx1, hx2, hx3⟩ := hx; go_simp⟩) hS ?_
      refine wpAnyH_take (i := 8) (v := .pointer (some ⟨q, 4, none⟩)) rfl (by kernel_rfl) (by kernel_rfl) (by kernel_rfl) (fun _ _ _ h => h) (Or.inl ⟨by kernel_rfl, fun wx hx => by go_simp⟩) hS ?_
      refine wpAnyH_take (i := 9) (v := .slice (some ⟨g0, off, none⟩) hn hc) rfl (by kernel_rfl) (by kernel_rfl) (by kernel_rfl) (fun _ _ _ h => h) (Or.inl ⟨by kernel_rfl, fun wx hx => by obtain ⟨hx1, hx2, hx3⟩ := hx; go_simp⟩) hS ?_
      refine wpAnyH_take (i := 10) (v := .int .i64 (k : Int)) rfl (by kernel_rfl) (by kernel_rfl) (by kernel_rfl) (fun _ _ _ h => h) (Or.inl ⟨by kernel_rfl, fun _ _ => by kernel_rfl⟩) hS ?_
      refine wpAnyH_take (i := 11) (v := .pointer (some ⟨g0, off + k * 2, none⟩)) rfl (by kernel_rfl) (by kernel_rfl) (by kernel_rfl) (fun _ _ _ h => h) (Or.inl ⟨by kernel_rfl, fun wx hx => by go_simp⟩) hS ?_
      refine wpAnyH_take (i := 12) (v := .pointer (some ⟨g0, off + k * 2 + 1, none⟩)) rfl (by kernel_rfl) (by kernel_rfl) (by kernel_rfl) (fun _ _ _ h => h) (Or.inl ⟨by kernel_rfl, fun wx hx => by go_simp⟩) hS ?_
      refine wpAnyH_take (i := 13) (v := .int .i64 (yn : Int)) rfl (by kernel_rfl) (by kernel_rfl) (by kernel_rfl) (fun _ _ _ h => h) (Or.inl ⟨by kernel_rfl, fun wx hx => by obtain ⟨hx1, hx2, hx3⟩ := hx; go_simp⟩) hS ?_
      clear hS
      rw [Hwd.out]
      refine wpAnyH_ready (rs := [7]) (by kernel_rfl) (by simp) (AllReadyH.cons rfl (fun Kc hK => ?_) AllReadyH.nil)
      go_simp
      refine (t30 wd (Oct.OwnB.bs HOd.out)).mono ?_
      rintro e w6 ⟨v6, rfl, hO6, hB6⟩
      obtain ⟨a6, c6, rfl, _⟩ := OwnY.shape hO6
      have HO6 : Hid (OwnY w6 w1.heap.size (.slice a6 Y.length c6) Y) := ⟨Oct.OwnB.mono hO6 HBwd.out.size⟩
      have HB6 : Hid (Below w1.heap.size w1 w6) := ⟨HBwd.out.trans (hB6.mono HBwd.out.size)⟩
      clear hO6 hB6 t30
      refine hK.out _ _ (cellsH HA.out ((HB6.out.block q hq).trans HX1.out) (Hget.out w6 HB6.out)) (fun hS => ?_)
      clear hK
      refine wpAnyH_ready (rs := [14]) (by kernel_rfl) (by simp) (AllReadyH.cons rfl (fun Kc hK => ?_) AllReadyH.nil)
      go_simp
      refine (t29 w6 _ (Oct.OwnB.bs HO6.out)).mono ?_
      rintro e w8 ⟨v8, rfl, hO8, hB8⟩
      have HO8 : Hid (OwnY w8 w1.heap.size v8 Z) := ⟨Oct.OwnB.mono hO8 HB6.out.size⟩
      have HB8 : Hid (Below w1.heap.size w1 w8) := ⟨HB6.out.trans (hB8.mono HB6.out.size)⟩
      clear hO8 hB8 t29
      refine hK.out _ _ (cellsH HA.out ((HB8.out.block q hq).trans HX1.out) (Hget.out w8 HB8.out)) (fun hS => ?_)
      clear hK
      refine wpAnyH_take (i := 15) (v := v8) rfl (by kernel_rfl) (by kernel_rfl) (by kernel_rfl) (fun _ _ _ h => h) (Or.inl ⟨by kernel_rfl, fun _ _ => by kernel_rfl⟩) hS ?_
      refine wpAnyH_done (by kernel_rfl) ?_ _
      clear hS
      go_simp
      go_wp2_with fail
      go_roundg (hn - (k + 1))
      case measure => omega
      case rel => exact ⟨k + 1, by omega, by omega, by go_num, ⟨by rw [HE.out]; exact HO8.out⟩, HB8⟩
    · have hltz : ¬ (k : Int) < (hn : Int) := by omega
      have HT : Hid (H.take k = H) := ⟨List.take_of_length_le (by rw [HHn.out]; omega)⟩
      rw [HT.out] at HO
      obtain ⟨M, HM⟩ : ∃ M, Hid (X4 ++ H.flatMap hB = M) := ⟨_, ⟨rfl⟩⟩
      rw [HT.out]
      rw [HM.out] at HO ⊢
      have HE : Hid (Oct.numB 2 ++ lB hB H = X4 ++ H.flatMap hB) := ⟨by rw [← HXd4.out, ← HXd3.out]; simp [lB, List.append_assoc, HHn.out]⟩
      go_wp2_with fail
      go_ret2
      refine ⟨_, rfl, ?_, HB0.out.trans (HBo.out.mono HB0.out.size)⟩
      have hF : OwnY wo w.heap.size (.slice a5 M.length c5) (Oct.numB 2 ++ lB hB H) := by rw [HE.out, HM.out]; exact Oct.OwnB.mono HO.out HB0.out.size
      first
        | exact hF
        | (simp only [List.append_assoc] at hF; exact hF)
end
end Go.Proofs.Ythohpbppfihoiaa

/- The document's Put of a right note whose kind is 3. -/
namespace Go.Proofs.Ythohpbppfihoiaa
open Go.RowKit

section
variable {w : World}
set_option maxHeartbeats 16000000 in
set_option maxRecDepth 100000 in
theorem rput_3 (nm : ByteArray) (g i : Nat) (ha pa ba : Option Addr) (hn hc pn pc bn bc : Nat) (H : List Hd) (P : List Pt) (bs : List Int) (hH : RdE he 2 h0 w (.slice ha hn hc) H) (hHn : H.length = hn) (hP : RdE pe 33 p0 w (.slice pa pn pc) P) (hPn : P.length = pn) (hb : Oct.Bs w (.slice ba bn bc) bs) (hbn : bs.length = bn) (h32 : ∀ p ∈ P, p.1.length = 32) (h256 : ∀ z ∈ bs, 0 ≤ z ∧ z < 256) (hk : chk 3 nm g i H P bn = 0) :
    Calls Try.prog 11 #[.agg (na 3 nm (g : Int) (i : Int) (.slice ha hn hc) (.slice pa pn pc) (.slice ba bn bc))] w fun e w' => ∃ v, e = .returned (.tuple #[v, .int .i64 0]) ∧ OwnY w' w.heap.size v (Oct.numB 3 ++ fB nm g) ∧ Below w.heap.size w w' := by
  have R := right_of hk
  obtain ⟨hnm, _, hgm'⟩ := R.file rfl
  have hgm : g ≤ 9007199254740991 := by omega
  have him : (i : Int) < 256 := R.i.2
  have HHl : Hid (H.length ≤ 64) := ⟨R.hl⟩
  have HPl : Hid (P.length ≤ 256) := ⟨R.pl⟩
  have HBl : Hid (bs.length ≤ 512) := ⟨by rw [hbn]; exact R.bl⟩
  have HHd : Hid (∀ x ∈ H, HdB x) := ⟨R.hd⟩
  have HPt : Hid (∀ x ∈ P, PtB x) := ⟨fun x hx => R.pt x hx (h32 x hx)⟩
  have HHn : Hid (H.length = hn) := ⟨hHn⟩
  have HPn : Hid (P.length = pn) := ⟨hPn⟩
  have HBn : Hid (bs.length = bn) := ⟨hbn⟩
  have H256 : Hid (∀ z ∈ bs, 0 ≤ z ∧ z < 256) := ⟨h256⟩
  obtain ⟨q, Hq⟩ : ∃ q, Hid (w.heap.size = q) := ⟨_, ⟨rfl⟩⟩
  obtain ⟨A, HA⟩ : ∃ x, Hid (na 3 nm (g : Int) (i : Int) (.slice ha hn hc) (.slice pa pn pc) (.slice ba bn bc) = x) := ⟨_, ⟨rfl⟩⟩
  obtain ⟨w1, Hw1⟩ : ∃ x, Hid (w.alloc (.cells A 27) = x) := ⟨_, ⟨rfl⟩⟩
  have HB0 : Hid (Below w.heap.size w w1) := ⟨by rw [← Hw1.out]; exact (Below.refl _ w).alloc (Nat.le_refl _) _⟩
  have HX1 : Hid (w1.heap[q]? = some (.cells A 27 (0, 0))) := ⟨by rw [← Hw1.out, ← Hq.out]; exact heap_alloc_new w _⟩
  have hq : q < w1.heap.size := (Array.getElem?_eq_some_iff.1 HX1.out).1
  have HIA : Hid ((Try.prog.info? 27).map (·.size) = some A.size) := ⟨by rw [← HA.out]; exact info27⟩
  have HHx : Hid (∀ wx, Below w1.heap.size w1 wx → RdE he 2 h0 wx (.slice ha hn hc) H) := ⟨fun wx h => hH.far (Chg.ofBelow (X := []) (HB0.out.trans (h.mono HB0.out.size))) (by simp)⟩
  have HPx : Hid (∀ wx, Below w1.heap.size w1 wx → RdE pe 33 p0 wx (.slice pa pn pc) P) := ⟨fun wx h => hP.far (Chg.ofBelow (X := []) (HB0.out.trans (h.mono HB0.out.size))) (by simp)⟩
  have HBx : Hid (∀ wx, Below w1.heap.size w1 wx → Oct.Bs wx (.slice ba bn bc) bs) := ⟨fun wx h => hb.below (HB0.out.trans (h.mono HB0.out.size))⟩
  have t9 := rcheck9 (w := w1) 3 nm (g : Int) (i : Int) ha pa ba hn hc pn pc bn bc H P (HHx.out w1 (Below.refl _ _)) hHn (HPx.out w1 (Below.refl _ _)) hPn
  rw [hk] at t9
  have t18 : ∀ W : World, Calls Try.prog 18 #[.int .i64 3] W fun e w' => e = .returned (.bool true) ∧ W = w' := fun W => hasFile18 (w := W) 3
  have t19 : ∀ W : World, Calls Try.prog 19 #[.int .i64 3] W fun e w' => e = .returned (.bool false) ∧ W = w' := fun W => hasI19 (w := W) 3
  rw [HA.out] at t9 ⊢
  clear hH hP hb R hk h32 hHn hPn hbn h256
  go_enter Try.func11, Try.ntmps11
  go_upto_region 1 with (refine wp_box rfl 27 (.tmp 0) rfl A rfl ?_; rw [Hw1.out, Hq.out])
  go_wp2_with (refine wp_load rfl 27 (.tmp 1) rfl q rfl A 27 (0, 0) _ HX1.out Try.underlying27 rfl HIA.out ?_)
  refine t9.mono ?_
  rintro e w2 ⟨rfl, hB2⟩
  have HB2 : Hid (Below w1.heap.size w1 w2) := ⟨hB2⟩
  clear t9 hB2
  have HX2 := Hid.mk ((HB2.out.block q hq).trans HX1.out)
  have y0_2 : w2.cell? ⟨q, 0, none⟩ = some (.int .i64 3) := by rw [cell_of_row _ _ _ _ _ _ HX2.out, ← HA.out]; rfl
  have y1_2 : w2.cell? ⟨q, 1, none⟩ = some (.string nm) := by rw [cell_of_row _ _ _ _ _ _ HX2.out, ← HA.out]; rfl
  have y2_2 : w2.cell? ⟨q, 2, none⟩ = some (.int .i64 (g : Int)) := by rw [cell_of_row _ _ _ _ _ _ HX2.out, ← HA.out]; rfl
  have y3_2 : w2.cell? ⟨q, 3, none⟩ = some (.int .i64 (i : Int)) := by rw [cell_of_row _ _ _ _ _ _ HX2.out, ← HA.out]; rfl
  have y4_2 : w2.cell? ⟨q, 4, none⟩ = some (.slice ha hn hc) := by rw [cell_of_row _ _ _ _ _ _ HX2.out, ← HA.out]; rfl
  have y5_2 : w2.cell? ⟨q, 5, none⟩ = some (.slice pa pn pc) := by rw [cell_of_row _ _ _ _ _ _ HX2.out, ← HA.out]; rfl
  have y6_2 : w2.cell? ⟨q, 6, none⟩ = some (.slice ba bn bc) := by rw [cell_of_row _ _ _ _ _ _ HX2.out, ← HA.out]; rfl
  go_wp2_with fail
  refine (rnum29 (w := w2) (.slice none 0 0) [] (Oct.Bs.nil w2) (by simp) 3 (by decide)).mono ?_
  rintro e w3 ⟨v3, rfl, hO3, hB3⟩
  have HB3 : Hid (Below w1.heap.size w1 w3) := ⟨HB2.out.trans (hB3.mono HB2.out.size)⟩
  have hO3' : OwnY w3 w1.heap.size v3 ([] ++ Oct.numB 3) := Oct.OwnB.mono hO3 HB2.out.size
  obtain ⟨X3, HXd3⟩ : ∃ X, Hid ([] ++ Oct.numB 3 = X) := ⟨_, ⟨rfl⟩⟩
  have HXl3 : Hid (X3.length ≤ 40000) := ⟨by rw [← HXd3.out]; simp only [List.length_append, List.length_nil]; have := Oct.numB_len8 3 (by decide); omega⟩
  rw [HXd3.out] at hO3'
  obtain ⟨a3, c3, e, _⟩ := OwnY.shape hO3'
  subst e
  have HO3 : Hid (OwnY w3 w1.heap.size (.slice a3 X3.length c3) X3) := ⟨hO3'⟩
  clear hO3 hO3' hB3
  clear y0_2 y1_2 y2_2 y3_2 y4_2 y5_2 y6_2
  have HX3 := Hid.mk ((HB3.out.block q hq).trans HX1.out)
  have y0_3 : w3.cell? ⟨q, 0, none⟩ = some (.int .i64 3) := by rw [cell_of_row _ _ _ _ _ _ HX3.out, ← HA.out]; rfl
  have y1_3 : w3.cell? ⟨q, 1, none⟩ = some (.string nm) := by rw [cell_of_row _ _ _ _ _ _ HX3.out, ← HA.out]; rfl
  have y2_3 : w3.cell? ⟨q, 2, none⟩ = some (.int .i64 (g : Int)) := by rw [cell_of_row _ _ _ _ _ _ HX3.out, ← HA.out]; rfl
  have y3_3 : w3.cell? ⟨q, 3, none⟩ = some (.int .i64 (i : Int)) := by rw [cell_of_row _ _ _ _ _ _ HX3.out, ← HA.out]; rfl
  have y4_3 : w3.cell? ⟨q, 4, none⟩ = some (.slice ha hn hc) := by rw [cell_of_row _ _ _ _ _ _ HX3.out, ← HA.out]; rfl
  have y5_3 : w3.cell? ⟨q, 5, none⟩ = some (.slice pa pn pc) := by rw [cell_of_row _ _ _ _ _ _ HX3.out, ← HA.out]; rfl
  have y6_3 : w3.cell? ⟨q, 6, none⟩ = some (.slice ba bn bc) := by rw [cell_of_row _ _ _ _ _ _ HX3.out, ← HA.out]; rfl
  go_wp2_with fail
  refine (t18 _).mono ?_
  rintro e w' ⟨rfl, rfl⟩
  have HNl : Hid ((Oct.numB nm.size).length ≤ 8) := ⟨Oct.numB_len8 nm.size (by omega)⟩
  have HGl : Hid ((Oct.numB g).length ≤ 8) := ⟨Oct.numB_len8 g hgm⟩
  obtain ⟨Y4, HYd4⟩ : ∃ X, Hid (X3 ++ Oct.numB nm.size ++ strBs nm = X) := ⟨_, ⟨rfl⟩⟩
  obtain ⟨X4, HXd4⟩ : ∃ X, Hid (Y4 ++ Oct.numB g = X) := ⟨_, ⟨rfl⟩⟩
  have HYl4 : Hid (Y4.length ≤ 50000) := ⟨by rw [← HYd4.out]; simp only [List.length_append]; have := HXl3.out; have := HNl.out; have := strBs_len nm; omega⟩
  have HXl4 : Hid (X4.length ≤ 60000) := ⟨by rw [← HXd4.out]; simp only [List.length_append]; have := HYl4.out; have := HGl.out; omega⟩
  have t30 : ∀ (W : World), Oct.Bs W (.slice a3 X3.length c3) X3 → Calls Try.prog 30 #[.slice a3 X3.length c3, .string nm] W fun e w' => ∃ v, e = .returned v ∧ OwnY w' W.heap.size v Y4 ∧ Below W.heap.size W w' := fun W h => by
    rw [← HYd4.out]; exact rtext30 (w := W) _ X3 h (by have := HXl3.out; omega) nm (by omega)
  have t29 : ∀ (W : World) (u : Value), Oct.Bs W u Y4 → Calls Try.prog 29 #[u, .int .i64 (g : Int)] W fun e w' => ∃ v, e = .returned v ∧ OwnY w' W.heap.size v X4 ∧ Below W.heap.size W w' := fun W u h => by
    rw [← HXd4.out]; exact rnum29 (w := W) u Y4 h (by have := HYl4.out; omega) g hgm
  go_upto_region 6 with fail
  go_cut [5] from 20 to 26 (fun s5 wx => Hid (OwnY wx w1.heap.size s5 X4) ∧ Hid (Below w1.heap.size w1 wx))
  case first =>
    go_region_with (first
      | (go_at_call 30; refine Calls.mono (t30 _ (by exact Oct.OwnB.bs HO3.out)) ?_; rintro e wt ⟨vt, rfl, hOt, hBt⟩; obtain ⟨at', ct, rfl, _⟩ := OwnY.shape hOt; have hbt : Below w1.heap.size w1 wt := HB3.out.trans (Below.mono ⟨hBt.os, hBt.tape, hBt.output, hBt.size, hBt.block⟩ HB3.out.size); have hqt := (hbt.block q hq).trans HX1.out; have yt : wt.cell? ⟨q, 2, none⟩ = some (.int .i64 (g : Int)) := (by rw [cell_of_row _ _ _ _ _ _ hqt, ← HA.out]; rfl))
      | (go_at_call 29; refine Calls.mono (t29 _ _ (by exact Oct.OwnB.bs hOt)) ?_; rintro e wu ⟨vu, rfl, hOu, hBu⟩; have hbu : Below w1.heap.size w1 wu := hbt.trans (Below.mono ⟨hBu.os, hBu.tape, hBu.output, hBu.size, hBu.block⟩ hbt.size)))
    all_goals go_wp2_with fail
    all_goals go_meet
    all_goals exact ⟨⟨Oct.OwnB.mono hOu hbt.size⟩, ⟨hbu⟩⟩
  case rest =>
    obtain ⟨HO, HB4⟩ := hcut
    rename World => w4
    obtain ⟨a4, c4, e, _⟩ := OwnY.shape HO.out
    subst e
    have HO4 : Hid (OwnY w4 w1.heap.size (.slice a4 X4.length c4) X4) := ⟨HO.out⟩
    clear HO t30 t29 y0_3 y1_3 y2_3 y3_3 y4_3 y5_3 y6_3
    have HX4 := Hid.mk ((HB4.out.block q hq).trans HX1.out)
    have y0_4 : w4.cell? ⟨q, 0, none⟩ = some (.int .i64 3) := by rw [cell_of_row _ _ _ _ _ _ HX4.out, ← HA.out]; rfl
    have y1_4 : w4.cell? ⟨q, 1, none⟩ = some (.string nm) := by rw [cell_of_row _ _ _ _ _ _ HX4.out, ← HA.out]; rfl
    have y2_4 : w4.cell? ⟨q, 2, none⟩ = some (.int .i64 (g : Int)) := by rw [cell_of_row _ _ _ _ _ _ HX4.out, ← HA.out]; rfl
    have y3_4 : w4.cell? ⟨q, 3, none⟩ = some (.int .i64 (i : Int)) := by rw [cell_of_row _ _ _ _ _ _ HX4.out, ← HA.out]; rfl
    have y4_4 : w4.cell? ⟨q, 4, none⟩ = some (.slice ha hn hc) := by rw [cell_of_row _ _ _ _ _ _ HX4.out, ← HA.out]; rfl
    have y5_4 : w4.cell? ⟨q, 5, none⟩ = some (.slice pa pn pc) := by rw [cell_of_row _ _ _ _ _ _ HX4.out, ← HA.out]; rfl
    have y6_4 : w4.cell? ⟨q, 6, none⟩ = some (.slice ba bn bc) := by rw [cell_of_row _ _ _ _ _ _ HX4.out, ← HA.out]; rfl
    go_wp2_with fail
    refine (t19 _).mono ?_
    rintro e w' ⟨rfl, rfl⟩
    go_wp2_with fail
    go_ret2
    have HE : Hid (Oct.numB 3 ++ fB nm g = X4) := ⟨by rw [← HXd4.out, ← HYd4.out, ← HXd3.out]; simp [fB, List.append_assoc]⟩
    rw [HE.out]
    exact ⟨_, rfl, Oct.OwnB.mono HO4.out HB0.out.size, HB0.out.trans (HB4.out.mono HB0.out.size)⟩
end
end Go.Proofs.Ythohpbppfihoiaa

/- The document's Put of a right note whose kind is 4. -/
namespace Go.Proofs.Ythohpbppfihoiaa
open Go.RowKit

section
variable {w : World}
set_option maxHeartbeats 16000000 in
set_option maxRecDepth 100000 in
theorem rput_4 (nm : ByteArray) (g i : Nat) (ha pa ba : Option Addr) (hn hc pn pc bn bc : Nat) (H : List Hd) (P : List Pt) (bs : List Int) (hH : RdE he 2 h0 w (.slice ha hn hc) H) (hHn : H.length = hn) (hP : RdE pe 33 p0 w (.slice pa pn pc) P) (hPn : P.length = pn) (hb : Oct.Bs w (.slice ba bn bc) bs) (hbn : bs.length = bn) (h32 : ∀ p ∈ P, p.1.length = 32) (h256 : ∀ z ∈ bs, 0 ≤ z ∧ z < 256) (hk : chk 4 nm g i H P bn = 0) :
    Calls Try.prog 11 #[.agg (na 4 nm (g : Int) (i : Int) (.slice ha hn hc) (.slice pa pn pc) (.slice ba bn bc))] w fun e w' => ∃ v, e = .returned (.tuple #[v, .int .i64 0]) ∧ OwnY w' w.heap.size v (Oct.numB 4 ++ fB nm g ++ lB qB P) ∧ Below w.heap.size w w' := by
  have R := right_of hk
  obtain ⟨hnm, _, hgm'⟩ := R.file rfl
  have hgm : g ≤ 9007199254740991 := by omega
  have him : (i : Int) < 256 := R.i.2
  have HHl : Hid (H.length ≤ 64) := ⟨R.hl⟩
  have HPl : Hid (P.length ≤ 256) := ⟨R.pl⟩
  have HBl : Hid (bs.length ≤ 512) := ⟨by rw [hbn]; exact R.bl⟩
  have HHd : Hid (∀ x ∈ H, HdB x) := ⟨R.hd⟩
  have HPt : Hid (∀ x ∈ P, PtB x) := ⟨fun x hx => R.pt x hx (h32 x hx)⟩
  have HHn : Hid (H.length = hn) := ⟨hHn⟩
  have HPn : Hid (P.length = pn) := ⟨hPn⟩
  have HBn : Hid (bs.length = bn) := ⟨hbn⟩
  have H256 : Hid (∀ z ∈ bs, 0 ≤ z ∧ z < 256) := ⟨h256⟩
  obtain ⟨q, Hq⟩ : ∃ q, Hid (w.heap.size = q) := ⟨_, ⟨rfl⟩⟩
  obtain ⟨A, HA⟩ : ∃ x, Hid (na 4 nm (g : Int) (i : Int) (.slice ha hn hc) (.slice pa pn pc) (.slice ba bn bc) = x) := ⟨_, ⟨rfl⟩⟩
  obtain ⟨w1, Hw1⟩ : ∃ x, Hid (w.alloc (.cells A 27) = x) := ⟨_, ⟨rfl⟩⟩
  have HB0 : Hid (Below w.heap.size w w1) := ⟨by rw [← Hw1.out]; exact (Below.refl _ w).alloc (Nat.le_refl _) _⟩
  have HX1 : Hid (w1.heap[q]? = some (.cells A 27 (0, 0))) := ⟨by rw [← Hw1.out, ← Hq.out]; exact heap_alloc_new w _⟩
  have hq : q < w1.heap.size := (Array.getElem?_eq_some_iff.1 HX1.out).1
  have HIA : Hid ((Try.prog.info? 27).map (·.size) = some A.size) := ⟨by rw [← HA.out]; exact info27⟩
  have HHx : Hid (∀ wx, Below w1.heap.size w1 wx → RdE he 2 h0 wx (.slice ha hn hc) H) := ⟨fun wx h => hH.far (Chg.ofBelow (X := []) (HB0.out.trans (h.mono HB0.out.size))) (by simp)⟩
  have HPx : Hid (∀ wx, Below w1.heap.size w1 wx → RdE pe 33 p0 wx (.slice pa pn pc) P) := ⟨fun wx h => hP.far (Chg.ofBelow (X := []) (HB0.out.trans (h.mono HB0.out.size))) (by simp)⟩
  have HBx : Hid (∀ wx, Below w1.heap.size w1 wx → Oct.Bs wx (.slice ba bn bc) bs) := ⟨fun wx h => hb.below (HB0.out.trans (h.mono HB0.out.size))⟩
  have t9 := rcheck9 (w := w1) 4 nm (g : Int) (i : Int) ha pa ba hn hc pn pc bn bc H P (HHx.out w1 (Below.refl _ _)) hHn (HPx.out w1 (Below.refl _ _)) hPn
  rw [hk] at t9
  have t18 : ∀ W : World, Calls Try.prog 18 #[.int .i64 4] W fun e w' => e = .returned (.bool true) ∧ W = w' := fun W => hasFile18 (w := W) 4
  have t19 : ∀ W : World, Calls Try.prog 19 #[.int .i64 4] W fun e w' => e = .returned (.bool false) ∧ W = w' := fun W => hasI19 (w := W) 4
  rw [HA.out] at t9 ⊢
  clear hH hP hb R hk h32 hHn hPn hbn h256
  go_enter Try.func11, Try.ntmps11
  go_upto_region 1 with (refine wp_box rfl 27 (.tmp 0) rfl A rfl ?_; rw [Hw1.out, Hq.out])
  go_wp2_with (refine wp_load rfl 27 (.tmp 1) rfl q rfl A 27 (0, 0) _ HX1.out Try.underlying27 rfl HIA.out ?_)
  refine t9.mono ?_
  rintro e w2 ⟨rfl, hB2⟩
  have HB2 : Hid (Below w1.heap.size w1 w2) := ⟨hB2⟩
  clear t9 hB2
  have HX2 := Hid.mk ((HB2.out.block q hq).trans HX1.out)
  have y0_2 : w2.cell? ⟨q, 0, none⟩ = some (.int .i64 4) := by rw [cell_of_row _ _ _ _ _ _ HX2.out, ← HA.out]; rfl
  have y1_2 : w2.cell? ⟨q, 1, none⟩ = some (.string nm) := by rw [cell_of_row _ _ _ _ _ _ HX2.out, ← HA.out]; rfl
  have y2_2 : w2.cell? ⟨q, 2, none⟩ = some (.int .i64 (g : Int)) := by rw [cell_of_row _ _ _ _ _ _ HX2.out, ← HA.out]; rfl
  have y3_2 : w2.cell? ⟨q, 3, none⟩ = some (.int .i64 (i : Int)) := by rw [cell_of_row _ _ _ _ _ _ HX2.out, ← HA.out]; rfl
  have y4_2 : w2.cell? ⟨q, 4, none⟩ = some (.slice ha hn hc) := by rw [cell_of_row _ _ _ _ _ _ HX2.out, ← HA.out]; rfl
  have y5_2 : w2.cell? ⟨q, 5, none⟩ = some (.slice pa pn pc) := by rw [cell_of_row _ _ _ _ _ _ HX2.out, ← HA.out]; rfl
  have y6_2 : w2.cell? ⟨q, 6, none⟩ = some (.slice ba bn bc) := by rw [cell_of_row _ _ _ _ _ _ HX2.out, ← HA.out]; rfl
  go_wp2_with fail
  refine (rnum29 (w := w2) (.slice none 0 0) [] (Oct.Bs.nil w2) (by simp) 4 (by decide)).mono ?_
  rintro e w3 ⟨v3, rfl, hO3, hB3⟩
  have HB3 : Hid (Below w1.heap.size w1 w3) := ⟨HB2.out.trans (hB3.mono HB2.out.size)⟩
  have hO3' : OwnY w3 w1.heap.size v3 ([] ++ Oct.numB 4) := Oct.OwnB.mono hO3 HB2.out.size
  obtain ⟨X3, HXd3⟩ : ∃ X, Hid ([] ++ Oct.numB 4 = X) := ⟨_, ⟨rfl⟩⟩
  have HXl3 : Hid (X3.length ≤ 40000) := ⟨by rw [← HXd3.out]; simp only [List.length_append, List.length_nil]; have := Oct.numB_len8 4 (by decide); omega⟩
  rw [HXd3.out] at hO3'
  obtain ⟨a3, c3, e, _⟩ := OwnY.shape hO3'
  subst e
  have HO3 : Hid (OwnY w3 w1.heap.size (.slice a3 X3.length c3) X3) := ⟨hO3'⟩
  clear hO3 hO3' hB3
  clear y0_2 y1_2 y2_2 y3_2 y4_2 y5_2 y6_2
  have HX3 := Hid.mk ((HB3.out.block q hq).trans HX1.out)
  have y0_3 : w3.cell? ⟨q, 0, none⟩ = some (.int .i64 4) := by rw [cell_of_row _ _ _ _ _ _ HX3.out, ← HA.out]; rfl
  have y1_3 : w3.cell? ⟨q, 1, none⟩ = some (.string nm) := by rw [cell_of_row _ _ _ _ _ _ HX3.out, ← HA.out]; rfl
  have y2_3 : w3.cell? ⟨q, 2, none⟩ = some (.int .i64 (g : Int)) := by rw [cell_of_row _ _ _ _ _ _ HX3.out, ← HA.out]; rfl
  have y3_3 : w3.cell? ⟨q, 3, none⟩ = some (.int .i64 (i : Int)) := by rw [cell_of_row _ _ _ _ _ _ HX3.out, ← HA.out]; rfl
  have y4_3 : w3.cell? ⟨q, 4, none⟩ = some (.slice ha hn hc) := by rw [cell_of_row _ _ _ _ _ _ HX3.out, ← HA.out]; rfl
  have y5_3 : w3.cell? ⟨q, 5, none⟩ = some (.slice pa pn pc) := by rw [cell_of_row _ _ _ _ _ _ HX3.out, ← HA.out]; rfl
  have y6_3 : w3.cell? ⟨q, 6, none⟩ = some (.slice ba bn bc) := by rw [cell_of_row _ _ _ _ _ _ HX3.out, ← HA.out]; rfl
  go_wp2_with fail
  refine (t18 _).mono ?_
  rintro e w' ⟨rfl, rfl⟩
  have HNl : Hid ((Oct.numB nm.size).length ≤ 8) := ⟨Oct.numB_len8 nm.size (by omega)⟩
  have HGl : Hid ((Oct.numB g).length ≤ 8) := ⟨Oct.numB_len8 g hgm⟩
  obtain ⟨Y4, HYd4⟩ : ∃ X, Hid (X3 ++ Oct.numB nm.size ++ strBs nm = X) := ⟨_, ⟨rfl⟩⟩
  obtain ⟨X4, HXd4⟩ : ∃ X, Hid (Y4 ++ Oct.numB g = X) := ⟨_, ⟨rfl⟩⟩
  have HYl4 : Hid (Y4.length ≤ 50000) := ⟨by rw [← HYd4.out]; simp only [List.length_append]; have := HXl3.out; have := HNl.out; have := strBs_len nm; omega⟩
  have HXl4 : Hid (X4.length ≤ 60000) := ⟨by rw [← HXd4.out]; simp only [List.length_append]; have := HYl4.out; have := HGl.out; omega⟩
  have t30 : ∀ (W : World), Oct.Bs W (.slice a3 X3.length c3) X3 → Calls Try.prog 30 #[.slice a3 X3.length c3, .string nm] W fun e w' => ∃ v, e = .returned v ∧ OwnY w' W.heap.size v Y4 ∧ Below W.heap.size W w' := fun W h => by
    rw [← HYd4.out]; exact rtext30 (w := W) _ X3 h (by have := HXl3.out; omega) nm (by omega)
  have t29 : ∀ (W : World) (u : Value), Oct.Bs W u Y4 → Calls Try.prog 29 #[u, .int .i64 (g : Int)] W fun e w' => ∃ v, e = .returned v ∧ OwnY w' W.heap.size v X4 ∧ Below W.heap.size W w' := fun W u h => by
    rw [← HXd4.out]; exact rnum29 (w := W) u Y4 h (by have := HYl4.out; omega) g hgm
  go_upto_region 6 with fail
  go_cut [5] from 20 to 26 (fun s5 wx => Hid (OwnY wx w1.heap.size s5 X4) ∧ Hid (Below w1.heap.size w1 wx))
  case first =>
    go_region_with (first
      | (go_at_call 30; refine Calls.mono (t30 _ (by exact Oct.OwnB.bs HO3.out)) ?_; rintro e wt ⟨vt, rfl, hOt, hBt⟩; obtain ⟨at', ct, rfl, _⟩ := OwnY.shape hOt; have hbt : Below w1.heap.size w1 wt := HB3.out.trans (Below.mono ⟨hBt.os, hBt.tape, hBt.output, hBt.size, hBt.block⟩ HB3.out.size); have hqt := (hbt.block q hq).trans HX1.out; have yt : wt.cell? ⟨q, 2, none⟩ = some (.int .i64 (g : Int)) := (by rw [cell_of_row _ _ _ _ _ _ hqt, ← HA.out]; rfl))
      | (go_at_call 29; refine Calls.mono (t29 _ _ (by exact Oct.OwnB.bs hOt)) ?_; rintro e wu ⟨vu, rfl, hOu, hBu⟩; have hbu : Below w1.heap.size w1 wu := hbt.trans (Below.mono ⟨hBu.os, hBu.tape, hBu.output, hBu.size, hBu.block⟩ hbt.size)))
    all_goals go_wp2_with fail
    all_goals go_meet
    all_goals exact ⟨⟨Oct.OwnB.mono hOu hbt.size⟩, ⟨hbu⟩⟩
  case rest =>
    obtain ⟨HO, HB4⟩ := hcut
    rename World => w4
    obtain ⟨a4, c4, e, _⟩ := OwnY.shape HO.out
    subst e
    have HO4 : Hid (OwnY w4 w1.heap.size (.slice a4 X4.length c4) X4) := ⟨HO.out⟩
    clear HO t30 t29 y0_3 y1_3 y2_3 y3_3 y4_3 y5_3 y6_3
    have HX4 := Hid.mk ((HB4.out.block q hq).trans HX1.out)
    have y0_4 : w4.cell? ⟨q, 0, none⟩ = some (.int .i64 4) := by rw [cell_of_row _ _ _ _ _ _ HX4.out, ← HA.out]; rfl
    have y1_4 : w4.cell? ⟨q, 1, none⟩ = some (.string nm) := by rw [cell_of_row _ _ _ _ _ _ HX4.out, ← HA.out]; rfl
    have y2_4 : w4.cell? ⟨q, 2, none⟩ = some (.int .i64 (g : Int)) := by rw [cell_of_row _ _ _ _ _ _ HX4.out, ← HA.out]; rfl
    have y3_4 : w4.cell? ⟨q, 3, none⟩ = some (.int .i64 (i : Int)) := by rw [cell_of_row _ _ _ _ _ _ HX4.out, ← HA.out]; rfl
    have y4_4 : w4.cell? ⟨q, 4, none⟩ = some (.slice ha hn hc) := by rw [cell_of_row _ _ _ _ _ _ HX4.out, ← HA.out]; rfl
    have y5_4 : w4.cell? ⟨q, 5, none⟩ = some (.slice pa pn pc) := by rw [cell_of_row _ _ _ _ _ _ HX4.out, ← HA.out]; rfl
    have y6_4 : w4.cell? ⟨q, 6, none⟩ = some (.slice ba bn bc) := by rw [cell_of_row _ _ _ _ _ _ HX4.out, ← HA.out]; rfl
    go_wp2_with fail
    refine (t19 _).mono ?_
    rintro e w' ⟨rfl, rfl⟩
    go_wp2_with fail
    refine (rnum29 (w := w4) (.slice a4 X4.length c4) X4 (Oct.OwnB.bs HO4.out) (by have := HXl4.out; omega) pn (by have := HHn.out; have := HHl.out; have := HPn.out; have := HPl.out; omega)).mono ?_
    rintro e w5 ⟨v5, rfl, hO5, hB5⟩
    have HB5 : Hid (Below w1.heap.size w1 w5) := ⟨HB4.out.trans (hB5.mono HB4.out.size)⟩
    have hO5' : OwnY w5 w1.heap.size v5 (X4 ++ Oct.numB pn) := Oct.OwnB.mono hO5 HB4.out.size
    obtain ⟨X5, HXd5⟩ : ∃ X, Hid (X4 ++ Oct.numB pn = X) := ⟨_, ⟨rfl⟩⟩
    have HXl5 : Hid (X5.length ≤ 80000) := ⟨by rw [← HXd5.out]; simp only [List.length_append]; have := Oct.numB_len8 pn (by have := HHn.out; have := HHl.out; have := HPn.out; have := HPl.out; omega); have := HXl4.out; omega⟩
    rw [HXd5.out] at hO5'
    obtain ⟨a5, c5, e, _⟩ := OwnY.shape hO5'
    subst e
    have HO5 : Hid (OwnY w5 w1.heap.size (.slice a5 X5.length c5) X5) := ⟨hO5'⟩
    clear hO5 hO5' hB5
    clear y0_4 y1_4 y2_4 y3_4 y4_4 y5_4 y6_4
    have HX5 := Hid.mk ((HB5.out.block q hq).trans HX1.out)
    have y0_5 : w5.cell? ⟨q, 0, none⟩ = some (.int .i64 4) := by rw [cell_of_row _ _ _ _ _ _ HX5.out, ← HA.out]; rfl
    have y1_5 : w5.cell? ⟨q, 1, none⟩ = some (.string nm) := by rw [cell_of_row _ _ _ _ _ _ HX5.out, ← HA.out]; rfl
    have y2_5 : w5.cell? ⟨q, 2, none⟩ = some (.int .i64 (g : Int)) := by rw [cell_of_row _ _ _ _ _ _ HX5.out, ← HA.out]; rfl
    have y3_5 : w5.cell? ⟨q, 3, none⟩ = some (.int .i64 (i : Int)) := by rw [cell_of_row _ _ _ _ _ _ HX5.out, ← HA.out]; rfl
    have y4_5 : w5.cell? ⟨q, 4, none⟩ = some (.slice ha hn hc) := by rw [cell_of_row _ _ _ _ _ _ HX5.out, ← HA.out]; rfl
    have y5_5 : w5.cell? ⟨q, 5, none⟩ = some (.slice pa pn pc) := by rw [cell_of_row _ _ _ _ _ _ HX5.out, ← HA.out]; rfl
    have y6_5 : w5.cell? ⟨q, 6, none⟩ = some (.slice ba bn bc) := by rw [cell_of_row _ _ _ _ _ _ HX5.out, ← HA.out]; rfl
    have hfl : Hid (∀ i, ((P.take i).flatMap qB).length ≤ 64 * 256) := ⟨fun i => by
      have := fm_len (P.take i) (fun x hx => qB_len x (HPt.out x (List.mem_of_mem_take hx)))
      have h2 := HPl.out
      rw [List.length_take] at this
      omega⟩
    clear y0_5 y1_5 y2_5 y3_5 y6_5
    go_wp2_with fail
    go_loopg [5, 7, 8] pn (fun gg s5 s7 _s8 wr => ∃ k : Nat, k ≤ pn ∧ pn - k ≤ gg ∧ s7 = .int .i64 (k : Int) ∧ Hid (OwnY wr w1.heap.size s5 (X5 ++ (P.take k).flatMap qB)) ∧ Hid (Below w1.heap.size w1 wr))
    case atStart => exact ⟨0, Nat.zero_le _, by omega, rfl, ⟨by simpa using HO5.out⟩, HB5⟩
    case round =>
      obtain ⟨k, hk, hgg, rfl, HO, HBo⟩ := hrel
      rename World => wo
      have HXo := Hid.mk ((HBo.out.block q hq).trans HX1.out)
      obtain ⟨a5, c5, e5, _⟩ := OwnY.shape HO.out
      subst e5
      have z4 : wo.cell? ⟨q, 4, none⟩ = some (.slice ha hn hc) := by rw [cell_of_row _ _ _ _ _ _ HXo.out, ← HA.out]; rfl
      have z5 : wo.cell? ⟨q, 5, none⟩ = some (.slice pa pn pc) := by rw [cell_of_row _ _ _ _ _ _ HXo.out, ← HA.out]; rfl
      by_cases hlt : k < pn
      · have hltz : (k : Int) < (pn : Int) := by omega
        have hiL : k < P.length := by rw [HPn.out]; exact hlt
        have HRo := Hid.mk (HPx.out wo HBo.out)
        obtain ⟨g0, off, c', e, hat⟩ := HRo.out.at' k hiL
        rw [HPn.out] at e
        simp only [Value.slice.injEq] at e
        obtain ⟨rfl, -, rfl⟩ := e
        have hcm : pc ≤ 9223372036854775807 := by
          obtain ⟨_, _, e, _, h2, _⟩ := HRo.out.shape
          simp only [Value.slice.injEq] at e
          rw [e.2.2]; exact h2
        have hcn : pn ≤ pc := by
          obtain ⟨_, _, e, h2, _, _⟩ := HRo.out.shape
          simp only [Value.slice.injEq] at e
          rw [e.2.2, ← HPn.out]; exact h2
        have hmem := getD_mem' (d := p0) hiL
        have Hqx := Hid.mk (HPt.out _ hmem)
        have HAn : Hid ((P.take (k + 1)).flatMap qB = (P.take k).flatMap qB ++ qB (P.getD k p0)) := ⟨by
          rw [List.take_add_one, List.getElem?_eq_getElem hiL]
          have : P[k] = P.getD k p0 := by simp [List.getD, List.getElem?_eq_getElem hiL]
          simp only [Option.toList_some, List.flatMap_append, List.flatMap_cons, List.flatMap_nil, List.append_nil, this]⟩
        obtain ⟨x, hx⟩ : ∃ x, P.getD k p0 = x := ⟨_, rfl⟩
        rw [hx] at Hqx HAn
        obtain ⟨x1, y⟩ := x
        have hget : ∀ wx, Below w1.heap.size w1 wx → (∀ j, j < 33 → wx.cell? ⟨g0, off + k * 33 + j, none⟩ = (pe (x1, y))[j]?) := fun wx hwx j hj => by
          obtain ⟨g1, o1, c1, e1, hat1⟩ := (HPx.out wx hwx).at' k hiL
          simp only [Value.slice.injEq, Option.some.injEq, Addr.mk.injEq] at e1
          obtain ⟨⟨rfl, rfl, -⟩, -, rfl⟩ := e1
          rw [hat1 j hj, hx]
        have Hget := Hid.mk hget
        obtain ⟨q1, q2, q3⟩ := Hqx.out
        simp only at q1 q2 q3
        obtain ⟨yn, rfl⟩ := Int.eq_ofNat_of_zero_le q2
        have hyn : yn ≤ 9007199254740991 := by omega
        obtain ⟨M, HM⟩ : ∃ M, Hid (X5 ++ (P.take k).flatMap qB = M) := ⟨_, ⟨rfl⟩⟩
        have HMl : Hid (M.length ≤ 100000) := ⟨by
          rw [← HM.out, List.length_append]
          have h1 := hfl.out k
          have h2 := HXl5.out
          omega⟩
        rw [HM.out] at HO ⊢
        clear hat hget hmem hiL hx
        obtain ⟨Y, HY⟩ : ∃ X, Hid (M ++ x1 = X) := ⟨_, ⟨rfl⟩⟩
        obtain ⟨Z, HZ⟩ : ∃ X, Hid (Y ++ Oct.numB yn = X) := ⟨_, ⟨rfl⟩⟩
        have HYl : Hid (Y.length ≤ 200000) := ⟨by rw [← HY.out]; simp only [List.length_append]; have := HMl.out; omega⟩
        have t29 : ∀ (W : World) (u : Value), Oct.Bs W u Y → Calls Try.prog 29 #[u, .int .i64 (yn : Int)] W fun e w' => ∃ v, e = .returned v ∧ OwnY w' W.heap.size v Z ∧ Below W.heap.size W w' := fun W u h => by
          rw [← HZ.out]; exact rnum29 (w := W) u Y h (by have := HYl.out; omega) yn hyn
        have HE : Hid (X5 ++ (P.take (k + 1)).flatMap qB = Z) := ⟨by rw [HAn.out, ← HZ.out, ← HY.out, ← HM.out]; simp [qB, List.append_assoc]⟩
        have Hld : Hid ((Instr.loadAt 47 (.pointer (some ⟨g0, off + k * 33, none⟩))).run Try.prog wo = .ok (.agg (yv x1).toArray) wo) := ⟨run_loadAt_mid wo g0 (off + k * 33) 47 (yv x1) _ (fun j v hv => by
          have hj : j < 32 := by have := (List.getElem?_eq_some_iff.1 hv).1; rw [yv_len, q1] at this; exact this
          rw [Hget.out wo HBo.out j (by omega)]
          unfold pe
          rw [List.getElem?_append_left (by rw [List.length_map, q1]; exact hj)]
          exact hv) Try.underlying47 rfl (by rw [yv_len, q1]; exact info47)⟩
        obtain ⟨B, HBa⟩ : ∃ A, Hid ((yv x1).toArray = A) := ⟨_, ⟨rfl⟩⟩
        have HBs : Hid (B.size = 32) := ⟨by rw [← HBa.out, List.size_toArray, yv_len]; exact q1⟩
        have HB1 : Hid (B.all (·.oneCell') = true) := ⟨by rw [← HBa.out, List.all_toArray, List.all_eq_true]; exact yv_one x1⟩
        rw [HBa.out] at Hld
        have HIn : Hid ((Try.prog.info? 47).map (·.size) = some B.size) := ⟨by rw [HBs.out]; exact info47⟩
        obtain ⟨r, Hr⟩ : ∃ q, Hid (wo.heap.size = q) := ⟨_, ⟨rfl⟩⟩
        obtain ⟨wp, Hwp⟩ : ∃ x, Hid ((wo.alloc (.cells (yv (List.replicate 32 0)).toArray 47)).setRow r B = x) := ⟨_, ⟨rfl⟩⟩
        have HBop : Hid (Below wo.heap.size wo wp) := ⟨by rw [← Hwp.out, ← Hr.out]; exact below_setRow ((Below.refl _ wo).alloc (Nat.le_refl _) _) (Nat.le_refl _) _⟩
        have HRp : Hid (wp.heap[r]? = some (.cells B 47 (0, 0))) := ⟨by rw [← Hwp.out, ← Hr.out]; exact setRow_heap _ _ (yv (List.replicate 32 0)).toArray _ 47 (0, 0) (heap_alloc_new wo _)⟩
        have HBp : Hid (Below w1.heap.size w1 wp) := ⟨HBo.out.trans (HBop.out.mono HBo.out.size)⟩
        have HOp : Hid (OwnY wp w1.heap.size (.slice a5 M.length c5) M) := ⟨Oct.OwnB.below HO.out HBop.out⟩
        go_upto_region 22 with (first
          | (refine wp_loadX (cs := B) rfl (.tmp 83) rfl rfl Hld.out ?_)
          | (refine wp_newZ zero47 rfl rfl ?_; rw [Hr.out])
          | (refine wpList_store_row rfl 47 (.tmp 8) (.tmp 84) rfl r B rfl rfl 47 (yv (List.replicate 32 0)).toArray (by rw [← Hr.out]; exact heap_alloc_new wo _) HIn.out (by rw [HBs.out]; rfl) HB1.out ?_; rw [Hwp.out]))
        clear Hld z4 z5
        obtain ⟨wd, Hwd⟩ : ∃ x, Hid (wp.drew = x) := ⟨_, ⟨rfl⟩⟩
        have HBd : Hid (Below wp.heap.size wp wd) := ⟨by rw [← Hwd.out]; exact ⟨rfl, rfl, rfl, Nat.le_refl _, fun _ _ => rfl⟩⟩
        have HBwd : Hid (Below w1.heap.size w1 wd) := ⟨HBp.out.trans (HBd.out.mono HBp.out.size)⟩
        have HOd : Hid (OwnY wd w1.heap.size (.slice a5 M.length c5) M) := ⟨Oct.OwnB.below HOp.out HBd.out⟩
        have HRd : Hid (RdY wd (.slice (some ⟨r, 0, none⟩) 32 32) x1) := ⟨sum_rdY (fr := (0, 0)) q1 (by rw [HBa.out]; exact (HBd.out.block r (Array.getElem?_eq_some_iff.1 HRp.out).1).trans HRp.out)⟩
        have hS : (fun w' => w'.cell? ⟨q, 5, none⟩ = some (.slice (some ⟨g0, off, none⟩) pn pc) ∧ w'.cell? ⟨g0, off + k * 33 + 32, none⟩ = some (.int .i64 (yn : Int))) wp.drew := by
          rw [Hwd.out]
          exact cellsP HA.out ((HBwd.out.block q hq).trans HX1.out) q1 (Hget.out wd HBwd.out)
        refine wp_region_held_drew (S := (fun w' => w'.cell? ⟨q, 5, none⟩ = some (.slice (some ⟨g0, off, none⟩) pn pc) ∧ w'.cell? ⟨g0, off + k * 33 + 32, none⟩ = some (.int .i64 (yn : Int)))) (by kernel_rfl) hS (fun hS => ?_)
        refine wpAnyH_take (i := 0) (v := .slice a5 M.length c5) rfl (by kernel_rfl) (by kernel_rfl) (by kernel_rfl) (fun _ _ _ h => h) (Or.inl ⟨by kernel_rfl, fun _ _ => by kernel_rfl⟩) hS ?_
        refine wpAnyH_take (i := 1) (v := .slice (some ⟨r, 0, none⟩) 32 32) rfl (by kernel_rfl) (by kernel_rfl) (by kernel_rfl) (fun _ _ _ h => h) (Or.inl ⟨by kernel_rfl, fun wx hx => by go_simp⟩) hS ?_
        refine wpAnyH_take (i := 3) (v := .pointer (some ⟨q, 5, none⟩)) rfl (by kernel_rfl) (by kernel_rfl) (by kernel_rfl) (fun _ _ _ h => h) (Or.inl ⟨by kernel_rfl, fun wx hx => by go_simp⟩) hS ?_
        refine wpAnyH_take (i := 4) (v := .slice (some ⟨g0, off, none⟩) pn pc) rfl (by kernel_rfl) (by kernel_rfl) (by kernel_rfl) (fun _ _ _ h => h) (Or.inl ⟨by kernel_rfl, fun wx hx => by obtain ⟨hx1, hx2⟩ := hx; go_simp⟩) hS ?_
        refine wpAnyH_take (i := 5) (v := .int .i64 (k : Int)) rfl (by kernel_rfl) (by kernel_rfl) (by kernel_rfl) (fun _ _ _ h => h) (Or.inl ⟨by kernel_rfl, fun _ _ => by kernel_rfl⟩) hS ?_
        refine wpAnyH_take (i := 6) (v := .pointer (some ⟨g0, off + k * 33, none⟩)) rfl (by kernel_rfl) (by kernel_rfl) (by kernel_rfl) (fun _ _ _ h => h) (Or.inl ⟨by kernel_rfl, fun wx hx => by go_simp⟩) hS ?_
        refine wpAnyH_take (i := 7) (v := .pointer (some ⟨g0, off + k * 33 + 32, none⟩)) rfl (by kernel_rfl) (by kernel_rfl) (by kernel_rfl) (fun _ _ _ h => h) (Or.inl ⟨by kernel_rfl, fun wx hx => by go_simp⟩) hS ?_
        refine wpAnyH_take (i := 8) (v := .int .i64 (yn : Int)) rfl (by kernel_rfl) (by kernel_rfl) (by kernel_rfl) (fun _ _ _ h => h) (Or.inl ⟨by kernel_rfl, fun wx hx => by obtain ⟨hx1, hx2⟩ := hx; go_simp⟩) hS ?_
        clear hS
        rw [Hwd.out]
        refine wpAnyH_ready (rs := [2]) (by kernel_rfl) (by simp) (AllReadyH.cons rfl (fun Kc hK => ?_) AllReadyH.nil)
        refine rdy_of (by kernel_rfl) ?_
        refine op_appY (.tmp 85) (.tmp 86) rfl (by kernel_rfl) HOd.out (by kernel_rfl) HRd.out (by have := HMl.out; omega) HBwd.out.size ?_
        intro v6 w6 hO6 hG6 hV6
        rw [HY.out] at hO6
        obtain ⟨a6, c6, rfl, _⟩ := hO6.shape
        have HO6 := Hid.mk hO6
        have HB6 : Hid (Below w1.heap.size w1 w6) := ⟨HBwd.out.trans (hG6.below HBwd.out.size (own_geY HOd.out))⟩
        clear hO6 hG6 hV6
        refine hK.out _ _ (cellsP HA.out ((HB6.out.block q hq).trans HX1.out) q1 (Hget.out w6 HB6.out)) (fun hS => ?_)
        clear hK
        refine wpAnyH_ready (rs := [9]) (by kernel_rfl) (by simp) (AllReadyH.cons rfl (fun Kc hK => ?_) AllReadyH.nil)
        go_simp
        refine (t29 w6 _ (Oct.OwnB.bs HO6.out)).mono ?_
        rintro e w8 ⟨v8, rfl, hO8, hB8⟩
        have HO8 : Hid (OwnY w8 w1.heap.size v8 Z) := ⟨Oct.OwnB.mono hO8 HB6.out.size⟩
        have HB8 : Hid (Below w1.heap.size w1 w8) := ⟨HB6.out.trans (hB8.mono HB6.out.size)⟩
        clear hO8 hB8 t29
        refine hK.out _ _ (cellsP HA.out ((HB8.out.block q hq).trans HX1.out) q1 (Hget.out w8 HB8.out)) (fun hS => ?_)
        clear hK
        refine wpAnyH_take (i := 10) (v := v8) rfl (by kernel_rfl) (by kernel_rfl) (by kernel_rfl) (fun _ _ _ h => h) (Or.inl ⟨by kernel_rfl, fun _ _ => by kernel_rfl⟩) hS ?_
        refine wpAnyH_done (by kernel_rfl) ?_ _
        clear hS
        go_simp
        go_wp2_with fail
        go_roundg (pn - (k + 1))
        case measure => omega
        case rel => exact ⟨k + 1, by omega, by omega, by go_num, ⟨by rw [HE.out]; exact HO8.out⟩, HB8⟩
      · have hltz : ¬ (k : Int) < (pn : Int) := by omega
        have HT : Hid (P.take k = P) := ⟨List.take_of_length_le (by rw [HPn.out]; omega)⟩
        rw [HT.out] at HO
        obtain ⟨M, HM⟩ : ∃ M, Hid (X5 ++ P.flatMap qB = M) := ⟨_, ⟨rfl⟩⟩
        rw [HT.out]
        rw [HM.out] at HO ⊢
        have HE : Hid (Oct.numB 4 ++ fB nm g ++ lB qB P = X5 ++ P.flatMap qB) := ⟨by rw [← HXd5.out, ← HXd4.out, ← HYd4.out, ← HXd3.out]; simp [fB, lB, List.append_assoc, HPn.out]⟩
        go_wp2_with fail
        go_ret2
        refine ⟨_, rfl, ?_, HB0.out.trans (HBo.out.mono HB0.out.size)⟩
        have hF : OwnY wo w.heap.size (.slice a5 M.length c5) (Oct.numB 4 ++ fB nm g ++ lB qB P) := by rw [HE.out, HM.out]; exact Oct.OwnB.mono HO.out HB0.out.size
        first
          | exact hF
          | (simp only [List.append_assoc] at hF; exact hF)
end
end Go.Proofs.Ythohpbppfihoiaa

/- The document's Put of a right note whose kind is 5. -/
namespace Go.Proofs.Ythohpbppfihoiaa
open Go.RowKit

section
variable {w : World}
set_option maxHeartbeats 16000000 in
set_option maxRecDepth 100000 in
theorem rput_5 (nm : ByteArray) (g i : Nat) (ha pa ba : Option Addr) (hn hc pn pc bn bc : Nat) (H : List Hd) (P : List Pt) (bs : List Int) (hH : RdE he 2 h0 w (.slice ha hn hc) H) (hHn : H.length = hn) (hP : RdE pe 33 p0 w (.slice pa pn pc) P) (hPn : P.length = pn) (hb : Oct.Bs w (.slice ba bn bc) bs) (hbn : bs.length = bn) (h32 : ∀ p ∈ P, p.1.length = 32) (h256 : ∀ z ∈ bs, 0 ≤ z ∧ z < 256) (hk : chk 5 nm g i H P bn = 0) :
    Calls Try.prog 11 #[.agg (na 5 nm (g : Int) (i : Int) (.slice ha hn hc) (.slice pa pn pc) (.slice ba bn bc))] w fun e w' => ∃ v, e = .returned (.tuple #[v, .int .i64 0]) ∧ OwnY w' w.heap.size v (Oct.numB 5 ++ fB nm g) ∧ Below w.heap.size w w' := by
  have R := right_of hk
  obtain ⟨hnm, _, hgm'⟩ := R.file rfl
  have hgm : g ≤ 9007199254740991 := by omega
  have him : (i : Int) < 256 := R.i.2
  have HHl : Hid (H.length ≤ 64) := ⟨R.hl⟩
  have HPl : Hid (P.length ≤ 256) := ⟨R.pl⟩
  have HBl : Hid (bs.length ≤ 512) := ⟨by rw [hbn]; exact R.bl⟩
  have HHd : Hid (∀ x ∈ H, HdB x) := ⟨R.hd⟩
  have HPt : Hid (∀ x ∈ P, PtB x) := ⟨fun x hx => R.pt x hx (h32 x hx)⟩
  have HHn : Hid (H.length = hn) := ⟨hHn⟩
  have HPn : Hid (P.length = pn) := ⟨hPn⟩
  have HBn : Hid (bs.length = bn) := ⟨hbn⟩
  have H256 : Hid (∀ z ∈ bs, 0 ≤ z ∧ z < 256) := ⟨h256⟩
  obtain ⟨q, Hq⟩ : ∃ q, Hid (w.heap.size = q) := ⟨_, ⟨rfl⟩⟩
  obtain ⟨A, HA⟩ : ∃ x, Hid (na 5 nm (g : Int) (i : Int) (.slice ha hn hc) (.slice pa pn pc) (.slice ba bn bc) = x) := ⟨_, ⟨rfl⟩⟩
  obtain ⟨w1, Hw1⟩ : ∃ x, Hid (w.alloc (.cells A 27) = x) := ⟨_, ⟨rfl⟩⟩
  have HB0 : Hid (Below w.heap.size w w1) := ⟨by rw [← Hw1.out]; exact (Below.refl _ w).alloc (Nat.le_refl _) _⟩
  have HX1 : Hid (w1.heap[q]? = some (.cells A 27 (0, 0))) := ⟨by rw [← Hw1.out, ← Hq.out]; exact heap_alloc_new w _⟩
  have hq : q < w1.heap.size := (Array.getElem?_eq_some_iff.1 HX1.out).1
  have HIA : Hid ((Try.prog.info? 27).map (·.size) = some A.size) := ⟨by rw [← HA.out]; exact info27⟩
  have HHx : Hid (∀ wx, Below w1.heap.size w1 wx → RdE he 2 h0 wx (.slice ha hn hc) H) := ⟨fun wx h => hH.far (Chg.ofBelow (X := []) (HB0.out.trans (h.mono HB0.out.size))) (by simp)⟩
  have HPx : Hid (∀ wx, Below w1.heap.size w1 wx → RdE pe 33 p0 wx (.slice pa pn pc) P) := ⟨fun wx h => hP.far (Chg.ofBelow (X := []) (HB0.out.trans (h.mono HB0.out.size))) (by simp)⟩
  have HBx : Hid (∀ wx, Below w1.heap.size w1 wx → Oct.Bs wx (.slice ba bn bc) bs) := ⟨fun wx h => hb.below (HB0.out.trans (h.mono HB0.out.size))⟩
  have t9 := rcheck9 (w := w1) 5 nm (g : Int) (i : Int) ha pa ba hn hc pn pc bn bc H P (HHx.out w1 (Below.refl _ _)) hHn (HPx.out w1 (Below.refl _ _)) hPn
  rw [hk] at t9
  have t18 : ∀ W : World, Calls Try.prog 18 #[.int .i64 5] W fun e w' => e = .returned (.bool true) ∧ W = w' := fun W => hasFile18 (w := W) 5
  have t19 : ∀ W : World, Calls Try.prog 19 #[.int .i64 5] W fun e w' => e = .returned (.bool false) ∧ W = w' := fun W => hasI19 (w := W) 5
  rw [HA.out] at t9 ⊢
  clear hH hP hb R hk h32 hHn hPn hbn h256
  go_enter Try.func11, Try.ntmps11
  go_upto_region 1 with (refine wp_box rfl 27 (.tmp 0) rfl A rfl ?_; rw [Hw1.out, Hq.out])
  go_wp2_with (refine wp_load rfl 27 (.tmp 1) rfl q rfl A 27 (0, 0) _ HX1.out Try.underlying27 rfl HIA.out ?_)
  refine t9.mono ?_
  rintro e w2 ⟨rfl, hB2⟩
  have HB2 : Hid (Below w1.heap.size w1 w2) := ⟨hB2⟩
  clear t9 hB2
  have HX2 := Hid.mk ((HB2.out.block q hq).trans HX1.out)
  have y0_2 : w2.cell? ⟨q, 0, none⟩ = some (.int .i64 5) := by rw [cell_of_row _ _ _ _ _ _ HX2.out, ← HA.out]; rfl
  have y1_2 : w2.cell? ⟨q, 1, none⟩ = some (.string nm) := by rw [cell_of_row _ _ _ _ _ _ HX2.out, ← HA.out]; rfl
  have y2_2 : w2.cell? ⟨q, 2, none⟩ = some (.int .i64 (g : Int)) := by rw [cell_of_row _ _ _ _ _ _ HX2.out, ← HA.out]; rfl
  have y3_2 : w2.cell? ⟨q, 3, none⟩ = some (.int .i64 (i : Int)) := by rw [cell_of_row _ _ _ _ _ _ HX2.out, ← HA.out]; rfl
  have y4_2 : w2.cell? ⟨q, 4, none⟩ = some (.slice ha hn hc) := by rw [cell_of_row _ _ _ _ _ _ HX2.out, ← HA.out]; rfl
  have y5_2 : w2.cell? ⟨q, 5, none⟩ = some (.slice pa pn pc) := by rw [cell_of_row _ _ _ _ _ _ HX2.out, ← HA.out]; rfl
  have y6_2 : w2.cell? ⟨q, 6, none⟩ = some (.slice ba bn bc) := by rw [cell_of_row _ _ _ _ _ _ HX2.out, ← HA.out]; rfl
  go_wp2_with fail
  refine (rnum29 (w := w2) (.slice none 0 0) [] (Oct.Bs.nil w2) (by simp) 5 (by decide)).mono ?_
  rintro e w3 ⟨v3, rfl, hO3, hB3⟩
  have HB3 : Hid (Below w1.heap.size w1 w3) := ⟨HB2.out.trans (hB3.mono HB2.out.size)⟩
  have hO3' : OwnY w3 w1.heap.size v3 ([] ++ Oct.numB 5) := Oct.OwnB.mono hO3 HB2.out.size
  obtain ⟨X3, HXd3⟩ : ∃ X, Hid ([] ++ Oct.numB 5 = X) := ⟨_, ⟨rfl⟩⟩
  have HXl3 : Hid (X3.length ≤ 40000) := ⟨by rw [← HXd3.out]; simp only [List.length_append, List.length_nil]; have := Oct.numB_len8 5 (by decide); omega⟩
  rw [HXd3.out] at hO3'
  obtain ⟨a3, c3, e, _⟩ := OwnY.shape hO3'
  subst e
  have HO3 : Hid (OwnY w3 w1.heap.size (.slice a3 X3.length c3) X3) := ⟨hO3'⟩
  clear hO3 hO3' hB3
  clear y0_2 y1_2 y2_2 y3_2 y4_2 y5_2 y6_2
  have HX3 := Hid.mk ((HB3.out.block q hq).trans HX1.out)
  have y0_3 : w3.cell? ⟨q, 0, none⟩ = some (.int .i64 5) := by rw [cell_of_row _ _ _ _ _ _ HX3.out, ← HA.out]; rfl
  have y1_3 : w3.cell? ⟨q, 1, none⟩ = some (.string nm) := by rw [cell_of_row _ _ _ _ _ _ HX3.out, ← HA.out]; rfl
  have y2_3 : w3.cell? ⟨q, 2, none⟩ = some (.int .i64 (g : Int)) := by rw [cell_of_row _ _ _ _ _ _ HX3.out, ← HA.out]; rfl
  have y3_3 : w3.cell? ⟨q, 3, none⟩ = some (.int .i64 (i : Int)) := by rw [cell_of_row _ _ _ _ _ _ HX3.out, ← HA.out]; rfl
  have y4_3 : w3.cell? ⟨q, 4, none⟩ = some (.slice ha hn hc) := by rw [cell_of_row _ _ _ _ _ _ HX3.out, ← HA.out]; rfl
  have y5_3 : w3.cell? ⟨q, 5, none⟩ = some (.slice pa pn pc) := by rw [cell_of_row _ _ _ _ _ _ HX3.out, ← HA.out]; rfl
  have y6_3 : w3.cell? ⟨q, 6, none⟩ = some (.slice ba bn bc) := by rw [cell_of_row _ _ _ _ _ _ HX3.out, ← HA.out]; rfl
  go_wp2_with fail
  refine (t18 _).mono ?_
  rintro e w' ⟨rfl, rfl⟩
  have HNl : Hid ((Oct.numB nm.size).length ≤ 8) := ⟨Oct.numB_len8 nm.size (by omega)⟩
  have HGl : Hid ((Oct.numB g).length ≤ 8) := ⟨Oct.numB_len8 g hgm⟩
  obtain ⟨Y4, HYd4⟩ : ∃ X, Hid (X3 ++ Oct.numB nm.size ++ strBs nm = X) := ⟨_, ⟨rfl⟩⟩
  obtain ⟨X4, HXd4⟩ : ∃ X, Hid (Y4 ++ Oct.numB g = X) := ⟨_, ⟨rfl⟩⟩
  have HYl4 : Hid (Y4.length ≤ 50000) := ⟨by rw [← HYd4.out]; simp only [List.length_append]; have := HXl3.out; have := HNl.out; have := strBs_len nm; omega⟩
  have HXl4 : Hid (X4.length ≤ 60000) := ⟨by rw [← HXd4.out]; simp only [List.length_append]; have := HYl4.out; have := HGl.out; omega⟩
  have t30 : ∀ (W : World), Oct.Bs W (.slice a3 X3.length c3) X3 → Calls Try.prog 30 #[.slice a3 X3.length c3, .string nm] W fun e w' => ∃ v, e = .returned v ∧ OwnY w' W.heap.size v Y4 ∧ Below W.heap.size W w' := fun W h => by
    rw [← HYd4.out]; exact rtext30 (w := W) _ X3 h (by have := HXl3.out; omega) nm (by omega)
  have t29 : ∀ (W : World) (u : Value), Oct.Bs W u Y4 → Calls Try.prog 29 #[u, .int .i64 (g : Int)] W fun e w' => ∃ v, e = .returned v ∧ OwnY w' W.heap.size v X4 ∧ Below W.heap.size W w' := fun W u h => by
    rw [← HXd4.out]; exact rnum29 (w := W) u Y4 h (by have := HYl4.out; omega) g hgm
  go_upto_region 6 with fail
  go_cut [5] from 20 to 26 (fun s5 wx => Hid (OwnY wx w1.heap.size s5 X4) ∧ Hid (Below w1.heap.size w1 wx))
  case first =>
    go_region_with (first
      | (go_at_call 30; refine Calls.mono (t30 _ (by exact Oct.OwnB.bs HO3.out)) ?_; rintro e wt ⟨vt, rfl, hOt, hBt⟩; obtain ⟨at', ct, rfl, _⟩ := OwnY.shape hOt; have hbt : Below w1.heap.size w1 wt := HB3.out.trans (Below.mono ⟨hBt.os, hBt.tape, hBt.output, hBt.size, hBt.block⟩ HB3.out.size); have hqt := (hbt.block q hq).trans HX1.out; have yt : wt.cell? ⟨q, 2, none⟩ = some (.int .i64 (g : Int)) := (by rw [cell_of_row _ _ _ _ _ _ hqt, ← HA.out]; rfl))
      | (go_at_call 29; refine Calls.mono (t29 _ _ (by exact Oct.OwnB.bs hOt)) ?_; rintro e wu ⟨vu, rfl, hOu, hBu⟩; have hbu : Below w1.heap.size w1 wu := hbt.trans (Below.mono ⟨hBu.os, hBu.tape, hBu.output, hBu.size, hBu.block⟩ hbt.size)))
    all_goals go_wp2_with fail
    all_goals go_meet
    all_goals exact ⟨⟨Oct.OwnB.mono hOu hbt.size⟩, ⟨hbu⟩⟩
  case rest =>
    obtain ⟨HO, HB4⟩ := hcut
    rename World => w4
    obtain ⟨a4, c4, e, _⟩ := OwnY.shape HO.out
    subst e
    have HO4 : Hid (OwnY w4 w1.heap.size (.slice a4 X4.length c4) X4) := ⟨HO.out⟩
    clear HO t30 t29 y0_3 y1_3 y2_3 y3_3 y4_3 y5_3 y6_3
    have HX4 := Hid.mk ((HB4.out.block q hq).trans HX1.out)
    have y0_4 : w4.cell? ⟨q, 0, none⟩ = some (.int .i64 5) := by rw [cell_of_row _ _ _ _ _ _ HX4.out, ← HA.out]; rfl
    have y1_4 : w4.cell? ⟨q, 1, none⟩ = some (.string nm) := by rw [cell_of_row _ _ _ _ _ _ HX4.out, ← HA.out]; rfl
    have y2_4 : w4.cell? ⟨q, 2, none⟩ = some (.int .i64 (g : Int)) := by rw [cell_of_row _ _ _ _ _ _ HX4.out, ← HA.out]; rfl
    have y3_4 : w4.cell? ⟨q, 3, none⟩ = some (.int .i64 (i : Int)) := by rw [cell_of_row _ _ _ _ _ _ HX4.out, ← HA.out]; rfl
    have y4_4 : w4.cell? ⟨q, 4, none⟩ = some (.slice ha hn hc) := by rw [cell_of_row _ _ _ _ _ _ HX4.out, ← HA.out]; rfl
    have y5_4 : w4.cell? ⟨q, 5, none⟩ = some (.slice pa pn pc) := by rw [cell_of_row _ _ _ _ _ _ HX4.out, ← HA.out]; rfl
    have y6_4 : w4.cell? ⟨q, 6, none⟩ = some (.slice ba bn bc) := by rw [cell_of_row _ _ _ _ _ _ HX4.out, ← HA.out]; rfl
    go_wp2_with fail
    refine (t19 _).mono ?_
    rintro e w' ⟨rfl, rfl⟩
    go_wp2_with fail
    go_ret2
    have HE : Hid (Oct.numB 5 ++ fB nm g = X4) := ⟨by rw [← HXd4.out, ← HYd4.out, ← HXd3.out]; simp [fB, List.append_assoc]⟩
    rw [HE.out]
    exact ⟨_, rfl, Oct.OwnB.mono HO4.out HB0.out.size, HB0.out.trans (HB4.out.mono HB0.out.size)⟩
end
end Go.Proofs.Ythohpbppfihoiaa

/- The document's Put of a right note whose kind is 6. -/
namespace Go.Proofs.Ythohpbppfihoiaa
open Go.RowKit

section
variable {w : World}
set_option maxHeartbeats 16000000 in
set_option maxRecDepth 100000 in
theorem rput_6 (nm : ByteArray) (g i : Nat) (ha pa ba : Option Addr) (hn hc pn pc bn bc : Nat) (H : List Hd) (P : List Pt) (bs : List Int) (hH : RdE he 2 h0 w (.slice ha hn hc) H) (hHn : H.length = hn) (hP : RdE pe 33 p0 w (.slice pa pn pc) P) (hPn : P.length = pn) (hb : Oct.Bs w (.slice ba bn bc) bs) (hbn : bs.length = bn) (h32 : ∀ p ∈ P, p.1.length = 32) (h256 : ∀ z ∈ bs, 0 ≤ z ∧ z < 256) (hk : chk 6 nm g i H P bn = 0) :
    Calls Try.prog 11 #[.agg (na 6 nm (g : Int) (i : Int) (.slice ha hn hc) (.slice pa pn pc) (.slice ba bn bc))] w fun e w' => ∃ v, e = .returned (.tuple #[v, .int .i64 0]) ∧ OwnY w' w.heap.size v (Oct.numB 6 ++ fB nm g ++ Oct.numB i) ∧ Below w.heap.size w w' := by
  have R := right_of hk
  obtain ⟨hnm, _, hgm'⟩ := R.file rfl
  have hgm : g ≤ 9007199254740991 := by omega
  have him : (i : Int) < 256 := R.i.2
  have HHl : Hid (H.length ≤ 64) := ⟨R.hl⟩
  have HPl : Hid (P.length ≤ 256) := ⟨R.pl⟩
  have HBl : Hid (bs.length ≤ 512) := ⟨by rw [hbn]; exact R.bl⟩
  have HHd : Hid (∀ x ∈ H, HdB x) := ⟨R.hd⟩
  have HPt : Hid (∀ x ∈ P, PtB x) := ⟨fun x hx => R.pt x hx (h32 x hx)⟩
  have HHn : Hid (H.length = hn) := ⟨hHn⟩
  have HPn : Hid (P.length = pn) := ⟨hPn⟩
  have HBn : Hid (bs.length = bn) := ⟨hbn⟩
  have H256 : Hid (∀ z ∈ bs, 0 ≤ z ∧ z < 256) := ⟨h256⟩
  obtain ⟨q, Hq⟩ : ∃ q, Hid (w.heap.size = q) := ⟨_, ⟨rfl⟩⟩
  obtain ⟨A, HA⟩ : ∃ x, Hid (na 6 nm (g : Int) (i : Int) (.slice ha hn hc) (.slice pa pn pc) (.slice ba bn bc) = x) := ⟨_, ⟨rfl⟩⟩
  obtain ⟨w1, Hw1⟩ : ∃ x, Hid (w.alloc (.cells A 27) = x) := ⟨_, ⟨rfl⟩⟩
  have HB0 : Hid (Below w.heap.size w w1) := ⟨by rw [← Hw1.out]; exact (Below.refl _ w).alloc (Nat.le_refl _) _⟩
  have HX1 : Hid (w1.heap[q]? = some (.cells A 27 (0, 0))) := ⟨by rw [← Hw1.out, ← Hq.out]; exact heap_alloc_new w _⟩
  have hq : q < w1.heap.size := (Array.getElem?_eq_some_iff.1 HX1.out).1
  have HIA : Hid ((Try.prog.info? 27).map (·.size) = some A.size) := ⟨by rw [← HA.out]; exact info27⟩
  have HHx : Hid (∀ wx, Below w1.heap.size w1 wx → RdE he 2 h0 wx (.slice ha hn hc) H) := ⟨fun wx h => hH.far (Chg.ofBelow (X := []) (HB0.out.trans (h.mono HB0.out.size))) (by simp)⟩
  have HPx : Hid (∀ wx, Below w1.heap.size w1 wx → RdE pe 33 p0 wx (.slice pa pn pc) P) := ⟨fun wx h => hP.far (Chg.ofBelow (X := []) (HB0.out.trans (h.mono HB0.out.size))) (by simp)⟩
  have HBx : Hid (∀ wx, Below w1.heap.size w1 wx → Oct.Bs wx (.slice ba bn bc) bs) := ⟨fun wx h => hb.below (HB0.out.trans (h.mono HB0.out.size))⟩
  have t9 := rcheck9 (w := w1) 6 nm (g : Int) (i : Int) ha pa ba hn hc pn pc bn bc H P (HHx.out w1 (Below.refl _ _)) hHn (HPx.out w1 (Below.refl _ _)) hPn
  rw [hk] at t9
  have t18 : ∀ W : World, Calls Try.prog 18 #[.int .i64 6] W fun e w' => e = .returned (.bool true) ∧ W = w' := fun W => hasFile18 (w := W) 6
  have t19 : ∀ W : World, Calls Try.prog 19 #[.int .i64 6] W fun e w' => e = .returned (.bool true) ∧ W = w' := fun W => hasI19 (w := W) 6
  rw [HA.out] at t9 ⊢
  clear hH hP hb R hk h32 hHn hPn hbn h256
  go_enter Try.func11, Try.ntmps11
  go_upto_region 1 with (refine wp_box rfl 27 (.tmp 0) rfl A rfl ?_; rw [Hw1.out, Hq.out])
  go_wp2_with (refine wp_load rfl 27 (.tmp 1) rfl q rfl A 27 (0, 0) _ HX1.out Try.underlying27 rfl HIA.out ?_)
  refine t9.mono ?_
  rintro e w2 ⟨rfl, hB2⟩
  have HB2 : Hid (Below w1.heap.size w1 w2) := ⟨hB2⟩
  clear t9 hB2
  have HX2 := Hid.mk ((HB2.out.block q hq).trans HX1.out)
  have y0_2 : w2.cell? ⟨q, 0, none⟩ = some (.int .i64 6) := by rw [cell_of_row _ _ _ _ _ _ HX2.out, ← HA.out]; rfl
  have y1_2 : w2.cell? ⟨q, 1, none⟩ = some (.string nm) := by rw [cell_of_row _ _ _ _ _ _ HX2.out, ← HA.out]; rfl
  have y2_2 : w2.cell? ⟨q, 2, none⟩ = some (.int .i64 (g : Int)) := by rw [cell_of_row _ _ _ _ _ _ HX2.out, ← HA.out]; rfl
  have y3_2 : w2.cell? ⟨q, 3, none⟩ = some (.int .i64 (i : Int)) := by rw [cell_of_row _ _ _ _ _ _ HX2.out, ← HA.out]; rfl
  have y4_2 : w2.cell? ⟨q, 4, none⟩ = some (.slice ha hn hc) := by rw [cell_of_row _ _ _ _ _ _ HX2.out, ← HA.out]; rfl
  have y5_2 : w2.cell? ⟨q, 5, none⟩ = some (.slice pa pn pc) := by rw [cell_of_row _ _ _ _ _ _ HX2.out, ← HA.out]; rfl
  have y6_2 : w2.cell? ⟨q, 6, none⟩ = some (.slice ba bn bc) := by rw [cell_of_row _ _ _ _ _ _ HX2.out, ← HA.out]; rfl
  go_wp2_with fail
  refine (rnum29 (w := w2) (.slice none 0 0) [] (Oct.Bs.nil w2) (by simp) 6 (by decide)).mono ?_
  rintro e w3 ⟨v3, rfl, hO3, hB3⟩
  have HB3 : Hid (Below w1.heap.size w1 w3) := ⟨HB2.out.trans (hB3.mono HB2.out.size)⟩
  have hO3' : OwnY w3 w1.heap.size v3 ([] ++ Oct.numB 6) := Oct.OwnB.mono hO3 HB2.out.size
  obtain ⟨X3, HXd3⟩ : ∃ X, Hid ([] ++ Oct.numB 6 = X) := ⟨_, ⟨rfl⟩⟩
  have HXl3 : Hid (X3.length ≤ 40000) := ⟨by rw [← HXd3.out]; simp only [List.length_append, List.length_nil]; have := Oct.numB_len8 6 (by decide); omega⟩
  rw [HXd3.out] at hO3'
  obtain ⟨a3, c3, e, _⟩ := OwnY.shape hO3'
  subst e
  have HO3 : Hid (OwnY w3 w1.heap.size (.slice a3 X3.length c3) X3) := ⟨hO3'⟩
  clear hO3 hO3' hB3
  clear y0_2 y1_2 y2_2 y3_2 y4_2 y5_2 y6_2
  have HX3 := Hid.mk ((HB3.out.block q hq).trans HX1.out)
  have y0_3 : w3.cell? ⟨q, 0, none⟩ = some (.int .i64 6) := by rw [cell_of_row _ _ _ _ _ _ HX3.out, ← HA.out]; rfl
  have y1_3 : w3.cell? ⟨q, 1, none⟩ = some (.string nm) := by rw [cell_of_row _ _ _ _ _ _ HX3.out, ← HA.out]; rfl
  have y2_3 : w3.cell? ⟨q, 2, none⟩ = some (.int .i64 (g : Int)) := by rw [cell_of_row _ _ _ _ _ _ HX3.out, ← HA.out]; rfl
  have y3_3 : w3.cell? ⟨q, 3, none⟩ = some (.int .i64 (i : Int)) := by rw [cell_of_row _ _ _ _ _ _ HX3.out, ← HA.out]; rfl
  have y4_3 : w3.cell? ⟨q, 4, none⟩ = some (.slice ha hn hc) := by rw [cell_of_row _ _ _ _ _ _ HX3.out, ← HA.out]; rfl
  have y5_3 : w3.cell? ⟨q, 5, none⟩ = some (.slice pa pn pc) := by rw [cell_of_row _ _ _ _ _ _ HX3.out, ← HA.out]; rfl
  have y6_3 : w3.cell? ⟨q, 6, none⟩ = some (.slice ba bn bc) := by rw [cell_of_row _ _ _ _ _ _ HX3.out, ← HA.out]; rfl
  go_wp2_with fail
  refine (t18 _).mono ?_
  rintro e w' ⟨rfl, rfl⟩
  have HNl : Hid ((Oct.numB nm.size).length ≤ 8) := ⟨Oct.numB_len8 nm.size (by omega)⟩
  have HGl : Hid ((Oct.numB g).length ≤ 8) := ⟨Oct.numB_len8 g hgm⟩
  obtain ⟨Y4, HYd4⟩ : ∃ X, Hid (X3 ++ Oct.numB nm.size ++ strBs nm = X) := ⟨_, ⟨rfl⟩⟩
  obtain ⟨X4, HXd4⟩ : ∃ X, Hid (Y4 ++ Oct.numB g = X) := ⟨_, ⟨rfl⟩⟩
  have HYl4 : Hid (Y4.length ≤ 50000) := ⟨by rw [← HYd4.out]; simp only [List.length_append]; have := HXl3.out; have := HNl.out; have := strBs_len nm; omega⟩
  have HXl4 : Hid (X4.length ≤ 60000) := ⟨by rw [← HXd4.out]; simp only [List.length_append]; have := HYl4.out; have := HGl.out; omega⟩
  have t30 : ∀ (W : World), Oct.Bs W (.slice a3 X3.length c3) X3 → Calls Try.prog 30 #[.slice a3 X3.length c3, .string nm] W fun e w' => ∃ v, e = .returned v ∧ OwnY w' W.heap.size v Y4 ∧ Below W.heap.size W w' := fun W h => by
    rw [← HYd4.out]; exact rtext30 (w := W) _ X3 h (by have := HXl3.out; omega) nm (by omega)
  have t29 : ∀ (W : World) (u : Value), Oct.Bs W u Y4 → Calls Try.prog 29 #[u, .int .i64 (g : Int)] W fun e w' => ∃ v, e = .returned v ∧ OwnY w' W.heap.size v X4 ∧ Below W.heap.size W w' := fun W u h => by
    rw [← HXd4.out]; exact rnum29 (w := W) u Y4 h (by have := HYl4.out; omega) g hgm
  go_upto_region 6 with fail
  go_cut [5] from 20 to 26 (fun s5 wx => Hid (OwnY wx w1.heap.size s5 X4) ∧ Hid (Below w1.heap.size w1 wx))
  case first =>
    go_region_with (first
      | (go_at_call 30; refine Calls.mono (t30 _ (by exact Oct.OwnB.bs HO3.out)) ?_; rintro e wt ⟨vt, rfl, hOt, hBt⟩; obtain ⟨at', ct, rfl, _⟩ := OwnY.shape hOt; have hbt : Below w1.heap.size w1 wt := HB3.out.trans (Below.mono ⟨hBt.os, hBt.tape, hBt.output, hBt.size, hBt.block⟩ HB3.out.size); have hqt := (hbt.block q hq).trans HX1.out; have yt : wt.cell? ⟨q, 2, none⟩ = some (.int .i64 (g : Int)) := (by rw [cell_of_row _ _ _ _ _ _ hqt, ← HA.out]; rfl))
      | (go_at_call 29; refine Calls.mono (t29 _ _ (by exact Oct.OwnB.bs hOt)) ?_; rintro e wu ⟨vu, rfl, hOu, hBu⟩; have hbu : Below w1.heap.size w1 wu := hbt.trans (Below.mono ⟨hBu.os, hBu.tape, hBu.output, hBu.size, hBu.block⟩ hbt.size)))
    all_goals go_wp2_with fail
    all_goals go_meet
    all_goals exact ⟨⟨Oct.OwnB.mono hOu hbt.size⟩, ⟨hbu⟩⟩
  case rest =>
    obtain ⟨HO, HB4⟩ := hcut
    rename World => w4
    obtain ⟨a4, c4, e, _⟩ := OwnY.shape HO.out
    subst e
    have HO4 : Hid (OwnY w4 w1.heap.size (.slice a4 X4.length c4) X4) := ⟨HO.out⟩
    clear HO t30 t29 y0_3 y1_3 y2_3 y3_3 y4_3 y5_3 y6_3
    have HX4 := Hid.mk ((HB4.out.block q hq).trans HX1.out)
    have y0_4 : w4.cell? ⟨q, 0, none⟩ = some (.int .i64 6) := by rw [cell_of_row _ _ _ _ _ _ HX4.out, ← HA.out]; rfl
    have y1_4 : w4.cell? ⟨q, 1, none⟩ = some (.string nm) := by rw [cell_of_row _ _ _ _ _ _ HX4.out, ← HA.out]; rfl
    have y2_4 : w4.cell? ⟨q, 2, none⟩ = some (.int .i64 (g : Int)) := by rw [cell_of_row _ _ _ _ _ _ HX4.out, ← HA.out]; rfl
    have y3_4 : w4.cell? ⟨q, 3, none⟩ = some (.int .i64 (i : Int)) := by rw [cell_of_row _ _ _ _ _ _ HX4.out, ← HA.out]; rfl
    have y4_4 : w4.cell? ⟨q, 4, none⟩ = some (.slice ha hn hc) := by rw [cell_of_row _ _ _ _ _ _ HX4.out, ← HA.out]; rfl
    have y5_4 : w4.cell? ⟨q, 5, none⟩ = some (.slice pa pn pc) := by rw [cell_of_row _ _ _ _ _ _ HX4.out, ← HA.out]; rfl
    have y6_4 : w4.cell? ⟨q, 6, none⟩ = some (.slice ba bn bc) := by rw [cell_of_row _ _ _ _ _ _ HX4.out, ← HA.out]; rfl
    go_wp2_with fail
    refine (t19 _).mono ?_
    rintro e w' ⟨rfl, rfl⟩
    go_wp2_with fail
    refine (rnum29 (w := w4) (.slice a4 X4.length c4) X4 (Oct.OwnB.bs HO4.out) (by have := HXl4.out; omega) i (by omega)).mono ?_
    rintro e w5 ⟨v5, rfl, hO5, hB5⟩
    have HB5 : Hid (Below w1.heap.size w1 w5) := ⟨HB4.out.trans (hB5.mono HB4.out.size)⟩
    have hO5' : OwnY w5 w1.heap.size v5 (X4 ++ Oct.numB i) := Oct.OwnB.mono hO5 HB4.out.size
    obtain ⟨X5, HXd5⟩ : ∃ X, Hid (X4 ++ Oct.numB i = X) := ⟨_, ⟨rfl⟩⟩
    have HXl5 : Hid (X5.length ≤ 80000) := ⟨by rw [← HXd5.out]; simp only [List.length_append]; have := Oct.numB_len8 i (by omega); have := HXl4.out; omega⟩
    rw [HXd5.out] at hO5'
    obtain ⟨a5, c5, e, _⟩ := OwnY.shape hO5'
    subst e
    have HO5 : Hid (OwnY w5 w1.heap.size (.slice a5 X5.length c5) X5) := ⟨hO5'⟩
    clear hO5 hO5' hB5
    clear y0_4 y1_4 y2_4 y3_4 y4_4 y5_4 y6_4
    have HX5 := Hid.mk ((HB5.out.block q hq).trans HX1.out)
    have y0_5 : w5.cell? ⟨q, 0, none⟩ = some (.int .i64 6) := by rw [cell_of_row _ _ _ _ _ _ HX5.out, ← HA.out]; rfl
    have y1_5 : w5.cell? ⟨q, 1, none⟩ = some (.string nm) := by rw [cell_of_row _ _ _ _ _ _ HX5.out, ← HA.out]; rfl
    have y2_5 : w5.cell? ⟨q, 2, none⟩ = some (.int .i64 (g : Int)) := by rw [cell_of_row _ _ _ _ _ _ HX5.out, ← HA.out]; rfl
    have y3_5 : w5.cell? ⟨q, 3, none⟩ = some (.int .i64 (i : Int)) := by rw [cell_of_row _ _ _ _ _ _ HX5.out, ← HA.out]; rfl
    have y4_5 : w5.cell? ⟨q, 4, none⟩ = some (.slice ha hn hc) := by rw [cell_of_row _ _ _ _ _ _ HX5.out, ← HA.out]; rfl
    have y5_5 : w5.cell? ⟨q, 5, none⟩ = some (.slice pa pn pc) := by rw [cell_of_row _ _ _ _ _ _ HX5.out, ← HA.out]; rfl
    have y6_5 : w5.cell? ⟨q, 6, none⟩ = some (.slice ba bn bc) := by rw [cell_of_row _ _ _ _ _ _ HX5.out, ← HA.out]; rfl
    go_wp2_with fail
    go_ret2
    have HE : Hid (Oct.numB 6 ++ fB nm g ++ Oct.numB i = X5) := ⟨by rw [← HXd5.out, ← HXd4.out, ← HYd4.out, ← HXd3.out]; simp [fB, List.append_assoc]⟩
    rw [HE.out]
    exact ⟨_, rfl, Oct.OwnB.mono HO5.out HB0.out.size, HB0.out.trans (HB5.out.mono HB0.out.size)⟩
end
end Go.Proofs.Ythohpbppfihoiaa

/- The document's Put of a right note whose kind is 7. -/
namespace Go.Proofs.Ythohpbppfihoiaa
open Go.RowKit

section
variable {w : World}
set_option maxHeartbeats 16000000 in
set_option maxRecDepth 100000 in
theorem rput_7 (nm : ByteArray) (g i : Nat) (ha pa ba : Option Addr) (hn hc pn pc bn bc : Nat) (H : List Hd) (P : List Pt) (bs : List Int) (hH : RdE he 2 h0 w (.slice ha hn hc) H) (hHn : H.length = hn) (hP : RdE pe 33 p0 w (.slice pa pn pc) P) (hPn : P.length = pn) (hb : Oct.Bs w (.slice ba bn bc) bs) (hbn : bs.length = bn) (h32 : ∀ p ∈ P, p.1.length = 32) (h256 : ∀ z ∈ bs, 0 ≤ z ∧ z < 256) (hk : chk 7 nm g i H P bn = 0) :
    Calls Try.prog 11 #[.agg (na 7 nm (g : Int) (i : Int) (.slice ha hn hc) (.slice pa pn pc) (.slice ba bn bc))] w fun e w' => ∃ v, e = .returned (.tuple #[v, .int .i64 0]) ∧ OwnY w' w.heap.size v (Oct.numB 7 ++ fB nm g ++ Oct.numB i ++ (Oct.numB bs.length ++ bs)) ∧ Below w.heap.size w w' := by
  have R := right_of hk
  obtain ⟨hnm, _, hgm'⟩ := R.file rfl
  have hgm : g ≤ 9007199254740991 := by omega
  have him : (i : Int) < 256 := R.i.2
  have HHl : Hid (H.length ≤ 64) := ⟨R.hl⟩
  have HPl : Hid (P.length ≤ 256) := ⟨R.pl⟩
  have HBl : Hid (bs.length ≤ 512) := ⟨by rw [hbn]; exact R.bl⟩
  have HHd : Hid (∀ x ∈ H, HdB x) := ⟨R.hd⟩
  have HPt : Hid (∀ x ∈ P, PtB x) := ⟨fun x hx => R.pt x hx (h32 x hx)⟩
  have HHn : Hid (H.length = hn) := ⟨hHn⟩
  have HPn : Hid (P.length = pn) := ⟨hPn⟩
  have HBn : Hid (bs.length = bn) := ⟨hbn⟩
  have H256 : Hid (∀ z ∈ bs, 0 ≤ z ∧ z < 256) := ⟨h256⟩
  obtain ⟨q, Hq⟩ : ∃ q, Hid (w.heap.size = q) := ⟨_, ⟨rfl⟩⟩
  obtain ⟨A, HA⟩ : ∃ x, Hid (na 7 nm (g : Int) (i : Int) (.slice ha hn hc) (.slice pa pn pc) (.slice ba bn bc) = x) := ⟨_, ⟨rfl⟩⟩
  obtain ⟨w1, Hw1⟩ : ∃ x, Hid (w.alloc (.cells A 27) = x) := ⟨_, ⟨rfl⟩⟩
  have HB0 : Hid (Below w.heap.size w w1) := ⟨by rw [← Hw1.out]; exact (Below.refl _ w).alloc (Nat.le_refl _) _⟩
  have HX1 : Hid (w1.heap[q]? = some (.cells A 27 (0, 0))) := ⟨by rw [← Hw1.out, ← Hq.out]; exact heap_alloc_new w _⟩
  have hq : q < w1.heap.size := (Array.getElem?_eq_some_iff.1 HX1.out).1
  have HIA : Hid ((Try.prog.info? 27).map (·.size) = some A.size) := ⟨by rw [← HA.out]; exact info27⟩
  have HHx : Hid (∀ wx, Below w1.heap.size w1 wx → RdE he 2 h0 wx (.slice ha hn hc) H) := ⟨fun wx h => hH.far (Chg.ofBelow (X := []) (HB0.out.trans (h.mono HB0.out.size))) (by simp)⟩
  have HPx : Hid (∀ wx, Below w1.heap.size w1 wx → RdE pe 33 p0 wx (.slice pa pn pc) P) := ⟨fun wx h => hP.far (Chg.ofBelow (X := []) (HB0.out.trans (h.mono HB0.out.size))) (by simp)⟩
  have HBx : Hid (∀ wx, Below w1.heap.size w1 wx → Oct.Bs wx (.slice ba bn bc) bs) := ⟨fun wx h => hb.below (HB0.out.trans (h.mono HB0.out.size))⟩
  have t9 := rcheck9 (w := w1) 7 nm (g : Int) (i : Int) ha pa ba hn hc pn pc bn bc H P (HHx.out w1 (Below.refl _ _)) hHn (HPx.out w1 (Below.refl _ _)) hPn
  rw [hk] at t9
  have t18 : ∀ W : World, Calls Try.prog 18 #[.int .i64 7] W fun e w' => e = .returned (.bool true) ∧ W = w' := fun W => hasFile18 (w := W) 7
  have t19 : ∀ W : World, Calls Try.prog 19 #[.int .i64 7] W fun e w' => e = .returned (.bool true) ∧ W = w' := fun W => hasI19 (w := W) 7
  rw [HA.out] at t9 ⊢
  clear hH hP hb R hk h32 hHn hPn hbn h256
  go_enter Try.func11, Try.ntmps11
  go_upto_region 1 with (refine wp_box rfl 27 (.tmp 0) rfl A rfl ?_; rw [Hw1.out, Hq.out])
  go_wp2_with (refine wp_load rfl 27 (.tmp 1) rfl q rfl A 27 (0, 0) _ HX1.out Try.underlying27 rfl HIA.out ?_)
  refine t9.mono ?_
  rintro e w2 ⟨rfl, hB2⟩
  have HB2 : Hid (Below w1.heap.size w1 w2) := ⟨hB2⟩
  clear t9 hB2
  have HX2 := Hid.mk ((HB2.out.block q hq).trans HX1.out)
  have y0_2 : w2.cell? ⟨q, 0, none⟩ = some (.int .i64 7) := by rw [cell_of_row _ _ _ _ _ _ HX2.out, ← HA.out]; rfl
  have y1_2 : w2.cell? ⟨q, 1, none⟩ = some (.string nm) := by rw [cell_of_row _ _ _ _ _ _ HX2.out, ← HA.out]; rfl
  have y2_2 : w2.cell? ⟨q, 2, none⟩ = some (.int .i64 (g : Int)) := by rw [cell_of_row _ _ _ _ _ _ HX2.out, ← HA.out]; rfl
  have y3_2 : w2.cell? ⟨q, 3, none⟩ = some (.int .i64 (i : Int)) := by rw [cell_of_row _ _ _ _ _ _ HX2.out, ← HA.out]; rfl
  have y4_2 : w2.cell? ⟨q, 4, none⟩ = some (.slice ha hn hc) := by rw [cell_of_row _ _ _ _ _ _ HX2.out, ← HA.out]; rfl
  have y5_2 : w2.cell? ⟨q, 5, none⟩ = some (.slice pa pn pc) := by rw [cell_of_row _ _ _ _ _ _ HX2.out, ← HA.out]; rfl
  have y6_2 : w2.cell? ⟨q, 6, none⟩ = some (.slice ba bn bc) := by rw [cell_of_row _ _ _ _ _ _ HX2.out, ← HA.out]; rfl
  go_wp2_with fail
  refine (rnum29 (w := w2) (.slice none 0 0) [] (Oct.Bs.nil w2) (by simp) 7 (by decide)).mono ?_
  rintro e w3 ⟨v3, rfl, hO3, hB3⟩
  have HB3 : Hid (Below w1.heap.size w1 w3) := ⟨HB2.out.trans (hB3.mono HB2.out.size)⟩
  have hO3' : OwnY w3 w1.heap.size v3 ([] ++ Oct.numB 7) := Oct.OwnB.mono hO3 HB2.out.size
  obtain ⟨X3, HXd3⟩ : ∃ X, Hid ([] ++ Oct.numB 7 = X) := ⟨_, ⟨rfl⟩⟩
  have HXl3 : Hid (X3.length ≤ 40000) := ⟨by rw [← HXd3.out]; simp only [List.length_append, List.length_nil]; have := Oct.numB_len8 7 (by decide); omega⟩
  rw [HXd3.out] at hO3'
  obtain ⟨a3, c3, e, _⟩ := OwnY.shape hO3'
  subst e
  have HO3 : Hid (OwnY w3 w1.heap.size (.slice a3 X3.length c3) X3) := ⟨hO3'⟩
  clear hO3 hO3' hB3
  clear y0_2 y1_2 y2_2 y3_2 y4_2 y5_2 y6_2
  have HX3 := Hid.mk ((HB3.out.block q hq).trans HX1.out)
  have y0_3 : w3.cell? ⟨q, 0, none⟩ = some (.int .i64 7) := by rw [cell_of_row _ _ _ _ _ _ HX3.out, ← HA.out]; rfl
  have y1_3 : w3.cell? ⟨q, 1, none⟩ = some (.string nm) := by rw [cell_of_row _ _ _ _ _ _ HX3.out, ← HA.out]; rfl
  have y2_3 : w3.cell? ⟨q, 2, none⟩ = some (.int .i64 (g : Int)) := by rw [cell_of_row _ _ _ _ _ _ HX3.out, ← HA.out]; rfl
  have y3_3 : w3.cell? ⟨q, 3, none⟩ = some (.int .i64 (i : Int)) := by rw [cell_of_row _ _ _ _ _ _ HX3.out, ← HA.out]; rfl
  have y4_3 : w3.cell? ⟨q, 4, none⟩ = some (.slice ha hn hc) := by rw [cell_of_row _ _ _ _ _ _ HX3.out, ← HA.out]; rfl
  have y5_3 : w3.cell? ⟨q, 5, none⟩ = some (.slice pa pn pc) := by rw [cell_of_row _ _ _ _ _ _ HX3.out, ← HA.out]; rfl
  have y6_3 : w3.cell? ⟨q, 6, none⟩ = some (.slice ba bn bc) := by rw [cell_of_row _ _ _ _ _ _ HX3.out, ← HA.out]; rfl
  go_wp2_with fail
  refine (t18 _).mono ?_
  rintro e w' ⟨rfl, rfl⟩
  have HNl : Hid ((Oct.numB nm.size).length ≤ 8) := ⟨Oct.numB_len8 nm.size (by omega)⟩
  have HGl : Hid ((Oct.numB g).length ≤ 8) := ⟨Oct.numB_len8 g hgm⟩
  obtain ⟨Y4, HYd4⟩ : ∃ X, Hid (X3 ++ Oct.numB nm.size ++ strBs nm = X) := ⟨_, ⟨rfl⟩⟩
  obtain ⟨X4, HXd4⟩ : ∃ X, Hid (Y4 ++ Oct.numB g = X) := ⟨_, ⟨rfl⟩⟩
  have HYl4 : Hid (Y4.length ≤ 50000) := ⟨by rw [← HYd4.out]; simp only [List.length_append]; have := HXl3.out; have := HNl.out; have := strBs_len nm; omega⟩
  have HXl4 : Hid (X4.length ≤ 60000) := ⟨by rw [← HXd4.out]; simp only [List.length_append]; have := HYl4.out; have := HGl.out; omega⟩
  have t30 : ∀ (W : World), Oct.Bs W (.slice a3 X3.length c3) X3 → Calls Try.prog 30 #[.slice a3 X3.length c3, .string nm] W fun e w' => ∃ v, e = .returned v ∧ OwnY w' W.heap.size v Y4 ∧ Below W.heap.size W w' := fun W h => by
    rw [← HYd4.out]; exact rtext30 (w := W) _ X3 h (by have := HXl3.out; omega) nm (by omega)
  have t29 : ∀ (W : World) (u : Value), Oct.Bs W u Y4 → Calls Try.prog 29 #[u, .int .i64 (g : Int)] W fun e w' => ∃ v, e = .returned v ∧ OwnY w' W.heap.size v X4 ∧ Below W.heap.size W w' := fun W u h => by
    rw [← HXd4.out]; exact rnum29 (w := W) u Y4 h (by have := HYl4.out; omega) g hgm
  go_upto_region 6 with fail
  go_cut [5] from 20 to 26 (fun s5 wx => Hid (OwnY wx w1.heap.size s5 X4) ∧ Hid (Below w1.heap.size w1 wx))
  case first =>
    go_region_with (first
      | (go_at_call 30; refine Calls.mono (t30 _ (by exact Oct.OwnB.bs HO3.out)) ?_; rintro e wt ⟨vt, rfl, hOt, hBt⟩; obtain ⟨at', ct, rfl, _⟩ := OwnY.shape hOt; have hbt : Below w1.heap.size w1 wt := HB3.out.trans (Below.mono ⟨hBt.os, hBt.tape, hBt.output, hBt.size, hBt.block⟩ HB3.out.size); have hqt := (hbt.block q hq).trans HX1.out; have yt : wt.cell? ⟨q, 2, none⟩ = some (.int .i64 (g : Int)) := (by rw [cell_of_row _ _ _ _ _ _ hqt, ← HA.out]; rfl))
      | (go_at_call 29; refine Calls.mono (t29 _ _ (by exact Oct.OwnB.bs hOt)) ?_; rintro e wu ⟨vu, rfl, hOu, hBu⟩; have hbu : Below w1.heap.size w1 wu := hbt.trans (Below.mono ⟨hBu.os, hBu.tape, hBu.output, hBu.size, hBu.block⟩ hbt.size)))
    all_goals go_wp2_with fail
    all_goals go_meet
    all_goals exact ⟨⟨Oct.OwnB.mono hOu hbt.size⟩, ⟨hbu⟩⟩
  case rest =>
    obtain ⟨HO, HB4⟩ := hcut
    rename World => w4
    obtain ⟨a4, c4, e, _⟩ := OwnY.shape HO.out
    subst e
    have HO4 : Hid (OwnY w4 w1.heap.size (.slice a4 X4.length c4) X4) := ⟨HO.out⟩
    clear HO t30 t29 y0_3 y1_3 y2_3 y3_3 y4_3 y5_3 y6_3
    have HX4 := Hid.mk ((HB4.out.block q hq).trans HX1.out)
    have y0_4 : w4.cell? ⟨q, 0, none⟩ = some (.int .i64 7) := by rw [cell_of_row _ _ _ _ _ _ HX4.out, ← HA.out]; rfl
    have y1_4 : w4.cell? ⟨q, 1, none⟩ = some (.string nm) := by rw [cell_of_row _ _ _ _ _ _ HX4.out, ← HA.out]; rfl
    have y2_4 : w4.cell? ⟨q, 2, none⟩ = some (.int .i64 (g : Int)) := by rw [cell_of_row _ _ _ _ _ _ HX4.out, ← HA.out]; rfl
    have y3_4 : w4.cell? ⟨q, 3, none⟩ = some (.int .i64 (i : Int)) := by rw [cell_of_row _ _ _ _ _ _ HX4.out, ← HA.out]; rfl
    have y4_4 : w4.cell? ⟨q, 4, none⟩ = some (.slice ha hn hc) := by rw [cell_of_row _ _ _ _ _ _ HX4.out, ← HA.out]; rfl
    have y5_4 : w4.cell? ⟨q, 5, none⟩ = some (.slice pa pn pc) := by rw [cell_of_row _ _ _ _ _ _ HX4.out, ← HA.out]; rfl
    have y6_4 : w4.cell? ⟨q, 6, none⟩ = some (.slice ba bn bc) := by rw [cell_of_row _ _ _ _ _ _ HX4.out, ← HA.out]; rfl
    go_wp2_with fail
    refine (t19 _).mono ?_
    rintro e w' ⟨rfl, rfl⟩
    go_wp2_with fail
    refine (rnum29 (w := w4) (.slice a4 X4.length c4) X4 (Oct.OwnB.bs HO4.out) (by have := HXl4.out; omega) i (by omega)).mono ?_
    rintro e w5 ⟨v5, rfl, hO5, hB5⟩
    have HB5 : Hid (Below w1.heap.size w1 w5) := ⟨HB4.out.trans (hB5.mono HB4.out.size)⟩
    have hO5' : OwnY w5 w1.heap.size v5 (X4 ++ Oct.numB i) := Oct.OwnB.mono hO5 HB4.out.size
    obtain ⟨X5, HXd5⟩ : ∃ X, Hid (X4 ++ Oct.numB i = X) := ⟨_, ⟨rfl⟩⟩
    have HXl5 : Hid (X5.length ≤ 80000) := ⟨by rw [← HXd5.out]; simp only [List.length_append]; have := Oct.numB_len8 i (by omega); have := HXl4.out; omega⟩
    rw [HXd5.out] at hO5'
    obtain ⟨a5, c5, e, _⟩ := OwnY.shape hO5'
    subst e
    have HO5 : Hid (OwnY w5 w1.heap.size (.slice a5 X5.length c5) X5) := ⟨hO5'⟩
    clear hO5 hO5' hB5
    clear y0_4 y1_4 y2_4 y3_4 y4_4 y5_4 y6_4
    have HX5 := Hid.mk ((HB5.out.block q hq).trans HX1.out)
    have y0_5 : w5.cell? ⟨q, 0, none⟩ = some (.int .i64 7) := by rw [cell_of_row _ _ _ _ _ _ HX5.out, ← HA.out]; rfl
    have y1_5 : w5.cell? ⟨q, 1, none⟩ = some (.string nm) := by rw [cell_of_row _ _ _ _ _ _ HX5.out, ← HA.out]; rfl
    have y2_5 : w5.cell? ⟨q, 2, none⟩ = some (.int .i64 (g : Int)) := by rw [cell_of_row _ _ _ _ _ _ HX5.out, ← HA.out]; rfl
    have y3_5 : w5.cell? ⟨q, 3, none⟩ = some (.int .i64 (i : Int)) := by rw [cell_of_row _ _ _ _ _ _ HX5.out, ← HA.out]; rfl
    have y4_5 : w5.cell? ⟨q, 4, none⟩ = some (.slice ha hn hc) := by rw [cell_of_row _ _ _ _ _ _ HX5.out, ← HA.out]; rfl
    have y5_5 : w5.cell? ⟨q, 5, none⟩ = some (.slice pa pn pc) := by rw [cell_of_row _ _ _ _ _ _ HX5.out, ← HA.out]; rfl
    have y6_5 : w5.cell? ⟨q, 6, none⟩ = some (.slice ba bn bc) := by rw [cell_of_row _ _ _ _ _ _ HX5.out, ← HA.out]; rfl
    obtain ⟨S, HS⟩ : ∃ S, Hid (strOfNums bs = S) := ⟨_, ⟨rfl⟩⟩
    have hcv : (convert 25 9 (.slice ba bn bc)).run Try.prog w5 = .ok (.string S) w5 := by rw [← HS.out]; exact bs_str (HBx.out w5 HB5.out)
    have HSs : Hid (S.size = bs.length) := ⟨by rw [← HS.out, strOfNums_size]⟩
    have HSb : Hid (strBs S = bs) := ⟨by rw [← HS.out]; exact strBs_of bs H256.out⟩
    go_wp2_with fail
    refine (rtext30 (w := w5) (.slice a5 X5.length c5) X5 (Oct.OwnB.bs HO5.out) (by have := HXl5.out; omega) S (by have := HSs.out; have := HBl.out; omega)).mono ?_
    rintro e w6 ⟨v6, rfl, hO6, hB6⟩
    have HB6 : Hid (Below w1.heap.size w1 w6) := ⟨HB5.out.trans (hB6.mono HB5.out.size)⟩
    have hO6' : OwnY w6 w1.heap.size v6 (X5 ++ Oct.numB S.size ++ strBs S) := Oct.OwnB.mono hO6 HB5.out.size
    obtain ⟨X6, HXd6⟩ : ∃ X, Hid (X5 ++ Oct.numB S.size ++ strBs S = X) := ⟨_, ⟨rfl⟩⟩
    have HXl6 : Hid (X6.length ≤ 100000) := ⟨by rw [← HXd6.out]; simp only [List.length_append]; have := Oct.numB_len8 S.size (by have := HSs.out; have := HBl.out; omega); have := HXl5.out; have := strBs_len S; have := HSs.out; have := HBl.out; omega⟩
    rw [HXd6.out] at hO6'
    obtain ⟨a6, c6, e, _⟩ := OwnY.shape hO6'
    subst e
    have HO6 : Hid (OwnY w6 w1.heap.size (.slice a6 X6.length c6) X6) := ⟨hO6'⟩
    clear hO6 hO6' hB6
    clear hcv
    clear y0_5 y1_5 y2_5 y3_5 y4_5 y5_5 y6_5
    have HX6 := Hid.mk ((HB6.out.block q hq).trans HX1.out)
    have y0_6 : w6.cell? ⟨q, 0, none⟩ = some (.int .i64 7) := by rw [cell_of_row _ _ _ _ _ _ HX6.out, ← HA.out]; rfl
    have y1_6 : w6.cell? ⟨q, 1, none⟩ = some (.string nm) := by rw [cell_of_row _ _ _ _ _ _ HX6.out, ← HA.out]; rfl
    have y2_6 : w6.cell? ⟨q, 2, none⟩ = some (.int .i64 (g : Int)) := by rw [cell_of_row _ _ _ _ _ _ HX6.out, ← HA.out]; rfl
    have y3_6 : w6.cell? ⟨q, 3, none⟩ = some (.int .i64 (i : Int)) := by rw [cell_of_row _ _ _ _ _ _ HX6.out, ← HA.out]; rfl
    have y4_6 : w6.cell? ⟨q, 4, none⟩ = some (.slice ha hn hc) := by rw [cell_of_row _ _ _ _ _ _ HX6.out, ← HA.out]; rfl
    have y5_6 : w6.cell? ⟨q, 5, none⟩ = some (.slice pa pn pc) := by rw [cell_of_row _ _ _ _ _ _ HX6.out, ← HA.out]; rfl
    have y6_6 : w6.cell? ⟨q, 6, none⟩ = some (.slice ba bn bc) := by rw [cell_of_row _ _ _ _ _ _ HX6.out, ← HA.out]; rfl
    go_wp2_with fail
    go_ret2
    have HE : Hid (Oct.numB 7 ++ fB nm g ++ Oct.numB i ++ (Oct.numB bs.length ++ bs) = X6) := ⟨by rw [← HXd6.out, ← HSs.out, ← HSb.out, ← HXd5.out, ← HXd4.out, ← HYd4.out, ← HXd3.out]; simp [fB, List.append_assoc]⟩
    rw [HE.out]
    exact ⟨_, rfl, Oct.OwnB.mono HO6.out HB0.out.size, HB0.out.trans (HB6.out.mono HB0.out.size)⟩
end
end Go.Proofs.Ythohpbppfihoiaa
