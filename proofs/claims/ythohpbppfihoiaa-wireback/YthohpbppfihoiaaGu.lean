/- Texts joined into one: U71, U72, U73, U74, U75, U76, U77. -/
import Derived.Test.YthohpbppfihoiaaU6
/- Put of a right note whose kind is 1. -/
namespace Go.Proofs.Ythohpbppfihoiaa
open Go.RowKit

section
variable {w : World}
set_option maxHeartbeats 16000000 in
set_option maxRecDepth 100000 in
theorem put_1 (nm : ByteArray) (g i : Nat) (ha pa ba : Option Addr) (hn hc pn pc bn bc : Nat) (H : List Hd) (P : List Pt) (bs : List Int) (hH : RdE he 2 h0 w (.slice ha hn hc) H) (hHn : H.length = hn) (hP : RdE pe 33 p0 w (.slice pa pn pc) P) (hPn : P.length = pn) (hb : Oct.Bs w (.slice ba bn bc) bs) (hbn : bs.length = bn) (h32 : ∀ p ∈ P, p.1.length = 32) (hk : chk 1 nm g i H P bn = 0) :
    Calls Try.prog 10 #[.agg (na 1 nm (g : Int) (i : Int) (.slice ha hn hc) (.slice pa pn pc) (.slice ba bn bc))] w fun e w' => ∃ v, e = .returned (.tuple #[v, .int .i64 0]) ∧ OwnY w' w.heap.size v (Oct.numB 1) ∧ Below w.heap.size w w' := by
  have R := right_of hk
  have him : (i : Int) < 256 := R.i.2
  have HHl : Hid (H.length ≤ 64) := ⟨R.hl⟩
  have HPl : Hid (P.length ≤ 256) := ⟨R.pl⟩
  have HBl : Hid (bs.length ≤ 512) := ⟨by rw [hbn]; exact R.bl⟩
  have HHd : Hid (∀ x ∈ H, HdB x) := ⟨R.hd⟩
  have HPt : Hid (∀ x ∈ P, PtB x) := ⟨fun x hx => R.pt x hx (h32 x hx)⟩
  obtain ⟨q, Hq⟩ : ∃ q, Hid (w.heap.size = q) := ⟨_, ⟨rfl⟩⟩
  obtain ⟨A, HA⟩ : ∃ x, Hid (na 1 nm (g : Int) (i : Int) (.slice ha hn hc) (.slice pa pn pc) (.slice ba bn bc) = x) := ⟨_, ⟨rfl⟩⟩
  obtain ⟨M, HM⟩ : ∃ x, Hid (nmV (false, false, false, false, false) = x) := ⟨_, ⟨rfl⟩⟩
  have HMs : Hid ((Try.prog.info? 40).map (·.size) = some M.size ∧ M.all (·.oneCell') = true ∧ (nmV (false, false, false, false, false)).size = M.size) := ⟨by rw [← HM.out]; exact ⟨info40, nmV_one _, rfl⟩⟩
  obtain ⟨w1, Hw1⟩ : ∃ x, Hid (w.alloc (.cells A 27) = x) := ⟨_, ⟨rfl⟩⟩
  have HB1 : Hid (Below w.heap.size w w1) := ⟨by rw [← Hw1.out]; exact (Below.refl _ w).alloc (Nat.le_refl _) _⟩
  have HX1 : Hid (w1.heap[q]? = some (.cells A 27 (0, 0))) := ⟨by rw [← Hw1.out, ← Hq.out]; exact heap_alloc_new w _⟩
  have HIA : Hid ((Try.prog.info? 27).map (·.size) = some A.size) := ⟨by rw [← HA.out]; exact info27⟩
  have HHx : Hid (∀ wx, Below w.heap.size w wx → RdE he 2 h0 wx (.slice ha hn hc) H) := ⟨fun wx h => hH.far (Chg.ofBelow (X := []) h) (by simp)⟩
  have HPx : Hid (∀ wx, Below w.heap.size w wx → RdE pe 33 p0 wx (.slice pa pn pc) P) := ⟨fun wx h => hP.far (Chg.ofBelow (X := []) h) (by simp)⟩
  have HBx : Hid (∀ wx, Below w.heap.size w wx → Oct.Bs wx (.slice ba bn bc) bs) := ⟨fun wx h => hb.below h⟩
  have t8 := check8 (w := w1) 1 nm (g : Int) (i : Int) ha pa ba hn hc pn pc bn bc H P (HHx.out w1 HB1.out) hHn (HPx.out w1 HB1.out) hPn h32
  rw [hk] at t8
  have t15 : ∀ W : World, Calls Try.prog 15 #[.int .i64 1] W fun e w' => e = .returned (.tuple #[.agg (nmV (false, false, false, false, false)), .bool true]) ∧ Below W.heap.size W w' := fun W => named15 (w := W) 1
  rw [HA.out] at t8 ⊢
  rw [HM.out] at t15
  clear hH hP hb R hk h32
  go_enter Try.func10, Try.ntmps10
  go_upto_region 1 with (refine wp_box rfl 27 (.tmp 0) rfl A rfl ?_; rw [Hw1.out, Hq.out])
  go_wp2_with (refine wp_load rfl 27 (.tmp 1) rfl q rfl A 27 (0, 0) _ HX1.out Try.underlying27 rfl HIA.out ?_)
  refine t8.mono ?_
  rintro e w2 ⟨rfl, hB2⟩
  have HB2 : Hid (Below w.heap.size w w2) := ⟨HB1.out.trans (hB2.mono HB1.out.size)⟩
  have HX2 := Hid.mk (below_atN hB2 HX1.out)
  have z0 : w2.cell? ⟨q, 0, none⟩ = some (.int .i64 1) := by rw [cell_of_row _ _ _ _ _ _ HX2.out, ← HA.out]; rfl
  clear t8 hB2
  go_wp2_with fail
  refine (t15 w2).mono ?_
  rintro e w3 ⟨rfl, hB3⟩
  have HB3 : Hid (Below w.heap.size w w3) := ⟨HB2.out.trans (hB3.mono HB2.out.size)⟩
  have HX3 := Hid.mk (below_atN hB3 HX2.out)
  obtain ⟨r, Hr⟩ : ∃ q, Hid (w3.heap.size = q) := ⟨_, ⟨rfl⟩⟩
  obtain ⟨w4, Hw4⟩ : ∃ x, Hid ((w3.alloc (.cells (nmV (false, false, false, false, false)) 40)).setRow r M = x) := ⟨_, ⟨rfl⟩⟩
  have HB34 : Hid (Below w3.heap.size w3 w4) := ⟨by rw [← Hw4.out, ← Hr.out]; exact below_setRow ((Below.refl _ w3).alloc (Nat.le_refl _) _) (Nat.le_refl _) _⟩
  have HM4 : Hid (w4.heap[r]? = some (.cells M 40 (0, 0))) := ⟨by rw [← Hw4.out, ← Hr.out]; exact setRow_heap _ _ (nmV (false, false, false, false, false)) _ 40 (0, 0) (heap_alloc_new w3 _)⟩
  have HX4 := Hid.mk (below_atN HB34.out HX3.out)
  have HB4 : Hid (Below w.heap.size w w4) := ⟨HB3.out.trans (HB34.out.mono HB3.out.size)⟩
  have hq : q < w4.heap.size := (Array.getElem?_eq_some_iff.1 HX4.out).1
  have hr : r < w4.heap.size := (Array.getElem?_eq_some_iff.1 HM4.out).1
  have y0 : w4.cell? ⟨q, 0, none⟩ = some (.int .i64 1) := by rw [cell_of_row _ _ _ _ _ _ HX4.out, ← HA.out]; rfl
  clear t15 hB3 z0
  go_upto_region 5 with (first | (refine wp_newZ zero40 rfl rfl ?_; rw [Hr.out]) | (refine wpList_store_row rfl 40 (.tmp 5) (.tmp 17) rfl r M rfl rfl 40 (nmV (false, false, false, false, false)) (by rw [← Hr.out]; exact heap_alloc_new w3 _) HMs.out.1 HMs.out.2.2 HMs.out.2.1 ?_; rw [Hw4.out]))
  go_wp2_with fail
  refine (nums1 1 (by decide) w4.heap.size (heap_alloc_new w4 _)).mono ?_
  rintro e w5 ⟨v5, rfl, hO5, hB5⟩
  have HW5 : Hid (Below w4.heap.size w4 w5) := ⟨((Below.refl _ w4).alloc (Nat.le_refl _) _).trans (hB5.mono ((Below.refl _ w4).alloc (Nat.le_refl _) _).size)⟩
  have hO5' : OwnY w5 w4.heap.size v5 (Oct.numB 1) := Oct.OwnB.mono hO5 ((Below.refl _ w4).alloc (Nat.le_refl _) _).size
  obtain ⟨X5, HXd5⟩ : ∃ X, Hid (Oct.numB 1 = X) := ⟨_, ⟨rfl⟩⟩
  rw [HXd5.out] at hO5'
  obtain ⟨a5, c5, e, _⟩ := OwnY.shape hO5'
  subst e
  have HO5 : Hid (OwnY w5 w4.heap.size (.slice a5 X5.length c5) X5) := ⟨hO5'⟩
  have HXl5 : Hid (X5.length ≤ 20000) := ⟨by rw [← HXd5.out]; have := Oct.numB_len8 1 (by decide); omega⟩
  clear hO5 hO5' hB5 y0
  have HX5 := Hid.mk ((HW5.out.block q hq).trans HX4.out)
  have HM5 := Hid.mk ((HW5.out.block r hr).trans HM4.out)
  have x0_5 : w5.cell? ⟨r, 0, none⟩ = some (.bool false) := by rw [cell_of_row _ _ _ _ _ _ HM5.out, ← HM.out]; rfl
  have x1_5 : w5.cell? ⟨r, 1, none⟩ = some (.bool false) := by rw [cell_of_row _ _ _ _ _ _ HM5.out, ← HM.out]; rfl
  have x2_5 : w5.cell? ⟨r, 2, none⟩ = some (.bool false) := by rw [cell_of_row _ _ _ _ _ _ HM5.out, ← HM.out]; rfl
  have x3_5 : w5.cell? ⟨r, 3, none⟩ = some (.bool false) := by rw [cell_of_row _ _ _ _ _ _ HM5.out, ← HM.out]; rfl
  have x4_5 : w5.cell? ⟨r, 4, none⟩ = some (.bool false) := by rw [cell_of_row _ _ _ _ _ _ HM5.out, ← HM.out]; rfl
  have y0_5 : w5.cell? ⟨q, 0, none⟩ = some (.int .i64 1) := by rw [cell_of_row _ _ _ _ _ _ HX5.out, ← HA.out]; rfl
  have y1_5 : w5.cell? ⟨q, 1, none⟩ = some (.string nm) := by rw [cell_of_row _ _ _ _ _ _ HX5.out, ← HA.out]; rfl
  have y2_5 : w5.cell? ⟨q, 2, none⟩ = some (.int .i64 (g : Int)) := by rw [cell_of_row _ _ _ _ _ _ HX5.out, ← HA.out]; rfl
  have y3_5 : w5.cell? ⟨q, 3, none⟩ = some (.int .i64 (i : Int)) := by rw [cell_of_row _ _ _ _ _ _ HX5.out, ← HA.out]; rfl
  have y4_5 : w5.cell? ⟨q, 4, none⟩ = some (.slice ha hn hc) := by rw [cell_of_row _ _ _ _ _ _ HX5.out, ← HA.out]; rfl
  have y5_5 : w5.cell? ⟨q, 5, none⟩ = some (.slice pa pn pc) := by rw [cell_of_row _ _ _ _ _ _ HX5.out, ← HA.out]; rfl
  have y6_5 : w5.cell? ⟨q, 6, none⟩ = some (.slice ba bn bc) := by rw [cell_of_row _ _ _ _ _ _ HX5.out, ← HA.out]; rfl
  go_wp2_with fail
  go_ret2
  refine ⟨_, rfl, ?_, HB4.out.trans (HW5.out.mono HB4.out.size)⟩
  rw [HXd5.out]
  exact Oct.OwnB.mono HO5.out HB4.out.size
end
end Go.Proofs.Ythohpbppfihoiaa

/- Put of a right note whose kind is 2. -/
namespace Go.Proofs.Ythohpbppfihoiaa
open Go.RowKit

section
variable {w : World}
set_option maxHeartbeats 16000000 in
set_option maxRecDepth 100000 in
theorem put_2 (nm : ByteArray) (g i : Nat) (ha pa ba : Option Addr) (hn hc pn pc bn bc : Nat) (H : List Hd) (P : List Pt) (bs : List Int) (hH : RdE he 2 h0 w (.slice ha hn hc) H) (hHn : H.length = hn) (hP : RdE pe 33 p0 w (.slice pa pn pc) P) (hPn : P.length = pn) (hb : Oct.Bs w (.slice ba bn bc) bs) (hbn : bs.length = bn) (h32 : ∀ p ∈ P, p.1.length = 32) (hk : chk 2 nm g i H P bn = 0) :
    Calls Try.prog 10 #[.agg (na 2 nm (g : Int) (i : Int) (.slice ha hn hc) (.slice pa pn pc) (.slice ba bn bc))] w fun e w' => ∃ v, e = .returned (.tuple #[v, .int .i64 0]) ∧ OwnY w' w.heap.size v (Oct.numB 2 ++ lB hB H) ∧ Below w.heap.size w w' := by
  have R := right_of hk
  have him : (i : Int) < 256 := R.i.2
  have HHl : Hid (H.length ≤ 64) := ⟨R.hl⟩
  have HPl : Hid (P.length ≤ 256) := ⟨R.pl⟩
  have HBl : Hid (bs.length ≤ 512) := ⟨by rw [hbn]; exact R.bl⟩
  have HHd : Hid (∀ x ∈ H, HdB x) := ⟨R.hd⟩
  have HPt : Hid (∀ x ∈ P, PtB x) := ⟨fun x hx => R.pt x hx (h32 x hx)⟩
  obtain ⟨q, Hq⟩ : ∃ q, Hid (w.heap.size = q) := ⟨_, ⟨rfl⟩⟩
  obtain ⟨A, HA⟩ : ∃ x, Hid (na 2 nm (g : Int) (i : Int) (.slice ha hn hc) (.slice pa pn pc) (.slice ba bn bc) = x) := ⟨_, ⟨rfl⟩⟩
  obtain ⟨M, HM⟩ : ∃ x, Hid (nmV (false, false, true, false, false) = x) := ⟨_, ⟨rfl⟩⟩
  have HMs : Hid ((Try.prog.info? 40).map (·.size) = some M.size ∧ M.all (·.oneCell') = true ∧ (nmV (false, false, false, false, false)).size = M.size) := ⟨by rw [← HM.out]; exact ⟨info40, nmV_one _, rfl⟩⟩
  obtain ⟨w1, Hw1⟩ : ∃ x, Hid (w.alloc (.cells A 27) = x) := ⟨_, ⟨rfl⟩⟩
  have HB1 : Hid (Below w.heap.size w w1) := ⟨by rw [← Hw1.out]; exact (Below.refl _ w).alloc (Nat.le_refl _) _⟩
  have HX1 : Hid (w1.heap[q]? = some (.cells A 27 (0, 0))) := ⟨by rw [← Hw1.out, ← Hq.out]; exact heap_alloc_new w _⟩
  have HIA : Hid ((Try.prog.info? 27).map (·.size) = some A.size) := ⟨by rw [← HA.out]; exact info27⟩
  have HHx : Hid (∀ wx, Below w.heap.size w wx → RdE he 2 h0 wx (.slice ha hn hc) H) := ⟨fun wx h => hH.far (Chg.ofBelow (X := []) h) (by simp)⟩
  have HPx : Hid (∀ wx, Below w.heap.size w wx → RdE pe 33 p0 wx (.slice pa pn pc) P) := ⟨fun wx h => hP.far (Chg.ofBelow (X := []) h) (by simp)⟩
  have HBx : Hid (∀ wx, Below w.heap.size w wx → Oct.Bs wx (.slice ba bn bc) bs) := ⟨fun wx h => hb.below h⟩
  have t8 := check8 (w := w1) 2 nm (g : Int) (i : Int) ha pa ba hn hc pn pc bn bc H P (HHx.out w1 HB1.out) hHn (HPx.out w1 HB1.out) hPn h32
  rw [hk] at t8
  have t15 : ∀ W : World, Calls Try.prog 15 #[.int .i64 2] W fun e w' => e = .returned (.tuple #[.agg (nmV (false, false, true, false, false)), .bool true]) ∧ Below W.heap.size W w' := fun W => named15 (w := W) 2
  rw [HA.out] at t8 ⊢
  rw [HM.out] at t15
  clear hH hP hb R hk h32
  go_enter Try.func10, Try.ntmps10
  go_upto_region 1 with (refine wp_box rfl 27 (.tmp 0) rfl A rfl ?_; rw [Hw1.out, Hq.out])
  go_wp2_with (refine wp_load rfl 27 (.tmp 1) rfl q rfl A 27 (0, 0) _ HX1.out Try.underlying27 rfl HIA.out ?_)
  refine t8.mono ?_
  rintro e w2 ⟨rfl, hB2⟩
  have HB2 : Hid (Below w.heap.size w w2) := ⟨HB1.out.trans (hB2.mono HB1.out.size)⟩
  have HX2 := Hid.mk (below_atN hB2 HX1.out)
  have z0 : w2.cell? ⟨q, 0, none⟩ = some (.int .i64 2) := by rw [cell_of_row _ _ _ _ _ _ HX2.out, ← HA.out]; rfl
  clear t8 hB2
  go_wp2_with fail
  refine (t15 w2).mono ?_
  rintro e w3 ⟨rfl, hB3⟩
  have HB3 : Hid (Below w.heap.size w w3) := ⟨HB2.out.trans (hB3.mono HB2.out.size)⟩
  have HX3 := Hid.mk (below_atN hB3 HX2.out)
  obtain ⟨r, Hr⟩ : ∃ q, Hid (w3.heap.size = q) := ⟨_, ⟨rfl⟩⟩
  obtain ⟨w4, Hw4⟩ : ∃ x, Hid ((w3.alloc (.cells (nmV (false, false, false, false, false)) 40)).setRow r M = x) := ⟨_, ⟨rfl⟩⟩
  have HB34 : Hid (Below w3.heap.size w3 w4) := ⟨by rw [← Hw4.out, ← Hr.out]; exact below_setRow ((Below.refl _ w3).alloc (Nat.le_refl _) _) (Nat.le_refl _) _⟩
  have HM4 : Hid (w4.heap[r]? = some (.cells M 40 (0, 0))) := ⟨by rw [← Hw4.out, ← Hr.out]; exact setRow_heap _ _ (nmV (false, false, false, false, false)) _ 40 (0, 0) (heap_alloc_new w3 _)⟩
  have HX4 := Hid.mk (below_atN HB34.out HX3.out)
  have HB4 : Hid (Below w.heap.size w w4) := ⟨HB3.out.trans (HB34.out.mono HB3.out.size)⟩
  have hq : q < w4.heap.size := (Array.getElem?_eq_some_iff.1 HX4.out).1
  have hr : r < w4.heap.size := (Array.getElem?_eq_some_iff.1 HM4.out).1
  have y0 : w4.cell? ⟨q, 0, none⟩ = some (.int .i64 2) := by rw [cell_of_row _ _ _ _ _ _ HX4.out, ← HA.out]; rfl
  clear t15 hB3 z0
  go_upto_region 5 with (first | (refine wp_newZ zero40 rfl rfl ?_; rw [Hr.out]) | (refine wpList_store_row rfl 40 (.tmp 5) (.tmp 17) rfl r M rfl rfl 40 (nmV (false, false, false, false, false)) (by rw [← Hr.out]; exact heap_alloc_new w3 _) HMs.out.1 HMs.out.2.2 HMs.out.2.1 ?_; rw [Hw4.out]))
  go_wp2_with fail
  refine (nums1 2 (by decide) w4.heap.size (heap_alloc_new w4 _)).mono ?_
  rintro e w5 ⟨v5, rfl, hO5, hB5⟩
  have HW5 : Hid (Below w4.heap.size w4 w5) := ⟨((Below.refl _ w4).alloc (Nat.le_refl _) _).trans (hB5.mono ((Below.refl _ w4).alloc (Nat.le_refl _) _).size)⟩
  have hO5' : OwnY w5 w4.heap.size v5 (Oct.numB 2) := Oct.OwnB.mono hO5 ((Below.refl _ w4).alloc (Nat.le_refl _) _).size
  obtain ⟨X5, HXd5⟩ : ∃ X, Hid (Oct.numB 2 = X) := ⟨_, ⟨rfl⟩⟩
  rw [HXd5.out] at hO5'
  obtain ⟨a5, c5, e, _⟩ := OwnY.shape hO5'
  subst e
  have HO5 : Hid (OwnY w5 w4.heap.size (.slice a5 X5.length c5) X5) := ⟨hO5'⟩
  have HXl5 : Hid (X5.length ≤ 20000) := ⟨by rw [← HXd5.out]; have := Oct.numB_len8 2 (by decide); omega⟩
  clear hO5 hO5' hB5 y0
  have HX5 := Hid.mk ((HW5.out.block q hq).trans HX4.out)
  have HM5 := Hid.mk ((HW5.out.block r hr).trans HM4.out)
  have x0_5 : w5.cell? ⟨r, 0, none⟩ = some (.bool false) := by rw [cell_of_row _ _ _ _ _ _ HM5.out, ← HM.out]; rfl
  have x1_5 : w5.cell? ⟨r, 1, none⟩ = some (.bool false) := by rw [cell_of_row _ _ _ _ _ _ HM5.out, ← HM.out]; rfl
  have x2_5 : w5.cell? ⟨r, 2, none⟩ = some (.bool true) := by rw [cell_of_row _ _ _ _ _ _ HM5.out, ← HM.out]; rfl
  have x3_5 : w5.cell? ⟨r, 3, none⟩ = some (.bool false) := by rw [cell_of_row _ _ _ _ _ _ HM5.out, ← HM.out]; rfl
  have x4_5 : w5.cell? ⟨r, 4, none⟩ = some (.bool false) := by rw [cell_of_row _ _ _ _ _ _ HM5.out, ← HM.out]; rfl
  have y0_5 : w5.cell? ⟨q, 0, none⟩ = some (.int .i64 2) := by rw [cell_of_row _ _ _ _ _ _ HX5.out, ← HA.out]; rfl
  have y1_5 : w5.cell? ⟨q, 1, none⟩ = some (.string nm) := by rw [cell_of_row _ _ _ _ _ _ HX5.out, ← HA.out]; rfl
  have y2_5 : w5.cell? ⟨q, 2, none⟩ = some (.int .i64 (g : Int)) := by rw [cell_of_row _ _ _ _ _ _ HX5.out, ← HA.out]; rfl
  have y3_5 : w5.cell? ⟨q, 3, none⟩ = some (.int .i64 (i : Int)) := by rw [cell_of_row _ _ _ _ _ _ HX5.out, ← HA.out]; rfl
  have y4_5 : w5.cell? ⟨q, 4, none⟩ = some (.slice ha hn hc) := by rw [cell_of_row _ _ _ _ _ _ HX5.out, ← HA.out]; rfl
  have y5_5 : w5.cell? ⟨q, 5, none⟩ = some (.slice pa pn pc) := by rw [cell_of_row _ _ _ _ _ _ HX5.out, ← HA.out]; rfl
  have y6_5 : w5.cell? ⟨q, 6, none⟩ = some (.slice ba bn bc) := by rw [cell_of_row _ _ _ _ _ _ HX5.out, ← HA.out]; rfl
  go_wp2_with fail
  refine (list23 (.slice ha hn hc) H (HHx.out w5 (HB4.out.trans (HW5.out.mono HB4.out.size))) HHd.out (by have := HHl.out; omega)).mono ?_
  rintro e wa6 ⟨va6, rfl, hOa, hBa⟩
  have hB6 : Below w5.heap.size w5 wa6 := hBa
  have HWa6 : Hid (Below w4.heap.size w4 wa6) := ⟨HW5.out.trans (hB6.mono HW5.out.size)⟩
  have HOa6 : Hid (OwnY wa6 w4.heap.size (.slice a5 X5.length c5) X5) := ⟨Oct.OwnB.below HO5.out hB6⟩
  obtain ⟨Y6, HY6⟩ : ∃ Y, Hid (lB hB H = Y) := ⟨_, ⟨rfl⟩⟩
  rw [HY6.out] at hOa
  have HYl6 : Hid (Y6.length ≤ 20000) := ⟨by rw [← HY6.out]; exact by have a := fm_len H (fun x hx => hB_len x (HHd.out x hx)); have b := Oct.numB_len8 H.length (by have := HHl.out; omega); have c := HHl.out; unfold lB; simp only [List.length_append]; omega⟩
  have HR6 : Hid (RdY wa6 va6 Y6) := ⟨OwnY.rd hOa⟩
  clear x0_5 x1_5 x2_5 x3_5 x4_5 y0_5 y1_5 y2_5 y3_5 y4_5 y5_5 y6_5
  clear hOa hBa hB6
  go_wp2_with (at_builtin; refine wp_appY rfl (.tmp 42) (.tmp 45) rfl rfl HOa6.out rfl HR6.out (by have h1 := HXl5.out; have h2 := HYl6.out; omega) HWa6.out.size ?_; intro v6 w6 hO hC hw; have HOz : Hid (OwnY w6 w4.heap.size v6 (X5 ++ Y6)) := ⟨hO⟩; have HCz : Hid (Chg (ob (Value.slice a5 X5.length c5)) wa6 w6) := ⟨hC⟩; clear hO hC hw; obtain ⟨X6, HXd6⟩ : ∃ X, Hid (X5 ++ Y6 = X) := ⟨_, ⟨rfl⟩⟩; rw [HXd6.out] at HOz; obtain ⟨a6, c6, e, _⟩ := OwnY.shape HOz.out; subst e; have HO6 : Hid (OwnY w6 w4.heap.size (.slice a6 X6.length c6) X6) := ⟨HOz.out⟩; have HXl6 : Hid (X6.length ≤ 40000) := ⟨by rw [← HXd6.out, List.length_append]; have h1 := HXl5.out; have h2 := HYl6.out; omega⟩; have HW6 : Hid (Below w4.heap.size w4 w6) := ⟨HWa6.out.trans (HCz.out.below HWa6.out.size (own_geY HOa6.out))⟩; clear HOz HCz; have HX6 := Hid.mk ((HW6.out.block q hq).trans HX4.out); have HM6 := Hid.mk ((HW6.out.block r hr).trans HM4.out); have x0_6 : w6.cell? ⟨r, 0, none⟩ = some (.bool false) := (by rw [cell_of_row _ _ _ _ _ _ HM6.out, ← HM.out]; rfl); have x1_6 : w6.cell? ⟨r, 1, none⟩ = some (.bool false) := (by rw [cell_of_row _ _ _ _ _ _ HM6.out, ← HM.out]; rfl); have x2_6 : w6.cell? ⟨r, 2, none⟩ = some (.bool true) := (by rw [cell_of_row _ _ _ _ _ _ HM6.out, ← HM.out]; rfl); have x3_6 : w6.cell? ⟨r, 3, none⟩ = some (.bool false) := (by rw [cell_of_row _ _ _ _ _ _ HM6.out, ← HM.out]; rfl); have x4_6 : w6.cell? ⟨r, 4, none⟩ = some (.bool false) := (by rw [cell_of_row _ _ _ _ _ _ HM6.out, ← HM.out]; rfl); have y0_6 : w6.cell? ⟨q, 0, none⟩ = some (.int .i64 2) := (by rw [cell_of_row _ _ _ _ _ _ HX6.out, ← HA.out]; rfl); have y1_6 : w6.cell? ⟨q, 1, none⟩ = some (.string nm) := (by rw [cell_of_row _ _ _ _ _ _ HX6.out, ← HA.out]; rfl); have y2_6 : w6.cell? ⟨q, 2, none⟩ = some (.int .i64 (g : Int)) := (by rw [cell_of_row _ _ _ _ _ _ HX6.out, ← HA.out]; rfl); have y3_6 : w6.cell? ⟨q, 3, none⟩ = some (.int .i64 (i : Int)) := (by rw [cell_of_row _ _ _ _ _ _ HX6.out, ← HA.out]; rfl); have y4_6 : w6.cell? ⟨q, 4, none⟩ = some (.slice ha hn hc) := (by rw [cell_of_row _ _ _ _ _ _ HX6.out, ← HA.out]; rfl); have y5_6 : w6.cell? ⟨q, 5, none⟩ = some (.slice pa pn pc) := (by rw [cell_of_row _ _ _ _ _ _ HX6.out, ← HA.out]; rfl); have y6_6 : w6.cell? ⟨q, 6, none⟩ = some (.slice ba bn bc) := (by rw [cell_of_row _ _ _ _ _ _ HX6.out, ← HA.out]; rfl))
  go_wp2_with fail
  go_ret2
  refine ⟨_, rfl, ?_, HB4.out.trans (HW6.out.mono HB4.out.size)⟩
  rw [HXd5.out, HY6.out, HXd6.out]
  exact Oct.OwnB.mono HO6.out HB4.out.size
end
end Go.Proofs.Ythohpbppfihoiaa

/- Put of a right note whose kind is 3. -/
namespace Go.Proofs.Ythohpbppfihoiaa
open Go.RowKit

section
variable {w : World}
set_option maxHeartbeats 16000000 in
set_option maxRecDepth 100000 in
theorem put_3 (nm : ByteArray) (g i : Nat) (ha pa ba : Option Addr) (hn hc pn pc bn bc : Nat) (H : List Hd) (P : List Pt) (bs : List Int) (hH : RdE he 2 h0 w (.slice ha hn hc) H) (hHn : H.length = hn) (hP : RdE pe 33 p0 w (.slice pa pn pc) P) (hPn : P.length = pn) (hb : Oct.Bs w (.slice ba bn bc) bs) (hbn : bs.length = bn) (h32 : ∀ p ∈ P, p.1.length = 32) (hk : chk 3 nm g i H P bn = 0) :
    Calls Try.prog 10 #[.agg (na 3 nm (g : Int) (i : Int) (.slice ha hn hc) (.slice pa pn pc) (.slice ba bn bc))] w fun e w' => ∃ v, e = .returned (.tuple #[v, .int .i64 0]) ∧ OwnY w' w.heap.size v (Oct.numB 3 ++ fB nm g) ∧ Below w.heap.size w w' := by
  have R := right_of hk
  obtain ⟨hnm, _, hgm'⟩ := R.file rfl
  have hgm : g ≤ 9007199254740991 := by omega
  have him : (i : Int) < 256 := R.i.2
  have HHl : Hid (H.length ≤ 64) := ⟨R.hl⟩
  have HPl : Hid (P.length ≤ 256) := ⟨R.pl⟩
  have HBl : Hid (bs.length ≤ 512) := ⟨by rw [hbn]; exact R.bl⟩
  have HHd : Hid (∀ x ∈ H, HdB x) := ⟨R.hd⟩
  have HPt : Hid (∀ x ∈ P, PtB x) := ⟨fun x hx => R.pt x hx (h32 x hx)⟩
  obtain ⟨q, Hq⟩ : ∃ q, Hid (w.heap.size = q) := ⟨_, ⟨rfl⟩⟩
  obtain ⟨A, HA⟩ : ∃ x, Hid (na 3 nm (g : Int) (i : Int) (.slice ha hn hc) (.slice pa pn pc) (.slice ba bn bc) = x) := ⟨_, ⟨rfl⟩⟩
  obtain ⟨M, HM⟩ : ∃ x, Hid (nmV (true, false, false, false, false) = x) := ⟨_, ⟨rfl⟩⟩
  have HMs : Hid ((Try.prog.info? 40).map (·.size) = some M.size ∧ M.all (·.oneCell') = true ∧ (nmV (false, false, false, false, false)).size = M.size) := ⟨by rw [← HM.out]; exact ⟨info40, nmV_one _, rfl⟩⟩
  obtain ⟨w1, Hw1⟩ : ∃ x, Hid (w.alloc (.cells A 27) = x) := ⟨_, ⟨rfl⟩⟩
  have HB1 : Hid (Below w.heap.size w w1) := ⟨by rw [← Hw1.out]; exact (Below.refl _ w).alloc (Nat.le_refl _) _⟩
  have HX1 : Hid (w1.heap[q]? = some (.cells A 27 (0, 0))) := ⟨by rw [← Hw1.out, ← Hq.out]; exact heap_alloc_new w _⟩
  have HIA : Hid ((Try.prog.info? 27).map (·.size) = some A.size) := ⟨by rw [← HA.out]; exact info27⟩
  have HHx : Hid (∀ wx, Below w.heap.size w wx → RdE he 2 h0 wx (.slice ha hn hc) H) := ⟨fun wx h => hH.far (Chg.ofBelow (X := []) h) (by simp)⟩
  have HPx : Hid (∀ wx, Below w.heap.size w wx → RdE pe 33 p0 wx (.slice pa pn pc) P) := ⟨fun wx h => hP.far (Chg.ofBelow (X := []) h) (by simp)⟩
  have HBx : Hid (∀ wx, Below w.heap.size w wx → Oct.Bs wx (.slice ba bn bc) bs) := ⟨fun wx h => hb.below h⟩
  have t8 := check8 (w := w1) 3 nm (g : Int) (i : Int) ha pa ba hn hc pn pc bn bc H P (HHx.out w1 HB1.out) hHn (HPx.out w1 HB1.out) hPn h32
  rw [hk] at t8
  have t15 : ∀ W : World, Calls Try.prog 15 #[.int .i64 3] W fun e w' => e = .returned (.tuple #[.agg (nmV (true, false, false, false, false)), .bool true]) ∧ Below W.heap.size W w' := fun W => named15 (w := W) 3
  rw [HA.out] at t8 ⊢
  rw [HM.out] at t15
  clear hH hP hb R hk h32
  go_enter Try.func10, Try.ntmps10
  go_upto_region 1 with (refine wp_box rfl 27 (.tmp 0) rfl A rfl ?_; rw [Hw1.out, Hq.out])
  go_wp2_with (refine wp_load rfl 27 (.tmp 1) rfl q rfl A 27 (0, 0) _ HX1.out Try.underlying27 rfl HIA.out ?_)
  refine t8.mono ?_
  rintro e w2 ⟨rfl, hB2⟩
  have HB2 : Hid (Below w.heap.size w w2) := ⟨HB1.out.trans (hB2.mono HB1.out.size)⟩
  have HX2 := Hid.mk (below_atN hB2 HX1.out)
  have z0 : w2.cell? ⟨q, 0, none⟩ = some (.int .i64 3) := by rw [cell_of_row _ _ _ _ _ _ HX2.out, ← HA.out]; rfl
  clear t8 hB2
  go_wp2_with fail
  refine (t15 w2).mono ?_
  rintro e w3 ⟨rfl, hB3⟩
  have HB3 : Hid (Below w.heap.size w w3) := ⟨HB2.out.trans (hB3.mono HB2.out.size)⟩
  have HX3 := Hid.mk (below_atN hB3 HX2.out)
  obtain ⟨r, Hr⟩ : ∃ q, Hid (w3.heap.size = q) := ⟨_, ⟨rfl⟩⟩
  obtain ⟨w4, Hw4⟩ : ∃ x, Hid ((w3.alloc (.cells (nmV (false, false, false, false, false)) 40)).setRow r M = x) := ⟨_, ⟨rfl⟩⟩
  have HB34 : Hid (Below w3.heap.size w3 w4) := ⟨by rw [← Hw4.out, ← Hr.out]; exact below_setRow ((Below.refl _ w3).alloc (Nat.le_refl _) _) (Nat.le_refl _) _⟩
  have HM4 : Hid (w4.heap[r]? = some (.cells M 40 (0, 0))) := ⟨by rw [← Hw4.out, ← Hr.out]; exact setRow_heap _ _ (nmV (false, false, false, false, false)) _ 40 (0, 0) (heap_alloc_new w3 _)⟩
  have HX4 := Hid.mk (below_atN HB34.out HX3.out)
  have HB4 : Hid (Below w.heap.size w w4) := ⟨HB3.out.trans (HB34.out.mono HB3.out.size)⟩
  have hq : q < w4.heap.size := (Array.getElem?_eq_some_iff.1 HX4.out).1
  have hr : r < w4.heap.size := (Array.getElem?_eq_some_iff.1 HM4.out).1
  have y0 : w4.cell? ⟨q, 0, none⟩ = some (.int .i64 3) := by rw [cell_of_row _ _ _ _ _ _ HX4.out, ← HA.out]; rfl
  clear t15 hB3 z0
  go_upto_region 5 with (first | (refine wp_newZ zero40 rfl rfl ?_; rw [Hr.out]) | (refine wpList_store_row rfl 40 (.tmp 5) (.tmp 17) rfl r M rfl rfl 40 (nmV (false, false, false, false, false)) (by rw [← Hr.out]; exact heap_alloc_new w3 _) HMs.out.1 HMs.out.2.2 HMs.out.2.1 ?_; rw [Hw4.out]))
  go_wp2_with fail
  refine (nums1 3 (by decide) w4.heap.size (heap_alloc_new w4 _)).mono ?_
  rintro e w5 ⟨v5, rfl, hO5, hB5⟩
  have HW5 : Hid (Below w4.heap.size w4 w5) := ⟨((Below.refl _ w4).alloc (Nat.le_refl _) _).trans (hB5.mono ((Below.refl _ w4).alloc (Nat.le_refl _) _).size)⟩
  have hO5' : OwnY w5 w4.heap.size v5 (Oct.numB 3) := Oct.OwnB.mono hO5 ((Below.refl _ w4).alloc (Nat.le_refl _) _).size
  obtain ⟨X5, HXd5⟩ : ∃ X, Hid (Oct.numB 3 = X) := ⟨_, ⟨rfl⟩⟩
  rw [HXd5.out] at hO5'
  obtain ⟨a5, c5, e, _⟩ := OwnY.shape hO5'
  subst e
  have HO5 : Hid (OwnY w5 w4.heap.size (.slice a5 X5.length c5) X5) := ⟨hO5'⟩
  have HXl5 : Hid (X5.length ≤ 20000) := ⟨by rw [← HXd5.out]; have := Oct.numB_len8 3 (by decide); omega⟩
  clear hO5 hO5' hB5 y0
  have HX5 := Hid.mk ((HW5.out.block q hq).trans HX4.out)
  have HM5 := Hid.mk ((HW5.out.block r hr).trans HM4.out)
  have x0_5 : w5.cell? ⟨r, 0, none⟩ = some (.bool true) := by rw [cell_of_row _ _ _ _ _ _ HM5.out, ← HM.out]; rfl
  have x1_5 : w5.cell? ⟨r, 1, none⟩ = some (.bool false) := by rw [cell_of_row _ _ _ _ _ _ HM5.out, ← HM.out]; rfl
  have x2_5 : w5.cell? ⟨r, 2, none⟩ = some (.bool false) := by rw [cell_of_row _ _ _ _ _ _ HM5.out, ← HM.out]; rfl
  have x3_5 : w5.cell? ⟨r, 3, none⟩ = some (.bool false) := by rw [cell_of_row _ _ _ _ _ _ HM5.out, ← HM.out]; rfl
  have x4_5 : w5.cell? ⟨r, 4, none⟩ = some (.bool false) := by rw [cell_of_row _ _ _ _ _ _ HM5.out, ← HM.out]; rfl
  have y0_5 : w5.cell? ⟨q, 0, none⟩ = some (.int .i64 3) := by rw [cell_of_row _ _ _ _ _ _ HX5.out, ← HA.out]; rfl
  have y1_5 : w5.cell? ⟨q, 1, none⟩ = some (.string nm) := by rw [cell_of_row _ _ _ _ _ _ HX5.out, ← HA.out]; rfl
  have y2_5 : w5.cell? ⟨q, 2, none⟩ = some (.int .i64 (g : Int)) := by rw [cell_of_row _ _ _ _ _ _ HX5.out, ← HA.out]; rfl
  have y3_5 : w5.cell? ⟨q, 3, none⟩ = some (.int .i64 (i : Int)) := by rw [cell_of_row _ _ _ _ _ _ HX5.out, ← HA.out]; rfl
  have y4_5 : w5.cell? ⟨q, 4, none⟩ = some (.slice ha hn hc) := by rw [cell_of_row _ _ _ _ _ _ HX5.out, ← HA.out]; rfl
  have y5_5 : w5.cell? ⟨q, 5, none⟩ = some (.slice pa pn pc) := by rw [cell_of_row _ _ _ _ _ _ HX5.out, ← HA.out]; rfl
  have y6_5 : w5.cell? ⟨q, 6, none⟩ = some (.slice ba bn bc) := by rw [cell_of_row _ _ _ _ _ _ HX5.out, ← HA.out]; rfl
  go_wp2_with fail
  refine (file22 nm hnm g hgm).mono ?_
  rintro e wa6 ⟨va6, rfl, hOa, hBa⟩
  have hB6 : Below w5.heap.size w5 wa6 := hBa
  have HWa6 : Hid (Below w4.heap.size w4 wa6) := ⟨HW5.out.trans (hB6.mono HW5.out.size)⟩
  have HOa6 : Hid (OwnY wa6 w4.heap.size (.slice a5 X5.length c5) X5) := ⟨Oct.OwnB.below HO5.out hB6⟩
  obtain ⟨Y6, HY6⟩ : ∃ Y, Hid (fB nm g = Y) := ⟨_, ⟨rfl⟩⟩
  rw [HY6.out] at hOa
  have HYl6 : Hid (Y6.length ≤ 20000) := ⟨by rw [← HY6.out]; exact by have a := Oct.numB_len8 nm.size (by omega); have b := Oct.numB_len8 g hgm; have c := strBs_len nm; unfold fB; simp only [List.length_append]; omega⟩
  have HR6 : Hid (RdY wa6 va6 Y6) := ⟨OwnY.rd hOa⟩
  clear x0_5 x1_5 x2_5 x3_5 x4_5 y0_5 y1_5 y2_5 y3_5 y4_5 y5_5 y6_5
  clear hOa hBa hB6
  go_wp2_with (at_builtin; refine wp_appY rfl (.tmp 25) (.tmp 30) rfl rfl HOa6.out rfl HR6.out (by have h1 := HXl5.out; have h2 := HYl6.out; omega) HWa6.out.size ?_; intro v6 w6 hO hC hw; have HOz : Hid (OwnY w6 w4.heap.size v6 (X5 ++ Y6)) := ⟨hO⟩; have HCz : Hid (Chg (ob (Value.slice a5 X5.length c5)) wa6 w6) := ⟨hC⟩; clear hO hC hw; obtain ⟨X6, HXd6⟩ : ∃ X, Hid (X5 ++ Y6 = X) := ⟨_, ⟨rfl⟩⟩; rw [HXd6.out] at HOz; obtain ⟨a6, c6, e, _⟩ := OwnY.shape HOz.out; subst e; have HO6 : Hid (OwnY w6 w4.heap.size (.slice a6 X6.length c6) X6) := ⟨HOz.out⟩; have HXl6 : Hid (X6.length ≤ 40000) := ⟨by rw [← HXd6.out, List.length_append]; have h1 := HXl5.out; have h2 := HYl6.out; omega⟩; have HW6 : Hid (Below w4.heap.size w4 w6) := ⟨HWa6.out.trans (HCz.out.below HWa6.out.size (own_geY HOa6.out))⟩; clear HOz HCz; have HX6 := Hid.mk ((HW6.out.block q hq).trans HX4.out); have HM6 := Hid.mk ((HW6.out.block r hr).trans HM4.out); have x0_6 : w6.cell? ⟨r, 0, none⟩ = some (.bool true) := (by rw [cell_of_row _ _ _ _ _ _ HM6.out, ← HM.out]; rfl); have x1_6 : w6.cell? ⟨r, 1, none⟩ = some (.bool false) := (by rw [cell_of_row _ _ _ _ _ _ HM6.out, ← HM.out]; rfl); have x2_6 : w6.cell? ⟨r, 2, none⟩ = some (.bool false) := (by rw [cell_of_row _ _ _ _ _ _ HM6.out, ← HM.out]; rfl); have x3_6 : w6.cell? ⟨r, 3, none⟩ = some (.bool false) := (by rw [cell_of_row _ _ _ _ _ _ HM6.out, ← HM.out]; rfl); have x4_6 : w6.cell? ⟨r, 4, none⟩ = some (.bool false) := (by rw [cell_of_row _ _ _ _ _ _ HM6.out, ← HM.out]; rfl); have y0_6 : w6.cell? ⟨q, 0, none⟩ = some (.int .i64 3) := (by rw [cell_of_row _ _ _ _ _ _ HX6.out, ← HA.out]; rfl); have y1_6 : w6.cell? ⟨q, 1, none⟩ = some (.string nm) := (by rw [cell_of_row _ _ _ _ _ _ HX6.out, ← HA.out]; rfl); have y2_6 : w6.cell? ⟨q, 2, none⟩ = some (.int .i64 (g : Int)) := (by rw [cell_of_row _ _ _ _ _ _ HX6.out, ← HA.out]; rfl); have y3_6 : w6.cell? ⟨q, 3, none⟩ = some (.int .i64 (i : Int)) := (by rw [cell_of_row _ _ _ _ _ _ HX6.out, ← HA.out]; rfl); have y4_6 : w6.cell? ⟨q, 4, none⟩ = some (.slice ha hn hc) := (by rw [cell_of_row _ _ _ _ _ _ HX6.out, ← HA.out]; rfl); have y5_6 : w6.cell? ⟨q, 5, none⟩ = some (.slice pa pn pc) := (by rw [cell_of_row _ _ _ _ _ _ HX6.out, ← HA.out]; rfl); have y6_6 : w6.cell? ⟨q, 6, none⟩ = some (.slice ba bn bc) := (by rw [cell_of_row _ _ _ _ _ _ HX6.out, ← HA.out]; rfl))
  go_wp2_with fail
  go_ret2
  refine ⟨_, rfl, ?_, HB4.out.trans (HW6.out.mono HB4.out.size)⟩
  rw [HXd5.out, HY6.out, HXd6.out]
  exact Oct.OwnB.mono HO6.out HB4.out.size
end
end Go.Proofs.Ythohpbppfihoiaa

/- Put of a right note whose kind is 4. -/
namespace Go.Proofs.Ythohpbppfihoiaa
open Go.RowKit

section
variable {w : World}
set_option maxHeartbeats 16000000 in
set_option maxRecDepth 100000 in
theorem put_4 (nm : ByteArray) (g i : Nat) (ha pa ba : Option Addr) (hn hc pn pc bn bc : Nat) (H : List Hd) (P : List Pt) (bs : List Int) (hH : RdE he 2 h0 w (.slice ha hn hc) H) (hHn : H.length = hn) (hP : RdE pe 33 p0 w (.slice pa pn pc) P) (hPn : P.length = pn) (hb : Oct.Bs w (.slice ba bn bc) bs) (hbn : bs.length = bn) (h32 : ∀ p ∈ P, p.1.length = 32) (hk : chk 4 nm g i H P bn = 0) :
    Calls Try.prog 10 #[.agg (na 4 nm (g : Int) (i : Int) (.slice ha hn hc) (.slice pa pn pc) (.slice ba bn bc))] w fun e w' => ∃ v, e = .returned (.tuple #[v, .int .i64 0]) ∧ OwnY w' w.heap.size v (Oct.numB 4 ++ fB nm g ++ lB qB P) ∧ Below w.heap.size w w' := by
  have R := right_of hk
  obtain ⟨hnm, _, hgm'⟩ := R.file rfl
  have hgm : g ≤ 9007199254740991 := by omega
  have him : (i : Int) < 256 := R.i.2
  have HHl : Hid (H.length ≤ 64) := ⟨R.hl⟩
  have HPl : Hid (P.length ≤ 256) := ⟨R.pl⟩
  have HBl : Hid (bs.length ≤ 512) := ⟨by rw [hbn]; exact R.bl⟩
  have HHd : Hid (∀ x ∈ H, HdB x) := ⟨R.hd⟩
  have HPt : Hid (∀ x ∈ P, PtB x) := ⟨fun x hx => R.pt x hx (h32 x hx)⟩
  obtain ⟨q, Hq⟩ : ∃ q, Hid (w.heap.size = q) := ⟨_, ⟨rfl⟩⟩
  obtain ⟨A, HA⟩ : ∃ x, Hid (na 4 nm (g : Int) (i : Int) (.slice ha hn hc) (.slice pa pn pc) (.slice ba bn bc) = x) := ⟨_, ⟨rfl⟩⟩
  obtain ⟨M, HM⟩ : ∃ x, Hid (nmV (true, false, false, true, false) = x) := ⟨_, ⟨rfl⟩⟩
  have HMs : Hid ((Try.prog.info? 40).map (·.size) = some M.size ∧ M.all (·.oneCell') = true ∧ (nmV (false, false, false, false, false)).size = M.size) := ⟨by rw [← HM.out]; exact ⟨info40, nmV_one _, rfl⟩⟩
  obtain ⟨w1, Hw1⟩ : ∃ x, Hid (w.alloc (.cells A 27) = x) := ⟨_, ⟨rfl⟩⟩
  have HB1 : Hid (Below w.heap.size w w1) := ⟨by rw [← Hw1.out]; exact (Below.refl _ w).alloc (Nat.le_refl _) _⟩
  have HX1 : Hid (w1.heap[q]? = some (.cells A 27 (0, 0))) := ⟨by rw [← Hw1.out, ← Hq.out]; exact heap_alloc_new w _⟩
  have HIA : Hid ((Try.prog.info? 27).map (·.size) = some A.size) := ⟨by rw [← HA.out]; exact info27⟩
  have HHx : Hid (∀ wx, Below w.heap.size w wx → RdE he 2 h0 wx (.slice ha hn hc) H) := ⟨fun wx h => hH.far (Chg.ofBelow (X := []) h) (by simp)⟩
  have HPx : Hid (∀ wx, Below w.heap.size w wx → RdE pe 33 p0 wx (.slice pa pn pc) P) := ⟨fun wx h => hP.far (Chg.ofBelow (X := []) h) (by simp)⟩
  have HBx : Hid (∀ wx, Below w.heap.size w wx → Oct.Bs wx (.slice ba bn bc) bs) := ⟨fun wx h => hb.below h⟩
  have t8 := check8 (w := w1) 4 nm (g : Int) (i : Int) ha pa ba hn hc pn pc bn bc H P (HHx.out w1 HB1.out) hHn (HPx.out w1 HB1.out) hPn h32
  rw [hk] at t8
  have t15 : ∀ W : World, Calls Try.prog 15 #[.int .i64 4] W fun e w' => e = .returned (.tuple #[.agg (nmV (true, false, false, true, false)), .bool true]) ∧ Below W.heap.size W w' := fun W => named15 (w := W) 4
  rw [HA.out] at t8 ⊢
  rw [HM.out] at t15
  clear hH hP hb R hk h32
  go_enter Try.func10, Try.ntmps10
  go_upto_region 1 with (refine wp_box rfl 27 (.tmp 0) rfl A rfl ?_; rw [Hw1.out, Hq.out])
  go_wp2_with (refine wp_load rfl 27 (.tmp 1) rfl q rfl A 27 (0, 0) _ HX1.out Try.underlying27 rfl HIA.out ?_)
  refine t8.mono ?_
  rintro e w2 ⟨rfl, hB2⟩
  have HB2 : Hid (Below w.heap.size w w2) := ⟨HB1.out.trans (hB2.mono HB1.out.size)⟩
  have HX2 := Hid.mk (below_atN hB2 HX1.out)
  have z0 : w2.cell? ⟨q, 0, none⟩ = some (.int .i64 4) := by rw [cell_of_row _ _ _ _ _ _ HX2.out, ← HA.out]; rfl
  clear t8 hB2
  go_wp2_with fail
  refine (t15 w2).mono ?_
  rintro e w3 ⟨rfl, hB3⟩
  have HB3 : Hid (Below w.heap.size w w3) := ⟨HB2.out.trans (hB3.mono HB2.out.size)⟩
  have HX3 := Hid.mk (below_atN hB3 HX2.out)
  obtain ⟨r, Hr⟩ : ∃ q, Hid (w3.heap.size = q) := ⟨_, ⟨rfl⟩⟩
  obtain ⟨w4, Hw4⟩ : ∃ x, Hid ((w3.alloc (.cells (nmV (false, false, false, false, false)) 40)).setRow r M = x) := ⟨_, ⟨rfl⟩⟩
  have HB34 : Hid (Below w3.heap.size w3 w4) := ⟨by rw [← Hw4.out, ← Hr.out]; exact below_setRow ((Below.refl _ w3).alloc (Nat.le_refl _) _) (Nat.le_refl _) _⟩
  have HM4 : Hid (w4.heap[r]? = some (.cells M 40 (0, 0))) := ⟨by rw [← Hw4.out, ← Hr.out]; exact setRow_heap _ _ (nmV (false, false, false, false, false)) _ 40 (0, 0) (heap_alloc_new w3 _)⟩
  have HX4 := Hid.mk (below_atN HB34.out HX3.out)
  have HB4 : Hid (Below w.heap.size w w4) := ⟨HB3.out.trans (HB34.out.mono HB3.out.size)⟩
  have hq : q < w4.heap.size := (Array.getElem?_eq_some_iff.1 HX4.out).1
  have hr : r < w4.heap.size := (Array.getElem?_eq_some_iff.1 HM4.out).1
  have y0 : w4.cell? ⟨q, 0, none⟩ = some (.int .i64 4) := by rw [cell_of_row _ _ _ _ _ _ HX4.out, ← HA.out]; rfl
  clear t15 hB3 z0
  go_upto_region 5 with (first | (refine wp_newZ zero40 rfl rfl ?_; rw [Hr.out]) | (refine wpList_store_row rfl 40 (.tmp 5) (.tmp 17) rfl r M rfl rfl 40 (nmV (false, false, false, false, false)) (by rw [← Hr.out]; exact heap_alloc_new w3 _) HMs.out.1 HMs.out.2.2 HMs.out.2.1 ?_; rw [Hw4.out]))
  go_wp2_with fail
  refine (nums1 4 (by decide) w4.heap.size (heap_alloc_new w4 _)).mono ?_
  rintro e w5 ⟨v5, rfl, hO5, hB5⟩
  have HW5 : Hid (Below w4.heap.size w4 w5) := ⟨((Below.refl _ w4).alloc (Nat.le_refl _) _).trans (hB5.mono ((Below.refl _ w4).alloc (Nat.le_refl _) _).size)⟩
  have hO5' : OwnY w5 w4.heap.size v5 (Oct.numB 4) := Oct.OwnB.mono hO5 ((Below.refl _ w4).alloc (Nat.le_refl _) _).size
  obtain ⟨X5, HXd5⟩ : ∃ X, Hid (Oct.numB 4 = X) := ⟨_, ⟨rfl⟩⟩
  rw [HXd5.out] at hO5'
  obtain ⟨a5, c5, e, _⟩ := OwnY.shape hO5'
  subst e
  have HO5 : Hid (OwnY w5 w4.heap.size (.slice a5 X5.length c5) X5) := ⟨hO5'⟩
  have HXl5 : Hid (X5.length ≤ 20000) := ⟨by rw [← HXd5.out]; have := Oct.numB_len8 4 (by decide); omega⟩
  clear hO5 hO5' hB5 y0
  have HX5 := Hid.mk ((HW5.out.block q hq).trans HX4.out)
  have HM5 := Hid.mk ((HW5.out.block r hr).trans HM4.out)
  have x0_5 : w5.cell? ⟨r, 0, none⟩ = some (.bool true) := by rw [cell_of_row _ _ _ _ _ _ HM5.out, ← HM.out]; rfl
  have x1_5 : w5.cell? ⟨r, 1, none⟩ = some (.bool false) := by rw [cell_of_row _ _ _ _ _ _ HM5.out, ← HM.out]; rfl
  have x2_5 : w5.cell? ⟨r, 2, none⟩ = some (.bool false) := by rw [cell_of_row _ _ _ _ _ _ HM5.out, ← HM.out]; rfl
  have x3_5 : w5.cell? ⟨r, 3, none⟩ = some (.bool true) := by rw [cell_of_row _ _ _ _ _ _ HM5.out, ← HM.out]; rfl
  have x4_5 : w5.cell? ⟨r, 4, none⟩ = some (.bool false) := by rw [cell_of_row _ _ _ _ _ _ HM5.out, ← HM.out]; rfl
  have y0_5 : w5.cell? ⟨q, 0, none⟩ = some (.int .i64 4) := by rw [cell_of_row _ _ _ _ _ _ HX5.out, ← HA.out]; rfl
  have y1_5 : w5.cell? ⟨q, 1, none⟩ = some (.string nm) := by rw [cell_of_row _ _ _ _ _ _ HX5.out, ← HA.out]; rfl
  have y2_5 : w5.cell? ⟨q, 2, none⟩ = some (.int .i64 (g : Int)) := by rw [cell_of_row _ _ _ _ _ _ HX5.out, ← HA.out]; rfl
  have y3_5 : w5.cell? ⟨q, 3, none⟩ = some (.int .i64 (i : Int)) := by rw [cell_of_row _ _ _ _ _ _ HX5.out, ← HA.out]; rfl
  have y4_5 : w5.cell? ⟨q, 4, none⟩ = some (.slice ha hn hc) := by rw [cell_of_row _ _ _ _ _ _ HX5.out, ← HA.out]; rfl
  have y5_5 : w5.cell? ⟨q, 5, none⟩ = some (.slice pa pn pc) := by rw [cell_of_row _ _ _ _ _ _ HX5.out, ← HA.out]; rfl
  have y6_5 : w5.cell? ⟨q, 6, none⟩ = some (.slice ba bn bc) := by rw [cell_of_row _ _ _ _ _ _ HX5.out, ← HA.out]; rfl
  go_wp2_with fail
  refine (file22 nm hnm g hgm).mono ?_
  rintro e wa6 ⟨va6, rfl, hOa, hBa⟩
  have hB6 : Below w5.heap.size w5 wa6 := hBa
  have HWa6 : Hid (Below w4.heap.size w4 wa6) := ⟨HW5.out.trans (hB6.mono HW5.out.size)⟩
  have HOa6 : Hid (OwnY wa6 w4.heap.size (.slice a5 X5.length c5) X5) := ⟨Oct.OwnB.below HO5.out hB6⟩
  obtain ⟨Y6, HY6⟩ : ∃ Y, Hid (fB nm g = Y) := ⟨_, ⟨rfl⟩⟩
  rw [HY6.out] at hOa
  have HYl6 : Hid (Y6.length ≤ 20000) := ⟨by rw [← HY6.out]; exact by have a := Oct.numB_len8 nm.size (by omega); have b := Oct.numB_len8 g hgm; have c := strBs_len nm; unfold fB; simp only [List.length_append]; omega⟩
  have HR6 : Hid (RdY wa6 va6 Y6) := ⟨OwnY.rd hOa⟩
  clear x0_5 x1_5 x2_5 x3_5 x4_5 y0_5 y1_5 y2_5 y3_5 y4_5 y5_5 y6_5
  clear hOa hBa hB6
  go_wp2_with (at_builtin; refine wp_appY rfl (.tmp 25) (.tmp 30) rfl rfl HOa6.out rfl HR6.out (by have h1 := HXl5.out; have h2 := HYl6.out; omega) HWa6.out.size ?_; intro v6 w6 hO hC hw; have HOz : Hid (OwnY w6 w4.heap.size v6 (X5 ++ Y6)) := ⟨hO⟩; have HCz : Hid (Chg (ob (Value.slice a5 X5.length c5)) wa6 w6) := ⟨hC⟩; clear hO hC hw; obtain ⟨X6, HXd6⟩ : ∃ X, Hid (X5 ++ Y6 = X) := ⟨_, ⟨rfl⟩⟩; rw [HXd6.out] at HOz; obtain ⟨a6, c6, e, _⟩ := OwnY.shape HOz.out; subst e; have HO6 : Hid (OwnY w6 w4.heap.size (.slice a6 X6.length c6) X6) := ⟨HOz.out⟩; have HXl6 : Hid (X6.length ≤ 40000) := ⟨by rw [← HXd6.out, List.length_append]; have h1 := HXl5.out; have h2 := HYl6.out; omega⟩; have HW6 : Hid (Below w4.heap.size w4 w6) := ⟨HWa6.out.trans (HCz.out.below HWa6.out.size (own_geY HOa6.out))⟩; clear HOz HCz; have HX6 := Hid.mk ((HW6.out.block q hq).trans HX4.out); have HM6 := Hid.mk ((HW6.out.block r hr).trans HM4.out); have x0_6 : w6.cell? ⟨r, 0, none⟩ = some (.bool true) := (by rw [cell_of_row _ _ _ _ _ _ HM6.out, ← HM.out]; rfl); have x1_6 : w6.cell? ⟨r, 1, none⟩ = some (.bool false) := (by rw [cell_of_row _ _ _ _ _ _ HM6.out, ← HM.out]; rfl); have x2_6 : w6.cell? ⟨r, 2, none⟩ = some (.bool false) := (by rw [cell_of_row _ _ _ _ _ _ HM6.out, ← HM.out]; rfl); have x3_6 : w6.cell? ⟨r, 3, none⟩ = some (.bool true) := (by rw [cell_of_row _ _ _ _ _ _ HM6.out, ← HM.out]; rfl); have x4_6 : w6.cell? ⟨r, 4, none⟩ = some (.bool false) := (by rw [cell_of_row _ _ _ _ _ _ HM6.out, ← HM.out]; rfl); have y0_6 : w6.cell? ⟨q, 0, none⟩ = some (.int .i64 4) := (by rw [cell_of_row _ _ _ _ _ _ HX6.out, ← HA.out]; rfl); have y1_6 : w6.cell? ⟨q, 1, none⟩ = some (.string nm) := (by rw [cell_of_row _ _ _ _ _ _ HX6.out, ← HA.out]; rfl); have y2_6 : w6.cell? ⟨q, 2, none⟩ = some (.int .i64 (g : Int)) := (by rw [cell_of_row _ _ _ _ _ _ HX6.out, ← HA.out]; rfl); have y3_6 : w6.cell? ⟨q, 3, none⟩ = some (.int .i64 (i : Int)) := (by rw [cell_of_row _ _ _ _ _ _ HX6.out, ← HA.out]; rfl); have y4_6 : w6.cell? ⟨q, 4, none⟩ = some (.slice ha hn hc) := (by rw [cell_of_row _ _ _ _ _ _ HX6.out, ← HA.out]; rfl); have y5_6 : w6.cell? ⟨q, 5, none⟩ = some (.slice pa pn pc) := (by rw [cell_of_row _ _ _ _ _ _ HX6.out, ← HA.out]; rfl); have y6_6 : w6.cell? ⟨q, 6, none⟩ = some (.slice ba bn bc) := (by rw [cell_of_row _ _ _ _ _ _ HX6.out, ← HA.out]; rfl))
  go_wp2_with fail
  refine (list25 (.slice pa pn pc) P (HPx.out w6 (HB4.out.trans (HW6.out.mono HB4.out.size))) HPt.out HPl.out).mono ?_
  rintro e wa7 ⟨va7, rfl, hOa, hBa⟩
  have hB7 : Below w6.heap.size w6 wa7 := hBa
  have HWa7 : Hid (Below w4.heap.size w4 wa7) := ⟨HW6.out.trans (hB7.mono HW6.out.size)⟩
  have HOa7 : Hid (OwnY wa7 w4.heap.size (.slice a6 X6.length c6) X6) := ⟨Oct.OwnB.below HO6.out hB7⟩
  obtain ⟨Y7, HY7⟩ : ∃ Y, Hid (lB qB P = Y) := ⟨_, ⟨rfl⟩⟩
  rw [HY7.out] at hOa
  have HYl7 : Hid (Y7.length ≤ 20000) := ⟨by rw [← HY7.out]; exact by have a := fm_len P (fun x hx => qB_len x (HPt.out x hx)); have b := Oct.numB_len8 P.length (by have := HPl.out; omega); have c := HPl.out; unfold lB; simp only [List.length_append]; omega⟩
  have HR7 : Hid (RdY wa7 va7 Y7) := ⟨OwnY.rd hOa⟩
  clear x0_6 x1_6 x2_6 x3_6 x4_6 y0_6 y1_6 y2_6 y3_6 y4_6 y5_6 y6_6
  clear hOa hBa hB7
  go_wp2_with (at_builtin; refine wp_appY rfl (.tmp 49) (.tmp 52) rfl rfl HOa7.out rfl HR7.out (by have h1 := HXl6.out; have h2 := HYl7.out; omega) HWa7.out.size ?_; intro v7 w7 hO hC hw; have HOz : Hid (OwnY w7 w4.heap.size v7 (X6 ++ Y7)) := ⟨hO⟩; have HCz : Hid (Chg (ob (Value.slice a6 X6.length c6)) wa7 w7) := ⟨hC⟩; clear hO hC hw; obtain ⟨X7, HXd7⟩ : ∃ X, Hid (X6 ++ Y7 = X) := ⟨_, ⟨rfl⟩⟩; rw [HXd7.out] at HOz; obtain ⟨a7, c7, e, _⟩ := OwnY.shape HOz.out; subst e; have HO7 : Hid (OwnY w7 w4.heap.size (.slice a7 X7.length c7) X7) := ⟨HOz.out⟩; have HXl7 : Hid (X7.length ≤ 60000) := ⟨by rw [← HXd7.out, List.length_append]; have h1 := HXl6.out; have h2 := HYl7.out; omega⟩; have HW7 : Hid (Below w4.heap.size w4 w7) := ⟨HWa7.out.trans (HCz.out.below HWa7.out.size (own_geY HOa7.out))⟩; clear HOz HCz; have HX7 := Hid.mk ((HW7.out.block q hq).trans HX4.out); have HM7 := Hid.mk ((HW7.out.block r hr).trans HM4.out); have x0_7 : w7.cell? ⟨r, 0, none⟩ = some (.bool true) := (by rw [cell_of_row _ _ _ _ _ _ HM7.out, ← HM.out]; rfl); have x1_7 : w7.cell? ⟨r, 1, none⟩ = some (.bool false) := (by rw [cell_of_row _ _ _ _ _ _ HM7.out, ← HM.out]; rfl); have x2_7 : w7.cell? ⟨r, 2, none⟩ = some (.bool false) := (by rw [cell_of_row _ _ _ _ _ _ HM7.out, ← HM.out]; rfl); have x3_7 : w7.cell? ⟨r, 3, none⟩ = some (.bool true) := (by rw [cell_of_row _ _ _ _ _ _ HM7.out, ← HM.out]; rfl); have x4_7 : w7.cell? ⟨r, 4, none⟩ = some (.bool false) := (by rw [cell_of_row _ _ _ _ _ _ HM7.out, ← HM.out]; rfl); have y0_7 : w7.cell? ⟨q, 0, none⟩ = some (.int .i64 4) := (by rw [cell_of_row _ _ _ _ _ _ HX7.out, ← HA.out]; rfl); have y1_7 : w7.cell? ⟨q, 1, none⟩ = some (.string nm) := (by rw [cell_of_row _ _ _ _ _ _ HX7.out, ← HA.out]; rfl); have y2_7 : w7.cell? ⟨q, 2, none⟩ = some (.int .i64 (g : Int)) := (by rw [cell_of_row _ _ _ _ _ _ HX7.out, ← HA.out]; rfl); have y3_7 : w7.cell? ⟨q, 3, none⟩ = some (.int .i64 (i : Int)) := (by rw [cell_of_row _ _ _ _ _ _ HX7.out, ← HA.out]; rfl); have y4_7 : w7.cell? ⟨q, 4, none⟩ = some (.slice ha hn hc) := (by rw [cell_of_row _ _ _ _ _ _ HX7.out, ← HA.out]; rfl); have y5_7 : w7.cell? ⟨q, 5, none⟩ = some (.slice pa pn pc) := (by rw [cell_of_row _ _ _ _ _ _ HX7.out, ← HA.out]; rfl); have y6_7 : w7.cell? ⟨q, 6, none⟩ = some (.slice ba bn bc) := (by rw [cell_of_row _ _ _ _ _ _ HX7.out, ← HA.out]; rfl))
  go_wp2_with fail
  go_ret2
  refine ⟨_, rfl, ?_, HB4.out.trans (HW7.out.mono HB4.out.size)⟩
  rw [HXd5.out, HY6.out, HXd6.out, HY7.out, HXd7.out]
  exact Oct.OwnB.mono HO7.out HB4.out.size
end
end Go.Proofs.Ythohpbppfihoiaa

/- Put of a right note whose kind is 5. -/
namespace Go.Proofs.Ythohpbppfihoiaa
open Go.RowKit

section
variable {w : World}
set_option maxHeartbeats 16000000 in
set_option maxRecDepth 100000 in
theorem put_5 (nm : ByteArray) (g i : Nat) (ha pa ba : Option Addr) (hn hc pn pc bn bc : Nat) (H : List Hd) (P : List Pt) (bs : List Int) (hH : RdE he 2 h0 w (.slice ha hn hc) H) (hHn : H.length = hn) (hP : RdE pe 33 p0 w (.slice pa pn pc) P) (hPn : P.length = pn) (hb : Oct.Bs w (.slice ba bn bc) bs) (hbn : bs.length = bn) (h32 : ∀ p ∈ P, p.1.length = 32) (hk : chk 5 nm g i H P bn = 0) :
    Calls Try.prog 10 #[.agg (na 5 nm (g : Int) (i : Int) (.slice ha hn hc) (.slice pa pn pc) (.slice ba bn bc))] w fun e w' => ∃ v, e = .returned (.tuple #[v, .int .i64 0]) ∧ OwnY w' w.heap.size v (Oct.numB 5 ++ fB nm g) ∧ Below w.heap.size w w' := by
  have R := right_of hk
  obtain ⟨hnm, _, hgm'⟩ := R.file rfl
  have hgm : g ≤ 9007199254740991 := by omega
  have him : (i : Int) < 256 := R.i.2
  have HHl : Hid (H.length ≤ 64) := ⟨R.hl⟩
  have HPl : Hid (P.length ≤ 256) := ⟨R.pl⟩
  have HBl : Hid (bs.length ≤ 512) := ⟨by rw [hbn]; exact R.bl⟩
  have HHd : Hid (∀ x ∈ H, HdB x) := ⟨R.hd⟩
  have HPt : Hid (∀ x ∈ P, PtB x) := ⟨fun x hx => R.pt x hx (h32 x hx)⟩
  obtain ⟨q, Hq⟩ : ∃ q, Hid (w.heap.size = q) := ⟨_, ⟨rfl⟩⟩
  obtain ⟨A, HA⟩ : ∃ x, Hid (na 5 nm (g : Int) (i : Int) (.slice ha hn hc) (.slice pa pn pc) (.slice ba bn bc) = x) := ⟨_, ⟨rfl⟩⟩
  obtain ⟨M, HM⟩ : ∃ x, Hid (nmV (true, false, false, false, false) = x) := ⟨_, ⟨rfl⟩⟩
  have HMs : Hid ((Try.prog.info? 40).map (·.size) = some M.size ∧ M.all (·.oneCell') = true ∧ (nmV (false, false, false, false, false)).size = M.size) := ⟨by rw [← HM.out]; exact ⟨info40, nmV_one _, rfl⟩⟩
  obtain ⟨w1, Hw1⟩ : ∃ x, Hid (w.alloc (.cells A 27) = x) := ⟨_, ⟨rfl⟩⟩
  have HB1 : Hid (Below w.heap.size w w1) := ⟨by rw [← Hw1.out]; exact (Below.refl _ w).alloc (Nat.le_refl _) _⟩
  have HX1 : Hid (w1.heap[q]? = some (.cells A 27 (0, 0))) := ⟨by rw [← Hw1.out, ← Hq.out]; exact heap_alloc_new w _⟩
  have HIA : Hid ((Try.prog.info? 27).map (·.size) = some A.size) := ⟨by rw [← HA.out]; exact info27⟩
  have HHx : Hid (∀ wx, Below w.heap.size w wx → RdE he 2 h0 wx (.slice ha hn hc) H) := ⟨fun wx h => hH.far (Chg.ofBelow (X := []) h) (by simp)⟩
  have HPx : Hid (∀ wx, Below w.heap.size w wx → RdE pe 33 p0 wx (.slice pa pn pc) P) := ⟨fun wx h => hP.far (Chg.ofBelow (X := []) h) (by simp)⟩
  have HBx : Hid (∀ wx, Below w.heap.size w wx → Oct.Bs wx (.slice ba bn bc) bs) := ⟨fun wx h => hb.below h⟩
  have t8 := check8 (w := w1) 5 nm (g : Int) (i : Int) ha pa ba hn hc pn pc bn bc H P (HHx.out w1 HB1.out) hHn (HPx.out w1 HB1.out) hPn h32
  rw [hk] at t8
  have t15 : ∀ W : World, Calls Try.prog 15 #[.int .i64 5] W fun e w' => e = .returned (.tuple #[.agg (nmV (true, false, false, false, false)), .bool true]) ∧ Below W.heap.size W w' := fun W => named15 (w := W) 5
  rw [HA.out] at t8 ⊢
  rw [HM.out] at t15
  clear hH hP hb R hk h32
  go_enter Try.func10, Try.ntmps10
  go_upto_region 1 with (refine wp_box rfl 27 (.tmp 0) rfl A rfl ?_; rw [Hw1.out, Hq.out])
  go_wp2_with (refine wp_load rfl 27 (.tmp 1) rfl q rfl A 27 (0, 0) _ HX1.out Try.underlying27 rfl HIA.out ?_)
  refine t8.mono ?_
  rintro e w2 ⟨rfl, hB2⟩
  have HB2 : Hid (Below w.heap.size w w2) := ⟨HB1.out.trans (hB2.mono HB1.out.size)⟩
  have HX2 := Hid.mk (below_atN hB2 HX1.out)
  have z0 : w2.cell? ⟨q, 0, none⟩ = some (.int .i64 5) := by rw [cell_of_row _ _ _ _ _ _ HX2.out, ← HA.out]; rfl
  clear t8 hB2
  go_wp2_with fail
  refine (t15 w2).mono ?_
  rintro e w3 ⟨rfl, hB3⟩
  have HB3 : Hid (Below w.heap.size w w3) := ⟨HB2.out.trans (hB3.mono HB2.out.size)⟩
  have HX3 := Hid.mk (below_atN hB3 HX2.out)
  obtain ⟨r, Hr⟩ : ∃ q, Hid (w3.heap.size = q) := ⟨_, ⟨rfl⟩⟩
  obtain ⟨w4, Hw4⟩ : ∃ x, Hid ((w3.alloc (.cells (nmV (false, false, false, false, false)) 40)).setRow r M = x) := ⟨_, ⟨rfl⟩⟩
  have HB34 : Hid (Below w3.heap.size w3 w4) := ⟨by rw [← Hw4.out, ← Hr.out]; exact below_setRow ((Below.refl _ w3).alloc (Nat.le_refl _) _) (Nat.le_refl _) _⟩
  have HM4 : Hid (w4.heap[r]? = some (.cells M 40 (0, 0))) := ⟨by rw [← Hw4.out, ← Hr.out]; exact setRow_heap _ _ (nmV (false, false, false, false, false)) _ 40 (0, 0) (heap_alloc_new w3 _)⟩
  have HX4 := Hid.mk (below_atN HB34.out HX3.out)
  have HB4 : Hid (Below w.heap.size w w4) := ⟨HB3.out.trans (HB34.out.mono HB3.out.size)⟩
  have hq : q < w4.heap.size := (Array.getElem?_eq_some_iff.1 HX4.out).1
  have hr : r < w4.heap.size := (Array.getElem?_eq_some_iff.1 HM4.out).1
  have y0 : w4.cell? ⟨q, 0, none⟩ = some (.int .i64 5) := by rw [cell_of_row _ _ _ _ _ _ HX4.out, ← HA.out]; rfl
  clear t15 hB3 z0
  go_upto_region 5 with (first | (refine wp_newZ zero40 rfl rfl ?_; rw [Hr.out]) | (refine wpList_store_row rfl 40 (.tmp 5) (.tmp 17) rfl r M rfl rfl 40 (nmV (false, false, false, false, false)) (by rw [← Hr.out]; exact heap_alloc_new w3 _) HMs.out.1 HMs.out.2.2 HMs.out.2.1 ?_; rw [Hw4.out]))
  go_wp2_with fail
  refine (nums1 5 (by decide) w4.heap.size (heap_alloc_new w4 _)).mono ?_
  rintro e w5 ⟨v5, rfl, hO5, hB5⟩
  have HW5 : Hid (Below w4.heap.size w4 w5) := ⟨((Below.refl _ w4).alloc (Nat.le_refl _) _).trans (hB5.mono ((Below.refl _ w4).alloc (Nat.le_refl _) _).size)⟩
  have hO5' : OwnY w5 w4.heap.size v5 (Oct.numB 5) := Oct.OwnB.mono hO5 ((Below.refl _ w4).alloc (Nat.le_refl _) _).size
  obtain ⟨X5, HXd5⟩ : ∃ X, Hid (Oct.numB 5 = X) := ⟨_, ⟨rfl⟩⟩
  rw [HXd5.out] at hO5'
  obtain ⟨a5, c5, e, _⟩ := OwnY.shape hO5'
  subst e
  have HO5 : Hid (OwnY w5 w4.heap.size (.slice a5 X5.length c5) X5) := ⟨hO5'⟩
  have HXl5 : Hid (X5.length ≤ 20000) := ⟨by rw [← HXd5.out]; have := Oct.numB_len8 5 (by decide); omega⟩
  clear hO5 hO5' hB5 y0
  have HX5 := Hid.mk ((HW5.out.block q hq).trans HX4.out)
  have HM5 := Hid.mk ((HW5.out.block r hr).trans HM4.out)
  have x0_5 : w5.cell? ⟨r, 0, none⟩ = some (.bool true) := by rw [cell_of_row _ _ _ _ _ _ HM5.out, ← HM.out]; rfl
  have x1_5 : w5.cell? ⟨r, 1, none⟩ = some (.bool false) := by rw [cell_of_row _ _ _ _ _ _ HM5.out, ← HM.out]; rfl
  have x2_5 : w5.cell? ⟨r, 2, none⟩ = some (.bool false) := by rw [cell_of_row _ _ _ _ _ _ HM5.out, ← HM.out]; rfl
  have x3_5 : w5.cell? ⟨r, 3, none⟩ = some (.bool false) := by rw [cell_of_row _ _ _ _ _ _ HM5.out, ← HM.out]; rfl
  have x4_5 : w5.cell? ⟨r, 4, none⟩ = some (.bool false) := by rw [cell_of_row _ _ _ _ _ _ HM5.out, ← HM.out]; rfl
  have y0_5 : w5.cell? ⟨q, 0, none⟩ = some (.int .i64 5) := by rw [cell_of_row _ _ _ _ _ _ HX5.out, ← HA.out]; rfl
  have y1_5 : w5.cell? ⟨q, 1, none⟩ = some (.string nm) := by rw [cell_of_row _ _ _ _ _ _ HX5.out, ← HA.out]; rfl
  have y2_5 : w5.cell? ⟨q, 2, none⟩ = some (.int .i64 (g : Int)) := by rw [cell_of_row _ _ _ _ _ _ HX5.out, ← HA.out]; rfl
  have y3_5 : w5.cell? ⟨q, 3, none⟩ = some (.int .i64 (i : Int)) := by rw [cell_of_row _ _ _ _ _ _ HX5.out, ← HA.out]; rfl
  have y4_5 : w5.cell? ⟨q, 4, none⟩ = some (.slice ha hn hc) := by rw [cell_of_row _ _ _ _ _ _ HX5.out, ← HA.out]; rfl
  have y5_5 : w5.cell? ⟨q, 5, none⟩ = some (.slice pa pn pc) := by rw [cell_of_row _ _ _ _ _ _ HX5.out, ← HA.out]; rfl
  have y6_5 : w5.cell? ⟨q, 6, none⟩ = some (.slice ba bn bc) := by rw [cell_of_row _ _ _ _ _ _ HX5.out, ← HA.out]; rfl
  go_wp2_with fail
  refine (file22 nm hnm g hgm).mono ?_
  rintro e wa6 ⟨va6, rfl, hOa, hBa⟩
  have hB6 : Below w5.heap.size w5 wa6 := hBa
  have HWa6 : Hid (Below w4.heap.size w4 wa6) := ⟨HW5.out.trans (hB6.mono HW5.out.size)⟩
  have HOa6 : Hid (OwnY wa6 w4.heap.size (.slice a5 X5.length c5) X5) := ⟨Oct.OwnB.below HO5.out hB6⟩
  obtain ⟨Y6, HY6⟩ : ∃ Y, Hid (fB nm g = Y) := ⟨_, ⟨rfl⟩⟩
  rw [HY6.out] at hOa
  have HYl6 : Hid (Y6.length ≤ 20000) := ⟨by rw [← HY6.out]; exact by have a := Oct.numB_len8 nm.size (by omega); have b := Oct.numB_len8 g hgm; have c := strBs_len nm; unfold fB; simp only [List.length_append]; omega⟩
  have HR6 : Hid (RdY wa6 va6 Y6) := ⟨OwnY.rd hOa⟩
  clear x0_5 x1_5 x2_5 x3_5 x4_5 y0_5 y1_5 y2_5 y3_5 y4_5 y5_5 y6_5
  clear hOa hBa hB6
  go_wp2_with (at_builtin; refine wp_appY rfl (.tmp 25) (.tmp 30) rfl rfl HOa6.out rfl HR6.out (by have h1 := HXl5.out; have h2 := HYl6.out; omega) HWa6.out.size ?_; intro v6 w6 hO hC hw; have HOz : Hid (OwnY w6 w4.heap.size v6 (X5 ++ Y6)) := ⟨hO⟩; have HCz : Hid (Chg (ob (Value.slice a5 X5.length c5)) wa6 w6) := ⟨hC⟩; clear hO hC hw; obtain ⟨X6, HXd6⟩ : ∃ X, Hid (X5 ++ Y6 = X) := ⟨_, ⟨rfl⟩⟩; rw [HXd6.out] at HOz; obtain ⟨a6, c6, e, _⟩ := OwnY.shape HOz.out; subst e; have HO6 : Hid (OwnY w6 w4.heap.size (.slice a6 X6.length c6) X6) := ⟨HOz.out⟩; have HXl6 : Hid (X6.length ≤ 40000) := ⟨by rw [← HXd6.out, List.length_append]; have h1 := HXl5.out; have h2 := HYl6.out; omega⟩; have HW6 : Hid (Below w4.heap.size w4 w6) := ⟨HWa6.out.trans (HCz.out.below HWa6.out.size (own_geY HOa6.out))⟩; clear HOz HCz; have HX6 := Hid.mk ((HW6.out.block q hq).trans HX4.out); have HM6 := Hid.mk ((HW6.out.block r hr).trans HM4.out); have x0_6 : w6.cell? ⟨r, 0, none⟩ = some (.bool true) := (by rw [cell_of_row _ _ _ _ _ _ HM6.out, ← HM.out]; rfl); have x1_6 : w6.cell? ⟨r, 1, none⟩ = some (.bool false) := (by rw [cell_of_row _ _ _ _ _ _ HM6.out, ← HM.out]; rfl); have x2_6 : w6.cell? ⟨r, 2, none⟩ = some (.bool false) := (by rw [cell_of_row _ _ _ _ _ _ HM6.out, ← HM.out]; rfl); have x3_6 : w6.cell? ⟨r, 3, none⟩ = some (.bool false) := (by rw [cell_of_row _ _ _ _ _ _ HM6.out, ← HM.out]; rfl); have x4_6 : w6.cell? ⟨r, 4, none⟩ = some (.bool false) := (by rw [cell_of_row _ _ _ _ _ _ HM6.out, ← HM.out]; rfl); have y0_6 : w6.cell? ⟨q, 0, none⟩ = some (.int .i64 5) := (by rw [cell_of_row _ _ _ _ _ _ HX6.out, ← HA.out]; rfl); have y1_6 : w6.cell? ⟨q, 1, none⟩ = some (.string nm) := (by rw [cell_of_row _ _ _ _ _ _ HX6.out, ← HA.out]; rfl); have y2_6 : w6.cell? ⟨q, 2, none⟩ = some (.int .i64 (g : Int)) := (by rw [cell_of_row _ _ _ _ _ _ HX6.out, ← HA.out]; rfl); have y3_6 : w6.cell? ⟨q, 3, none⟩ = some (.int .i64 (i : Int)) := (by rw [cell_of_row _ _ _ _ _ _ HX6.out, ← HA.out]; rfl); have y4_6 : w6.cell? ⟨q, 4, none⟩ = some (.slice ha hn hc) := (by rw [cell_of_row _ _ _ _ _ _ HX6.out, ← HA.out]; rfl); have y5_6 : w6.cell? ⟨q, 5, none⟩ = some (.slice pa pn pc) := (by rw [cell_of_row _ _ _ _ _ _ HX6.out, ← HA.out]; rfl); have y6_6 : w6.cell? ⟨q, 6, none⟩ = some (.slice ba bn bc) := (by rw [cell_of_row _ _ _ _ _ _ HX6.out, ← HA.out]; rfl))
  go_wp2_with fail
  go_ret2
  refine ⟨_, rfl, ?_, HB4.out.trans (HW6.out.mono HB4.out.size)⟩
  rw [HXd5.out, HY6.out, HXd6.out]
  exact Oct.OwnB.mono HO6.out HB4.out.size
end
end Go.Proofs.Ythohpbppfihoiaa

/- Put of a right note whose kind is 6. -/
namespace Go.Proofs.Ythohpbppfihoiaa
open Go.RowKit

section
variable {w : World}
set_option maxHeartbeats 16000000 in
set_option maxRecDepth 100000 in
theorem put_6 (nm : ByteArray) (g i : Nat) (ha pa ba : Option Addr) (hn hc pn pc bn bc : Nat) (H : List Hd) (P : List Pt) (bs : List Int) (hH : RdE he 2 h0 w (.slice ha hn hc) H) (hHn : H.length = hn) (hP : RdE pe 33 p0 w (.slice pa pn pc) P) (hPn : P.length = pn) (hb : Oct.Bs w (.slice ba bn bc) bs) (hbn : bs.length = bn) (h32 : ∀ p ∈ P, p.1.length = 32) (hk : chk 6 nm g i H P bn = 0) :
    Calls Try.prog 10 #[.agg (na 6 nm (g : Int) (i : Int) (.slice ha hn hc) (.slice pa pn pc) (.slice ba bn bc))] w fun e w' => ∃ v, e = .returned (.tuple #[v, .int .i64 0]) ∧ OwnY w' w.heap.size v (Oct.numB 6 ++ fB nm g ++ Oct.numB i) ∧ Below w.heap.size w w' := by
  have R := right_of hk
  obtain ⟨hnm, _, hgm'⟩ := R.file rfl
  have hgm : g ≤ 9007199254740991 := by omega
  have him : (i : Int) < 256 := R.i.2
  have HHl : Hid (H.length ≤ 64) := ⟨R.hl⟩
  have HPl : Hid (P.length ≤ 256) := ⟨R.pl⟩
  have HBl : Hid (bs.length ≤ 512) := ⟨by rw [hbn]; exact R.bl⟩
  have HHd : Hid (∀ x ∈ H, HdB x) := ⟨R.hd⟩
  have HPt : Hid (∀ x ∈ P, PtB x) := ⟨fun x hx => R.pt x hx (h32 x hx)⟩
  obtain ⟨q, Hq⟩ : ∃ q, Hid (w.heap.size = q) := ⟨_, ⟨rfl⟩⟩
  obtain ⟨A, HA⟩ : ∃ x, Hid (na 6 nm (g : Int) (i : Int) (.slice ha hn hc) (.slice pa pn pc) (.slice ba bn bc) = x) := ⟨_, ⟨rfl⟩⟩
  obtain ⟨M, HM⟩ : ∃ x, Hid (nmV (true, true, false, false, false) = x) := ⟨_, ⟨rfl⟩⟩
  have HMs : Hid ((Try.prog.info? 40).map (·.size) = some M.size ∧ M.all (·.oneCell') = true ∧ (nmV (false, false, false, false, false)).size = M.size) := ⟨by rw [← HM.out]; exact ⟨info40, nmV_one _, rfl⟩⟩
  obtain ⟨w1, Hw1⟩ : ∃ x, Hid (w.alloc (.cells A 27) = x) := ⟨_, ⟨rfl⟩⟩
  have HB1 : Hid (Below w.heap.size w w1) := ⟨by rw [← Hw1.out]; exact (Below.refl _ w).alloc (Nat.le_refl _) _⟩
  have HX1 : Hid (w1.heap[q]? = some (.cells A 27 (0, 0))) := ⟨by rw [← Hw1.out, ← Hq.out]; exact heap_alloc_new w _⟩
  have HIA : Hid ((Try.prog.info? 27).map (·.size) = some A.size) := ⟨by rw [← HA.out]; exact info27⟩
  have HHx : Hid (∀ wx, Below w.heap.size w wx → RdE he 2 h0 wx (.slice ha hn hc) H) := ⟨fun wx h => hH.far (Chg.ofBelow (X := []) h) (by simp)⟩
  have HPx : Hid (∀ wx, Below w.heap.size w wx → RdE pe 33 p0 wx (.slice pa pn pc) P) := ⟨fun wx h => hP.far (Chg.ofBelow (X := []) h) (by simp)⟩
  have HBx : Hid (∀ wx, Below w.heap.size w wx → Oct.Bs wx (.slice ba bn bc) bs) := ⟨fun wx h => hb.below h⟩
  have t8 := check8 (w := w1) 6 nm (g : Int) (i : Int) ha pa ba hn hc pn pc bn bc H P (HHx.out w1 HB1.out) hHn (HPx.out w1 HB1.out) hPn h32
  rw [hk] at t8
  have t15 : ∀ W : World, Calls Try.prog 15 #[.int .i64 6] W fun e w' => e = .returned (.tuple #[.agg (nmV (true, true, false, false, false)), .bool true]) ∧ Below W.heap.size W w' := fun W => named15 (w := W) 6
  rw [HA.out] at t8 ⊢
  rw [HM.out] at t15
  clear hH hP hb R hk h32
  go_enter Try.func10, Try.ntmps10
  go_upto_region 1 with (refine wp_box rfl 27 (.tmp 0) rfl A rfl ?_; rw [Hw1.out, Hq.out])
  go_wp2_with (refine wp_load rfl 27 (.tmp 1) rfl q rfl A 27 (0, 0) _ HX1.out Try.underlying27 rfl HIA.out ?_)
  refine t8.mono ?_
  rintro e w2 ⟨rfl, hB2⟩
  have HB2 : Hid (Below w.heap.size w w2) := ⟨HB1.out.trans (hB2.mono HB1.out.size)⟩
  have HX2 := Hid.mk (below_atN hB2 HX1.out)
  have z0 : w2.cell? ⟨q, 0, none⟩ = some (.int .i64 6) := by rw [cell_of_row _ _ _ _ _ _ HX2.out, ← HA.out]; rfl
  clear t8 hB2
  go_wp2_with fail
  refine (t15 w2).mono ?_
  rintro e w3 ⟨rfl, hB3⟩
  have HB3 : Hid (Below w.heap.size w w3) := ⟨HB2.out.trans (hB3.mono HB2.out.size)⟩
  have HX3 := Hid.mk (below_atN hB3 HX2.out)
  obtain ⟨r, Hr⟩ : ∃ q, Hid (w3.heap.size = q) := ⟨_, ⟨rfl⟩⟩
  obtain ⟨w4, Hw4⟩ : ∃ x, Hid ((w3.alloc (.cells (nmV (false, false, false, false, false)) 40)).setRow r M = x) := ⟨_, ⟨rfl⟩⟩
  have HB34 : Hid (Below w3.heap.size w3 w4) := ⟨by rw [← Hw4.out, ← Hr.out]; exact below_setRow ((Below.refl _ w3).alloc (Nat.le_refl _) _) (Nat.le_refl _) _⟩
  have HM4 : Hid (w4.heap[r]? = some (.cells M 40 (0, 0))) := ⟨by rw [← Hw4.out, ← Hr.out]; exact setRow_heap _ _ (nmV (false, false, false, false, false)) _ 40 (0, 0) (heap_alloc_new w3 _)⟩
  have HX4 := Hid.mk (below_atN HB34.out HX3.out)
  have HB4 : Hid (Below w.heap.size w w4) := ⟨HB3.out.trans (HB34.out.mono HB3.out.size)⟩
  have hq : q < w4.heap.size := (Array.getElem?_eq_some_iff.1 HX4.out).1
  have hr : r < w4.heap.size := (Array.getElem?_eq_some_iff.1 HM4.out).1
  have y0 : w4.cell? ⟨q, 0, none⟩ = some (.int .i64 6) := by rw [cell_of_row _ _ _ _ _ _ HX4.out, ← HA.out]; rfl
  clear t15 hB3 z0
  go_upto_region 5 with (first | (refine wp_newZ zero40 rfl rfl ?_; rw [Hr.out]) | (refine wpList_store_row rfl 40 (.tmp 5) (.tmp 17) rfl r M rfl rfl 40 (nmV (false, false, false, false, false)) (by rw [← Hr.out]; exact heap_alloc_new w3 _) HMs.out.1 HMs.out.2.2 HMs.out.2.1 ?_; rw [Hw4.out]))
  go_wp2_with fail
  refine (nums1 6 (by decide) w4.heap.size (heap_alloc_new w4 _)).mono ?_
  rintro e w5 ⟨v5, rfl, hO5, hB5⟩
  have HW5 : Hid (Below w4.heap.size w4 w5) := ⟨((Below.refl _ w4).alloc (Nat.le_refl _) _).trans (hB5.mono ((Below.refl _ w4).alloc (Nat.le_refl _) _).size)⟩
  have hO5' : OwnY w5 w4.heap.size v5 (Oct.numB 6) := Oct.OwnB.mono hO5 ((Below.refl _ w4).alloc (Nat.le_refl _) _).size
  obtain ⟨X5, HXd5⟩ : ∃ X, Hid (Oct.numB 6 = X) := ⟨_, ⟨rfl⟩⟩
  rw [HXd5.out] at hO5'
  obtain ⟨a5, c5, e, _⟩ := OwnY.shape hO5'
  subst e
  have HO5 : Hid (OwnY w5 w4.heap.size (.slice a5 X5.length c5) X5) := ⟨hO5'⟩
  have HXl5 : Hid (X5.length ≤ 20000) := ⟨by rw [← HXd5.out]; have := Oct.numB_len8 6 (by decide); omega⟩
  clear hO5 hO5' hB5 y0
  have HX5 := Hid.mk ((HW5.out.block q hq).trans HX4.out)
  have HM5 := Hid.mk ((HW5.out.block r hr).trans HM4.out)
  have x0_5 : w5.cell? ⟨r, 0, none⟩ = some (.bool true) := by rw [cell_of_row _ _ _ _ _ _ HM5.out, ← HM.out]; rfl
  have x1_5 : w5.cell? ⟨r, 1, none⟩ = some (.bool true) := by rw [cell_of_row _ _ _ _ _ _ HM5.out, ← HM.out]; rfl
  have x2_5 : w5.cell? ⟨r, 2, none⟩ = some (.bool false) := by rw [cell_of_row _ _ _ _ _ _ HM5.out, ← HM.out]; rfl
  have x3_5 : w5.cell? ⟨r, 3, none⟩ = some (.bool false) := by rw [cell_of_row _ _ _ _ _ _ HM5.out, ← HM.out]; rfl
  have x4_5 : w5.cell? ⟨r, 4, none⟩ = some (.bool false) := by rw [cell_of_row _ _ _ _ _ _ HM5.out, ← HM.out]; rfl
  have y0_5 : w5.cell? ⟨q, 0, none⟩ = some (.int .i64 6) := by rw [cell_of_row _ _ _ _ _ _ HX5.out, ← HA.out]; rfl
  have y1_5 : w5.cell? ⟨q, 1, none⟩ = some (.string nm) := by rw [cell_of_row _ _ _ _ _ _ HX5.out, ← HA.out]; rfl
  have y2_5 : w5.cell? ⟨q, 2, none⟩ = some (.int .i64 (g : Int)) := by rw [cell_of_row _ _ _ _ _ _ HX5.out, ← HA.out]; rfl
  have y3_5 : w5.cell? ⟨q, 3, none⟩ = some (.int .i64 (i : Int)) := by rw [cell_of_row _ _ _ _ _ _ HX5.out, ← HA.out]; rfl
  have y4_5 : w5.cell? ⟨q, 4, none⟩ = some (.slice ha hn hc) := by rw [cell_of_row _ _ _ _ _ _ HX5.out, ← HA.out]; rfl
  have y5_5 : w5.cell? ⟨q, 5, none⟩ = some (.slice pa pn pc) := by rw [cell_of_row _ _ _ _ _ _ HX5.out, ← HA.out]; rfl
  have y6_5 : w5.cell? ⟨q, 6, none⟩ = some (.slice ba bn bc) := by rw [cell_of_row _ _ _ _ _ _ HX5.out, ← HA.out]; rfl
  go_wp2_with fail
  refine (file22 nm hnm g hgm).mono ?_
  rintro e wa6 ⟨va6, rfl, hOa, hBa⟩
  have hB6 : Below w5.heap.size w5 wa6 := hBa
  have HWa6 : Hid (Below w4.heap.size w4 wa6) := ⟨HW5.out.trans (hB6.mono HW5.out.size)⟩
  have HOa6 : Hid (OwnY wa6 w4.heap.size (.slice a5 X5.length c5) X5) := ⟨Oct.OwnB.below HO5.out hB6⟩
  obtain ⟨Y6, HY6⟩ : ∃ Y, Hid (fB nm g = Y) := ⟨_, ⟨rfl⟩⟩
  rw [HY6.out] at hOa
  have HYl6 : Hid (Y6.length ≤ 20000) := ⟨by rw [← HY6.out]; exact by have a := Oct.numB_len8 nm.size (by omega); have b := Oct.numB_len8 g hgm; have c := strBs_len nm; unfold fB; simp only [List.length_append]; omega⟩
  have HR6 : Hid (RdY wa6 va6 Y6) := ⟨OwnY.rd hOa⟩
  clear x0_5 x1_5 x2_5 x3_5 x4_5 y0_5 y1_5 y2_5 y3_5 y4_5 y5_5 y6_5
  clear hOa hBa hB6
  go_wp2_with (at_builtin; refine wp_appY rfl (.tmp 25) (.tmp 30) rfl rfl HOa6.out rfl HR6.out (by have h1 := HXl5.out; have h2 := HYl6.out; omega) HWa6.out.size ?_; intro v6 w6 hO hC hw; have HOz : Hid (OwnY w6 w4.heap.size v6 (X5 ++ Y6)) := ⟨hO⟩; have HCz : Hid (Chg (ob (Value.slice a5 X5.length c5)) wa6 w6) := ⟨hC⟩; clear hO hC hw; obtain ⟨X6, HXd6⟩ : ∃ X, Hid (X5 ++ Y6 = X) := ⟨_, ⟨rfl⟩⟩; rw [HXd6.out] at HOz; obtain ⟨a6, c6, e, _⟩ := OwnY.shape HOz.out; subst e; have HO6 : Hid (OwnY w6 w4.heap.size (.slice a6 X6.length c6) X6) := ⟨HOz.out⟩; have HXl6 : Hid (X6.length ≤ 40000) := ⟨by rw [← HXd6.out, List.length_append]; have h1 := HXl5.out; have h2 := HYl6.out; omega⟩; have HW6 : Hid (Below w4.heap.size w4 w6) := ⟨HWa6.out.trans (HCz.out.below HWa6.out.size (own_geY HOa6.out))⟩; clear HOz HCz; have HX6 := Hid.mk ((HW6.out.block q hq).trans HX4.out); have HM6 := Hid.mk ((HW6.out.block r hr).trans HM4.out); have x0_6 : w6.cell? ⟨r, 0, none⟩ = some (.bool true) := (by rw [cell_of_row _ _ _ _ _ _ HM6.out, ← HM.out]; rfl); have x1_6 : w6.cell? ⟨r, 1, none⟩ = some (.bool true) := (by rw [cell_of_row _ _ _ _ _ _ HM6.out, ← HM.out]; rfl); have x2_6 : w6.cell? ⟨r, 2, none⟩ = some (.bool false) := (by rw [cell_of_row _ _ _ _ _ _ HM6.out, ← HM.out]; rfl); have x3_6 : w6.cell? ⟨r, 3, none⟩ = some (.bool false) := (by rw [cell_of_row _ _ _ _ _ _ HM6.out, ← HM.out]; rfl); have x4_6 : w6.cell? ⟨r, 4, none⟩ = some (.bool false) := (by rw [cell_of_row _ _ _ _ _ _ HM6.out, ← HM.out]; rfl); have y0_6 : w6.cell? ⟨q, 0, none⟩ = some (.int .i64 6) := (by rw [cell_of_row _ _ _ _ _ _ HX6.out, ← HA.out]; rfl); have y1_6 : w6.cell? ⟨q, 1, none⟩ = some (.string nm) := (by rw [cell_of_row _ _ _ _ _ _ HX6.out, ← HA.out]; rfl); have y2_6 : w6.cell? ⟨q, 2, none⟩ = some (.int .i64 (g : Int)) := (by rw [cell_of_row _ _ _ _ _ _ HX6.out, ← HA.out]; rfl); have y3_6 : w6.cell? ⟨q, 3, none⟩ = some (.int .i64 (i : Int)) := (by rw [cell_of_row _ _ _ _ _ _ HX6.out, ← HA.out]; rfl); have y4_6 : w6.cell? ⟨q, 4, none⟩ = some (.slice ha hn hc) := (by rw [cell_of_row _ _ _ _ _ _ HX6.out, ← HA.out]; rfl); have y5_6 : w6.cell? ⟨q, 5, none⟩ = some (.slice pa pn pc) := (by rw [cell_of_row _ _ _ _ _ _ HX6.out, ← HA.out]; rfl); have y6_6 : w6.cell? ⟨q, 6, none⟩ = some (.slice ba bn bc) := (by rw [cell_of_row _ _ _ _ _ _ HX6.out, ← HA.out]; rfl))
  go_wp2_with fail
  refine (nums1 i (by omega) w6.heap.size (heap_alloc_new w6 _)).mono ?_
  rintro e wa7 ⟨va7, rfl, hOa, hBa⟩
  have hB7 : Below w6.heap.size w6 wa7 := ((Below.refl _ w6).alloc (Nat.le_refl _) _).trans (hBa.mono ((Below.refl _ w6).alloc (Nat.le_refl _) _).size)
  have HWa7 : Hid (Below w4.heap.size w4 wa7) := ⟨HW6.out.trans (hB7.mono HW6.out.size)⟩
  have HOa7 : Hid (OwnY wa7 w4.heap.size (.slice a6 X6.length c6) X6) := ⟨Oct.OwnB.below HO6.out hB7⟩
  obtain ⟨Y7, HY7⟩ : ∃ Y, Hid (Oct.numB i = Y) := ⟨_, ⟨rfl⟩⟩
  rw [HY7.out] at hOa
  have HYl7 : Hid (Y7.length ≤ 20000) := ⟨by rw [← HY7.out]; exact by have b := Oct.numB_len8 i (by omega); omega⟩
  have HR7 : Hid (RdY wa7 va7 Y7) := ⟨OwnY.rd hOa⟩
  clear x0_6 x1_6 x2_6 x3_6 x4_6 y0_6 y1_6 y2_6 y3_6 y4_6 y5_6 y6_6
  clear hOa hBa hB7
  go_wp2_with (at_builtin; refine wp_appY rfl (.tmp 34) (.tmp 38) rfl rfl HOa7.out rfl HR7.out (by have h1 := HXl6.out; have h2 := HYl7.out; omega) HWa7.out.size ?_; intro v7 w7 hO hC hw; have HOz : Hid (OwnY w7 w4.heap.size v7 (X6 ++ Y7)) := ⟨hO⟩; have HCz : Hid (Chg (ob (Value.slice a6 X6.length c6)) wa7 w7) := ⟨hC⟩; clear hO hC hw; obtain ⟨X7, HXd7⟩ : ∃ X, Hid (X6 ++ Y7 = X) := ⟨_, ⟨rfl⟩⟩; rw [HXd7.out] at HOz; obtain ⟨a7, c7, e, _⟩ := OwnY.shape HOz.out; subst e; have HO7 : Hid (OwnY w7 w4.heap.size (.slice a7 X7.length c7) X7) := ⟨HOz.out⟩; have HXl7 : Hid (X7.length ≤ 60000) := ⟨by rw [← HXd7.out, List.length_append]; have h1 := HXl6.out; have h2 := HYl7.out; omega⟩; have HW7 : Hid (Below w4.heap.size w4 w7) := ⟨HWa7.out.trans (HCz.out.below HWa7.out.size (own_geY HOa7.out))⟩; clear HOz HCz; have HX7 := Hid.mk ((HW7.out.block q hq).trans HX4.out); have HM7 := Hid.mk ((HW7.out.block r hr).trans HM4.out); have x0_7 : w7.cell? ⟨r, 0, none⟩ = some (.bool true) := (by rw [cell_of_row _ _ _ _ _ _ HM7.out, ← HM.out]; rfl); have x1_7 : w7.cell? ⟨r, 1, none⟩ = some (.bool true) := (by rw [cell_of_row _ _ _ _ _ _ HM7.out, ← HM.out]; rfl); have x2_7 : w7.cell? ⟨r, 2, none⟩ = some (.bool false) := (by rw [cell_of_row _ _ _ _ _ _ HM7.out, ← HM.out]; rfl); have x3_7 : w7.cell? ⟨r, 3, none⟩ = some (.bool false) := (by rw [cell_of_row _ _ _ _ _ _ HM7.out, ← HM.out]; rfl); have x4_7 : w7.cell? ⟨r, 4, none⟩ = some (.bool false) := (by rw [cell_of_row _ _ _ _ _ _ HM7.out, ← HM.out]; rfl); have y0_7 : w7.cell? ⟨q, 0, none⟩ = some (.int .i64 6) := (by rw [cell_of_row _ _ _ _ _ _ HX7.out, ← HA.out]; rfl); have y1_7 : w7.cell? ⟨q, 1, none⟩ = some (.string nm) := (by rw [cell_of_row _ _ _ _ _ _ HX7.out, ← HA.out]; rfl); have y2_7 : w7.cell? ⟨q, 2, none⟩ = some (.int .i64 (g : Int)) := (by rw [cell_of_row _ _ _ _ _ _ HX7.out, ← HA.out]; rfl); have y3_7 : w7.cell? ⟨q, 3, none⟩ = some (.int .i64 (i : Int)) := (by rw [cell_of_row _ _ _ _ _ _ HX7.out, ← HA.out]; rfl); have y4_7 : w7.cell? ⟨q, 4, none⟩ = some (.slice ha hn hc) := (by rw [cell_of_row _ _ _ _ _ _ HX7.out, ← HA.out]; rfl); have y5_7 : w7.cell? ⟨q, 5, none⟩ = some (.slice pa pn pc) := (by rw [cell_of_row _ _ _ _ _ _ HX7.out, ← HA.out]; rfl); have y6_7 : w7.cell? ⟨q, 6, none⟩ = some (.slice ba bn bc) := (by rw [cell_of_row _ _ _ _ _ _ HX7.out, ← HA.out]; rfl))
  go_wp2_with fail
  go_ret2
  refine ⟨_, rfl, ?_, HB4.out.trans (HW7.out.mono HB4.out.size)⟩
  rw [HXd5.out, HY6.out, HXd6.out, HY7.out, HXd7.out]
  exact Oct.OwnB.mono HO7.out HB4.out.size
end
end Go.Proofs.Ythohpbppfihoiaa

/- Put of a right note whose kind is 7. -/
namespace Go.Proofs.Ythohpbppfihoiaa
open Go.RowKit

section
variable {w : World}
set_option maxHeartbeats 16000000 in
set_option maxRecDepth 100000 in
theorem put_7 (nm : ByteArray) (g i : Nat) (ha pa ba : Option Addr) (hn hc pn pc bn bc : Nat) (H : List Hd) (P : List Pt) (bs : List Int) (hH : RdE he 2 h0 w (.slice ha hn hc) H) (hHn : H.length = hn) (hP : RdE pe 33 p0 w (.slice pa pn pc) P) (hPn : P.length = pn) (hb : Oct.Bs w (.slice ba bn bc) bs) (hbn : bs.length = bn) (h32 : ∀ p ∈ P, p.1.length = 32) (hk : chk 7 nm g i H P bn = 0) :
    Calls Try.prog 10 #[.agg (na 7 nm (g : Int) (i : Int) (.slice ha hn hc) (.slice pa pn pc) (.slice ba bn bc))] w fun e w' => ∃ v, e = .returned (.tuple #[v, .int .i64 0]) ∧ OwnY w' w.heap.size v (Oct.numB 7 ++ fB nm g ++ Oct.numB i ++ (Oct.numB bs.length ++ bs)) ∧ Below w.heap.size w w' := by
  have R := right_of hk
  obtain ⟨hnm, _, hgm'⟩ := R.file rfl
  have hgm : g ≤ 9007199254740991 := by omega
  have him : (i : Int) < 256 := R.i.2
  have HHl : Hid (H.length ≤ 64) := ⟨R.hl⟩
  have HPl : Hid (P.length ≤ 256) := ⟨R.pl⟩
  have HBl : Hid (bs.length ≤ 512) := ⟨by rw [hbn]; exact R.bl⟩
  have HHd : Hid (∀ x ∈ H, HdB x) := ⟨R.hd⟩
  have HPt : Hid (∀ x ∈ P, PtB x) := ⟨fun x hx => R.pt x hx (h32 x hx)⟩
  obtain ⟨q, Hq⟩ : ∃ q, Hid (w.heap.size = q) := ⟨_, ⟨rfl⟩⟩
  obtain ⟨A, HA⟩ : ∃ x, Hid (na 7 nm (g : Int) (i : Int) (.slice ha hn hc) (.slice pa pn pc) (.slice ba bn bc) = x) := ⟨_, ⟨rfl⟩⟩
  obtain ⟨M, HM⟩ : ∃ x, Hid (nmV (true, true, false, false, true) = x) := ⟨_, ⟨rfl⟩⟩
  have HMs : Hid ((Try.prog.info? 40).map (·.size) = some M.size ∧ M.all (·.oneCell') = true ∧ (nmV (false, false, false, false, false)).size = M.size) := ⟨by rw [← HM.out]; exact ⟨info40, nmV_one _, rfl⟩⟩
  obtain ⟨w1, Hw1⟩ : ∃ x, Hid (w.alloc (.cells A 27) = x) := ⟨_, ⟨rfl⟩⟩
  have HB1 : Hid (Below w.heap.size w w1) := ⟨by rw [← Hw1.out]; exact (Below.refl _ w).alloc (Nat.le_refl _) _⟩
  have HX1 : Hid (w1.heap[q]? = some (.cells A 27 (0, 0))) := ⟨by rw [← Hw1.out, ← Hq.out]; exact heap_alloc_new w _⟩
  have HIA : Hid ((Try.prog.info? 27).map (·.size) = some A.size) := ⟨by rw [← HA.out]; exact info27⟩
  have HHx : Hid (∀ wx, Below w.heap.size w wx → RdE he 2 h0 wx (.slice ha hn hc) H) := ⟨fun wx h => hH.far (Chg.ofBelow (X := []) h) (by simp)⟩
  have HPx : Hid (∀ wx, Below w.heap.size w wx → RdE pe 33 p0 wx (.slice pa pn pc) P) := ⟨fun wx h => hP.far (Chg.ofBelow (X := []) h) (by simp)⟩
  have HBx : Hid (∀ wx, Below w.heap.size w wx → Oct.Bs wx (.slice ba bn bc) bs) := ⟨fun wx h => hb.below h⟩
  have t8 := check8 (w := w1) 7 nm (g : Int) (i : Int) ha pa ba hn hc pn pc bn bc H P (HHx.out w1 HB1.out) hHn (HPx.out w1 HB1.out) hPn h32
  rw [hk] at t8
  have t15 : ∀ W : World, Calls Try.prog 15 #[.int .i64 7] W fun e w' => e = .returned (.tuple #[.agg (nmV (true, true, false, false, true)), .bool true]) ∧ Below W.heap.size W w' := fun W => named15 (w := W) 7
  rw [HA.out] at t8 ⊢
  rw [HM.out] at t15
  clear hH hP hb R hk h32
  go_enter Try.func10, Try.ntmps10
  go_upto_region 1 with (refine wp_box rfl 27 (.tmp 0) rfl A rfl ?_; rw [Hw1.out, Hq.out])
  go_wp2_with (refine wp_load rfl 27 (.tmp 1) rfl q rfl A 27 (0, 0) _ HX1.out Try.underlying27 rfl HIA.out ?_)
  refine t8.mono ?_
  rintro e w2 ⟨rfl, hB2⟩
  have HB2 : Hid (Below w.heap.size w w2) := ⟨HB1.out.trans (hB2.mono HB1.out.size)⟩
  have HX2 := Hid.mk (below_atN hB2 HX1.out)
  have z0 : w2.cell? ⟨q, 0, none⟩ = some (.int .i64 7) := by rw [cell_of_row _ _ _ _ _ _ HX2.out, ← HA.out]; rfl
  clear t8 hB2
  go_wp2_with fail
  refine (t15 w2).mono ?_
  rintro e w3 ⟨rfl, hB3⟩
  have HB3 : Hid (Below w.heap.size w w3) := ⟨HB2.out.trans (hB3.mono HB2.out.size)⟩
  have HX3 := Hid.mk (below_atN hB3 HX2.out)
  obtain ⟨r, Hr⟩ : ∃ q, Hid (w3.heap.size = q) := ⟨_, ⟨rfl⟩⟩
  obtain ⟨w4, Hw4⟩ : ∃ x, Hid ((w3.alloc (.cells (nmV (false, false, false, false, false)) 40)).setRow r M = x) := ⟨_, ⟨rfl⟩⟩
  have HB34 : Hid (Below w3.heap.size w3 w4) := ⟨by rw [← Hw4.out, ← Hr.out]; exact below_setRow ((Below.refl _ w3).alloc (Nat.le_refl _) _) (Nat.le_refl _) _⟩
  have HM4 : Hid (w4.heap[r]? = some (.cells M 40 (0, 0))) := ⟨by rw [← Hw4.out, ← Hr.out]; exact setRow_heap _ _ (nmV (false, false, false, false, false)) _ 40 (0, 0) (heap_alloc_new w3 _)⟩
  have HX4 := Hid.mk (below_atN HB34.out HX3.out)
  have HB4 : Hid (Below w.heap.size w w4) := ⟨HB3.out.trans (HB34.out.mono HB3.out.size)⟩
  have hq : q < w4.heap.size := (Array.getElem?_eq_some_iff.1 HX4.out).1
  have hr : r < w4.heap.size := (Array.getElem?_eq_some_iff.1 HM4.out).1
  have y0 : w4.cell? ⟨q, 0, none⟩ = some (.int .i64 7) := by rw [cell_of_row _ _ _ _ _ _ HX4.out, ← HA.out]; rfl
  clear t15 hB3 z0
  go_upto_region 5 with (first | (refine wp_newZ zero40 rfl rfl ?_; rw [Hr.out]) | (refine wpList_store_row rfl 40 (.tmp 5) (.tmp 17) rfl r M rfl rfl 40 (nmV (false, false, false, false, false)) (by rw [← Hr.out]; exact heap_alloc_new w3 _) HMs.out.1 HMs.out.2.2 HMs.out.2.1 ?_; rw [Hw4.out]))
  go_wp2_with fail
  refine (nums1 7 (by decide) w4.heap.size (heap_alloc_new w4 _)).mono ?_
  rintro e w5 ⟨v5, rfl, hO5, hB5⟩
  have HW5 : Hid (Below w4.heap.size w4 w5) := ⟨((Below.refl _ w4).alloc (Nat.le_refl _) _).trans (hB5.mono ((Below.refl _ w4).alloc (Nat.le_refl _) _).size)⟩
  have hO5' : OwnY w5 w4.heap.size v5 (Oct.numB 7) := Oct.OwnB.mono hO5 ((Below.refl _ w4).alloc (Nat.le_refl _) _).size
  obtain ⟨X5, HXd5⟩ : ∃ X, Hid (Oct.numB 7 = X) := ⟨_, ⟨rfl⟩⟩
  rw [HXd5.out] at hO5'
  obtain ⟨a5, c5, e, _⟩ := OwnY.shape hO5'
  subst e
  have HO5 : Hid (OwnY w5 w4.heap.size (.slice a5 X5.length c5) X5) := ⟨hO5'⟩
  have HXl5 : Hid (X5.length ≤ 20000) := ⟨by rw [← HXd5.out]; have := Oct.numB_len8 7 (by decide); omega⟩
  clear hO5 hO5' hB5 y0
  have HX5 := Hid.mk ((HW5.out.block q hq).trans HX4.out)
  have HM5 := Hid.mk ((HW5.out.block r hr).trans HM4.out)
  have x0_5 : w5.cell? ⟨r, 0, none⟩ = some (.bool true) := by rw [cell_of_row _ _ _ _ _ _ HM5.out, ← HM.out]; rfl
  have x1_5 : w5.cell? ⟨r, 1, none⟩ = some (.bool true) := by rw [cell_of_row _ _ _ _ _ _ HM5.out, ← HM.out]; rfl
  have x2_5 : w5.cell? ⟨r, 2, none⟩ = some (.bool false) := by rw [cell_of_row _ _ _ _ _ _ HM5.out, ← HM.out]; rfl
  have x3_5 : w5.cell? ⟨r, 3, none⟩ = some (.bool false) := by rw [cell_of_row _ _ _ _ _ _ HM5.out, ← HM.out]; rfl
  have x4_5 : w5.cell? ⟨r, 4, none⟩ = some (.bool true) := by rw [cell_of_row _ _ _ _ _ _ HM5.out, ← HM.out]; rfl
  have y0_5 : w5.cell? ⟨q, 0, none⟩ = some (.int .i64 7) := by rw [cell_of_row _ _ _ _ _ _ HX5.out, ← HA.out]; rfl
  have y1_5 : w5.cell? ⟨q, 1, none⟩ = some (.string nm) := by rw [cell_of_row _ _ _ _ _ _ HX5.out, ← HA.out]; rfl
  have y2_5 : w5.cell? ⟨q, 2, none⟩ = some (.int .i64 (g : Int)) := by rw [cell_of_row _ _ _ _ _ _ HX5.out, ← HA.out]; rfl
  have y3_5 : w5.cell? ⟨q, 3, none⟩ = some (.int .i64 (i : Int)) := by rw [cell_of_row _ _ _ _ _ _ HX5.out, ← HA.out]; rfl
  have y4_5 : w5.cell? ⟨q, 4, none⟩ = some (.slice ha hn hc) := by rw [cell_of_row _ _ _ _ _ _ HX5.out, ← HA.out]; rfl
  have y5_5 : w5.cell? ⟨q, 5, none⟩ = some (.slice pa pn pc) := by rw [cell_of_row _ _ _ _ _ _ HX5.out, ← HA.out]; rfl
  have y6_5 : w5.cell? ⟨q, 6, none⟩ = some (.slice ba bn bc) := by rw [cell_of_row _ _ _ _ _ _ HX5.out, ← HA.out]; rfl
  go_wp2_with fail
  refine (file22 nm hnm g hgm).mono ?_
  rintro e wa6 ⟨va6, rfl, hOa, hBa⟩
  have hB6 : Below w5.heap.size w5 wa6 := hBa
  have HWa6 : Hid (Below w4.heap.size w4 wa6) := ⟨HW5.out.trans (hB6.mono HW5.out.size)⟩
  have HOa6 : Hid (OwnY wa6 w4.heap.size (.slice a5 X5.length c5) X5) := ⟨Oct.OwnB.below HO5.out hB6⟩
  obtain ⟨Y6, HY6⟩ : ∃ Y, Hid (fB nm g = Y) := ⟨_, ⟨rfl⟩⟩
  rw [HY6.out] at hOa
  have HYl6 : Hid (Y6.length ≤ 20000) := ⟨by rw [← HY6.out]; exact by have a := Oct.numB_len8 nm.size (by omega); have b := Oct.numB_len8 g hgm; have c := strBs_len nm; unfold fB; simp only [List.length_append]; omega⟩
  have HR6 : Hid (RdY wa6 va6 Y6) := ⟨OwnY.rd hOa⟩
  clear x0_5 x1_5 x2_5 x3_5 x4_5 y0_5 y1_5 y2_5 y3_5 y4_5 y5_5 y6_5
  clear hOa hBa hB6
  go_wp2_with (at_builtin; refine wp_appY rfl (.tmp 25) (.tmp 30) rfl rfl HOa6.out rfl HR6.out (by have h1 := HXl5.out; have h2 := HYl6.out; omega) HWa6.out.size ?_; intro v6 w6 hO hC hw; have HOz : Hid (OwnY w6 w4.heap.size v6 (X5 ++ Y6)) := ⟨hO⟩; have HCz : Hid (Chg (ob (Value.slice a5 X5.length c5)) wa6 w6) := ⟨hC⟩; clear hO hC hw; obtain ⟨X6, HXd6⟩ : ∃ X, Hid (X5 ++ Y6 = X) := ⟨_, ⟨rfl⟩⟩; rw [HXd6.out] at HOz; obtain ⟨a6, c6, e, _⟩ := OwnY.shape HOz.out; subst e; have HO6 : Hid (OwnY w6 w4.heap.size (.slice a6 X6.length c6) X6) := ⟨HOz.out⟩; have HXl6 : Hid (X6.length ≤ 40000) := ⟨by rw [← HXd6.out, List.length_append]; have h1 := HXl5.out; have h2 := HYl6.out; omega⟩; have HW6 : Hid (Below w4.heap.size w4 w6) := ⟨HWa6.out.trans (HCz.out.below HWa6.out.size (own_geY HOa6.out))⟩; clear HOz HCz; have HX6 := Hid.mk ((HW6.out.block q hq).trans HX4.out); have HM6 := Hid.mk ((HW6.out.block r hr).trans HM4.out); have x0_6 : w6.cell? ⟨r, 0, none⟩ = some (.bool true) := (by rw [cell_of_row _ _ _ _ _ _ HM6.out, ← HM.out]; rfl); have x1_6 : w6.cell? ⟨r, 1, none⟩ = some (.bool true) := (by rw [cell_of_row _ _ _ _ _ _ HM6.out, ← HM.out]; rfl); have x2_6 : w6.cell? ⟨r, 2, none⟩ = some (.bool false) := (by rw [cell_of_row _ _ _ _ _ _ HM6.out, ← HM.out]; rfl); have x3_6 : w6.cell? ⟨r, 3, none⟩ = some (.bool false) := (by rw [cell_of_row _ _ _ _ _ _ HM6.out, ← HM.out]; rfl); have x4_6 : w6.cell? ⟨r, 4, none⟩ = some (.bool true) := (by rw [cell_of_row _ _ _ _ _ _ HM6.out, ← HM.out]; rfl); have y0_6 : w6.cell? ⟨q, 0, none⟩ = some (.int .i64 7) := (by rw [cell_of_row _ _ _ _ _ _ HX6.out, ← HA.out]; rfl); have y1_6 : w6.cell? ⟨q, 1, none⟩ = some (.string nm) := (by rw [cell_of_row _ _ _ _ _ _ HX6.out, ← HA.out]; rfl); have y2_6 : w6.cell? ⟨q, 2, none⟩ = some (.int .i64 (g : Int)) := (by rw [cell_of_row _ _ _ _ _ _ HX6.out, ← HA.out]; rfl); have y3_6 : w6.cell? ⟨q, 3, none⟩ = some (.int .i64 (i : Int)) := (by rw [cell_of_row _ _ _ _ _ _ HX6.out, ← HA.out]; rfl); have y4_6 : w6.cell? ⟨q, 4, none⟩ = some (.slice ha hn hc) := (by rw [cell_of_row _ _ _ _ _ _ HX6.out, ← HA.out]; rfl); have y5_6 : w6.cell? ⟨q, 5, none⟩ = some (.slice pa pn pc) := (by rw [cell_of_row _ _ _ _ _ _ HX6.out, ← HA.out]; rfl); have y6_6 : w6.cell? ⟨q, 6, none⟩ = some (.slice ba bn bc) := (by rw [cell_of_row _ _ _ _ _ _ HX6.out, ← HA.out]; rfl))
  go_wp2_with fail
  refine (nums1 i (by omega) w6.heap.size (heap_alloc_new w6 _)).mono ?_
  rintro e wa7 ⟨va7, rfl, hOa, hBa⟩
  have hB7 : Below w6.heap.size w6 wa7 := ((Below.refl _ w6).alloc (Nat.le_refl _) _).trans (hBa.mono ((Below.refl _ w6).alloc (Nat.le_refl _) _).size)
  have HWa7 : Hid (Below w4.heap.size w4 wa7) := ⟨HW6.out.trans (hB7.mono HW6.out.size)⟩
  have HOa7 : Hid (OwnY wa7 w4.heap.size (.slice a6 X6.length c6) X6) := ⟨Oct.OwnB.below HO6.out hB7⟩
  obtain ⟨Y7, HY7⟩ : ∃ Y, Hid (Oct.numB i = Y) := ⟨_, ⟨rfl⟩⟩
  rw [HY7.out] at hOa
  have HYl7 : Hid (Y7.length ≤ 20000) := ⟨by rw [← HY7.out]; exact by have b := Oct.numB_len8 i (by omega); omega⟩
  have HR7 : Hid (RdY wa7 va7 Y7) := ⟨OwnY.rd hOa⟩
  clear x0_6 x1_6 x2_6 x3_6 x4_6 y0_6 y1_6 y2_6 y3_6 y4_6 y5_6 y6_6
  clear hOa hBa hB7
  go_wp2_with (at_builtin; refine wp_appY rfl (.tmp 34) (.tmp 38) rfl rfl HOa7.out rfl HR7.out (by have h1 := HXl6.out; have h2 := HYl7.out; omega) HWa7.out.size ?_; intro v7 w7 hO hC hw; have HOz : Hid (OwnY w7 w4.heap.size v7 (X6 ++ Y7)) := ⟨hO⟩; have HCz : Hid (Chg (ob (Value.slice a6 X6.length c6)) wa7 w7) := ⟨hC⟩; clear hO hC hw; obtain ⟨X7, HXd7⟩ : ∃ X, Hid (X6 ++ Y7 = X) := ⟨_, ⟨rfl⟩⟩; rw [HXd7.out] at HOz; obtain ⟨a7, c7, e, _⟩ := OwnY.shape HOz.out; subst e; have HO7 : Hid (OwnY w7 w4.heap.size (.slice a7 X7.length c7) X7) := ⟨HOz.out⟩; have HXl7 : Hid (X7.length ≤ 60000) := ⟨by rw [← HXd7.out, List.length_append]; have h1 := HXl6.out; have h2 := HYl7.out; omega⟩; have HW7 : Hid (Below w4.heap.size w4 w7) := ⟨HWa7.out.trans (HCz.out.below HWa7.out.size (own_geY HOa7.out))⟩; clear HOz HCz; have HX7 := Hid.mk ((HW7.out.block q hq).trans HX4.out); have HM7 := Hid.mk ((HW7.out.block r hr).trans HM4.out); have x0_7 : w7.cell? ⟨r, 0, none⟩ = some (.bool true) := (by rw [cell_of_row _ _ _ _ _ _ HM7.out, ← HM.out]; rfl); have x1_7 : w7.cell? ⟨r, 1, none⟩ = some (.bool true) := (by rw [cell_of_row _ _ _ _ _ _ HM7.out, ← HM.out]; rfl); have x2_7 : w7.cell? ⟨r, 2, none⟩ = some (.bool false) := (by rw [cell_of_row _ _ _ _ _ _ HM7.out, ← HM.out]; rfl); have x3_7 : w7.cell? ⟨r, 3, none⟩ = some (.bool false) := (by rw [cell_of_row _ _ _ _ _ _ HM7.out, ← HM.out]; rfl); have x4_7 : w7.cell? ⟨r, 4, none⟩ = some (.bool true) := (by rw [cell_of_row _ _ _ _ _ _ HM7.out, ← HM.out]; rfl); have y0_7 : w7.cell? ⟨q, 0, none⟩ = some (.int .i64 7) := (by rw [cell_of_row _ _ _ _ _ _ HX7.out, ← HA.out]; rfl); have y1_7 : w7.cell? ⟨q, 1, none⟩ = some (.string nm) := (by rw [cell_of_row _ _ _ _ _ _ HX7.out, ← HA.out]; rfl); have y2_7 : w7.cell? ⟨q, 2, none⟩ = some (.int .i64 (g : Int)) := (by rw [cell_of_row _ _ _ _ _ _ HX7.out, ← HA.out]; rfl); have y3_7 : w7.cell? ⟨q, 3, none⟩ = some (.int .i64 (i : Int)) := (by rw [cell_of_row _ _ _ _ _ _ HX7.out, ← HA.out]; rfl); have y4_7 : w7.cell? ⟨q, 4, none⟩ = some (.slice ha hn hc) := (by rw [cell_of_row _ _ _ _ _ _ HX7.out, ← HA.out]; rfl); have y5_7 : w7.cell? ⟨q, 5, none⟩ = some (.slice pa pn pc) := (by rw [cell_of_row _ _ _ _ _ _ HX7.out, ← HA.out]; rfl); have y6_7 : w7.cell? ⟨q, 6, none⟩ = some (.slice ba bn bc) := (by rw [cell_of_row _ _ _ _ _ _ HX7.out, ← HA.out]; rfl))
  go_wp2_with fail
  refine (text28 (.slice ba bn bc) bs (HBx.out w7 (HB4.out.trans (HW7.out.mono HB4.out.size))) 512 (by have := HBl.out; omega) (by decide)).mono ?_
  rintro e wa8 ⟨va8, rfl, hOa, hBa⟩
  have hB8 : Below w7.heap.size w7 wa8 := hBa
  have HWa8 : Hid (Below w4.heap.size w4 wa8) := ⟨HW7.out.trans (hB8.mono HW7.out.size)⟩
  have HOa8 : Hid (OwnY wa8 w4.heap.size (.slice a7 X7.length c7) X7) := ⟨Oct.OwnB.below HO7.out hB8⟩
  obtain ⟨Y8, HY8⟩ : ∃ Y, Hid (Oct.numB bs.length ++ bs = Y) := ⟨_, ⟨rfl⟩⟩
  rw [HY8.out] at hOa
  have HYl8 : Hid (Y8.length ≤ 20000) := ⟨by rw [← HY8.out]; exact by have a := Oct.numB_len8 bs.length (by have := HBl.out; omega); have b := HBl.out; simp only [List.length_append]; omega⟩
  have HR8 : Hid (RdY wa8 va8 Y8) := ⟨OwnY.rd hOa⟩
  clear x0_7 x1_7 x2_7 x3_7 x4_7 y0_7 y1_7 y2_7 y3_7 y4_7 y5_7 y6_7
  clear hOa hBa hB8
  go_wp2_with (at_builtin; refine wp_appY rfl (.tmp 56) (.tmp 59) rfl rfl HOa8.out rfl HR8.out (by have h1 := HXl7.out; have h2 := HYl8.out; omega) HWa8.out.size ?_; intro v8 w8 hO hC hw; have HOz : Hid (OwnY w8 w4.heap.size v8 (X7 ++ Y8)) := ⟨hO⟩; have HCz : Hid (Chg (ob (Value.slice a7 X7.length c7)) wa8 w8) := ⟨hC⟩; clear hO hC hw; obtain ⟨X8, HXd8⟩ : ∃ X, Hid (X7 ++ Y8 = X) := ⟨_, ⟨rfl⟩⟩; rw [HXd8.out] at HOz; obtain ⟨a8, c8, e, _⟩ := OwnY.shape HOz.out; subst e; have HO8 : Hid (OwnY w8 w4.heap.size (.slice a8 X8.length c8) X8) := ⟨HOz.out⟩; have HXl8 : Hid (X8.length ≤ 80000) := ⟨by rw [← HXd8.out, List.length_append]; have h1 := HXl7.out; have h2 := HYl8.out; omega⟩; have HW8 : Hid (Below w4.heap.size w4 w8) := ⟨HWa8.out.trans (HCz.out.below HWa8.out.size (own_geY HOa8.out))⟩; clear HOz HCz; have HX8 := Hid.mk ((HW8.out.block q hq).trans HX4.out); have HM8 := Hid.mk ((HW8.out.block r hr).trans HM4.out); have x0_8 : w8.cell? ⟨r, 0, none⟩ = some (.bool true) := (by rw [cell_of_row _ _ _ _ _ _ HM8.out, ← HM.out]; rfl); have x1_8 : w8.cell? ⟨r, 1, none⟩ = some (.bool true) := (by rw [cell_of_row _ _ _ _ _ _ HM8.out, ← HM.out]; rfl); have x2_8 : w8.cell? ⟨r, 2, none⟩ = some (.bool false) := (by rw [cell_of_row _ _ _ _ _ _ HM8.out, ← HM.out]; rfl); have x3_8 : w8.cell? ⟨r, 3, none⟩ = some (.bool false) := (by rw [cell_of_row _ _ _ _ _ _ HM8.out, ← HM.out]; rfl); have x4_8 : w8.cell? ⟨r, 4, none⟩ = some (.bool true) := (by rw [cell_of_row _ _ _ _ _ _ HM8.out, ← HM.out]; rfl); have y0_8 : w8.cell? ⟨q, 0, none⟩ = some (.int .i64 7) := (by rw [cell_of_row _ _ _ _ _ _ HX8.out, ← HA.out]; rfl); have y1_8 : w8.cell? ⟨q, 1, none⟩ = some (.string nm) := (by rw [cell_of_row _ _ _ _ _ _ HX8.out, ← HA.out]; rfl); have y2_8 : w8.cell? ⟨q, 2, none⟩ = some (.int .i64 (g : Int)) := (by rw [cell_of_row _ _ _ _ _ _ HX8.out, ← HA.out]; rfl); have y3_8 : w8.cell? ⟨q, 3, none⟩ = some (.int .i64 (i : Int)) := (by rw [cell_of_row _ _ _ _ _ _ HX8.out, ← HA.out]; rfl); have y4_8 : w8.cell? ⟨q, 4, none⟩ = some (.slice ha hn hc) := (by rw [cell_of_row _ _ _ _ _ _ HX8.out, ← HA.out]; rfl); have y5_8 : w8.cell? ⟨q, 5, none⟩ = some (.slice pa pn pc) := (by rw [cell_of_row _ _ _ _ _ _ HX8.out, ← HA.out]; rfl); have y6_8 : w8.cell? ⟨q, 6, none⟩ = some (.slice ba bn bc) := (by rw [cell_of_row _ _ _ _ _ _ HX8.out, ← HA.out]; rfl))
  go_wp2_with fail
  go_ret2
  refine ⟨_, rfl, ?_, HB4.out.trans (HW8.out.mono HB4.out.size)⟩
  rw [HXd5.out, HY6.out, HXd6.out, HY7.out, HXd7.out, HY8.out, HXd8.out]
  exact Oct.OwnB.mono HO8.out HB4.out.size
end
end Go.Proofs.Ythohpbppfihoiaa
