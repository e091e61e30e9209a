/- The walks of FieldMuls, FieldLaws, FieldPowers. -/
import Derived.Test.YtkleaaopbhbpmaaM12
import Derived.Test.YtkleaaopbhbpmaaFrG
namespace Go.Proofs.Ytkleaaopbhbpmaa
open Go.RowKit Gf

section
variable {w : World}
set_option maxHeartbeats 4000000 in
set_option maxRecDepth 100000 in
theorem muls3 (a b : G) : Calls Try.prog 3 #[.int .u8 (gi a), .int .u8 (gi b)] w fun e w' => e = .returned (.bool true) ∧ Below w.heap.size w w' := by
  have t1 := div9 (w := w) a b
  have t2 := fun w => rinv11 b w
  have t3 := fun w => rmul10 a (inv b) w
  have t4 := fun w => live12 (w := w)
  have t5 := fun w => mul13 a b w
  have t6 := fun w => rmul10 a b w
  have t7 := fun w => inv14 (w := w) a
  have t8 := fun w => rinv11 a w
  have hb := gi_eq b 0
  have hb0 : (gi b == 0) = decide (b = 0) := hb
  obtain ⟨c, Hc⟩ : ∃ c, Hid (decide (b = 0) = c) := ⟨_, ⟨rfl⟩⟩
  have hc2 : (if b = 0 then (2 : Int) else 0) = if c then 2 else 0 := by
    rw [← Hc.out]
    by_cases h : b = 0 <;> simp [h]
  rw [Hc.out] at hb0
  rw [hc2] at t1
  clear hb hc2
  obtain ⟨x1, H1⟩ : ∃ r, Hid (gi a = r) := ⟨_, ⟨rfl⟩⟩
  obtain ⟨x2, H2⟩ : ∃ r, Hid (gi b = r) := ⟨_, ⟨rfl⟩⟩
  obtain ⟨x3, H3⟩ : ∃ r, Hid (gi (a * inv b) = r) := ⟨_, ⟨rfl⟩⟩
  obtain ⟨x4, H4⟩ : ∃ r, Hid (gi (inv b) = r) := ⟨_, ⟨rfl⟩⟩
  obtain ⟨x5, H5⟩ : ∃ r, Hid (gi (a * b) = r) := ⟨_, ⟨rfl⟩⟩
  obtain ⟨x6, H6⟩ : ∃ r, Hid (gi (inv a) = r) := ⟨_, ⟨rfl⟩⟩
  rw [H1.out, H2.out, H3.out] at t1
  rw [H2.out, H4.out] at t2
  rw [H1.out, H4.out, H3.out] at t3
  rw [H1.out, H2.out, H5.out] at t5 t6
  rw [H1.out, H6.out] at t7 t8
  rw [H2.out] at hb0
  rw [H1.out, H2.out]
  cases c with
  | true =>
    rw [if_pos rfl] at t1
    have hne : (x2 != 0) = false := by rw [bne, hb0]; rfl
    go_enter Try.func3, Try.ntmps3
    go_wp2_with fail
    refine t1.mono ?_
    rintro e w1 ⟨rfl, hb1⟩
    have HB1 := Hid.mk hb1
    clear t1 hb1
    go_wp2_with fail
    refine (t2 _).mono ?_
    rintro e w2 ⟨rfl, rfl⟩
    go_wp2_with fail
    refine (t3 _).mono ?_
    rintro e w3 ⟨rfl, rfl⟩
    go_wp2_with fail
    refine (t4 _).mono ?_
    rintro e w4 ⟨rfl, hb4⟩
    have HB4 : Hid (Below w.heap.size w w4) := ⟨HB1.out.trans (hb4.mono HB1.out.size)⟩
    clear hb4
    go_wp2_with fail
    refine (t5 _).mono ?_
    rintro e w5 ⟨rfl, rfl⟩
    go_wp2_with fail
    refine (t6 _).mono ?_
    rintro e w6 ⟨rfl, rfl⟩
    go_wp2_with fail
    refine (t7 _).mono ?_
    rintro e w7 ⟨rfl, hb7⟩
    have HB7 : Hid (Below w.heap.size w w7) := ⟨HB4.out.trans (hb7.mono HB4.out.size)⟩
    clear hb7
    go_wp2_with fail
    refine (t8 _).mono ?_
    rintro e w8 ⟨rfl, rfl⟩
    go_wp2_with fail
    go_ret
    exact ⟨rfl, HB7.out⟩
  | false =>
    rw [if_neg (by decide)] at t1
    have hne : (x2 != 0) = true := by rw [bne, hb0]; rfl
    go_enter Try.func3, Try.ntmps3
    go_wp2_with fail
    refine t1.mono ?_
    rintro e w1 ⟨rfl, hb1⟩
    have HB1 := Hid.mk hb1
    clear t1 hb1
    go_wp2_with fail
    refine (t2 _).mono ?_
    rintro e w2 ⟨rfl, rfl⟩
    go_wp2_with fail
    refine (t3 _).mono ?_
    rintro e w3 ⟨rfl, rfl⟩
    go_wp2_with fail
    refine (t4 _).mono ?_
    rintro e w4 ⟨rfl, hb4⟩
    have HB4 : Hid (Below w.heap.size w w4) := ⟨HB1.out.trans (hb4.mono HB1.out.size)⟩
    clear hb4
    go_wp2_with fail
    refine (t5 _).mono ?_
    rintro e w5 ⟨rfl, rfl⟩
    go_wp2_with fail
    refine (t6 _).mono ?_
    rintro e w6 ⟨rfl, rfl⟩
    go_wp2_with fail
    refine (t7 _).mono ?_
    rintro e w7 ⟨rfl, hb7⟩
    have HB7 : Hid (Below w.heap.size w w7) := ⟨HB4.out.trans (hb7.mono HB4.out.size)⟩
    clear hb7
    go_wp2_with fail
    refine (t8 _).mono ?_
    rintro e w8 ⟨rfl, rfl⟩
    go_wp2_with fail
    go_ret
    exact ⟨rfl, HB7.out⟩
end
theorem walk_fieldMuls (a b : Int) (W : World) (w0 : (Lit.int .u8 a).wf = true) (w1 : (Lit.int .u8 b).wf = true) : Calls Try.prog 3 #[.int .u8 a, .int .u8 b] W fun e w' => e = .returned (.bool true) ∧ Below W.heap.size W w' := by
  obtain ⟨x, rfl⟩ := of_u8 w0
  obtain ⟨y, rfl⟩ := of_u8 w1
  exact muls3 x y
end Go.Proofs.Ytkleaaopbhbpmaa
