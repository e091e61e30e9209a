/- The walks of FieldLaws, FieldPowers, FieldEvals. -/
import Derived.Test.YtkleaaopbhbpmaaW1
namespace Go.Proofs.Ytkleaaopbhbpmaa
open Go.RowKit Gf

section
variable {w : World}
set_option maxHeartbeats 4000000 in
set_option maxRecDepth 100000 in
theorem laws4 (a b c : G) : Calls Try.prog 4 #[.int .u8 (gi a), .int .u8 (gi b), .int .u8 (gi c)] w fun e w' => e = .returned (.bool true) ∧ Below w.heap.size w w' := by
  have t1 := fun w => mul13 a b w
  have t2 := fun w => div9 (w := w) (a * b) b
  have t3 := fun w => live12 (w := w)
  have t4 := fun w => mul13 b a w
  rw [mul_comm b a] at t4
  have t5 := fun w => mul13 b c w
  have t6 := fun w => mul13 a (b * c) w
  have t7 := fun w => mul13 (a * b) c w
  rw [mul_assoc] at t7
  have t8 := fun w => mul13 a (b + c) w
  have t9 := fun w => mul13 a c w
  have t10 : ∀ w, Calls Try.prog 13 #[.int .u8 (gi a), .int .u8 1] w fun e w' => e = .returned (.int .u8 (gi a)) ∧ w = w' := fun w => by
    have := mul13 a 1 w
    rwa [mul_one] at this
  have q1 := gi_xor b c
  have q2 := gi_xor (a * b) (a * c)
  rw [← mul_add] at q2
  have hb0 : (gi b == 0) = decide (b = 0) := gi_eq b 0
  obtain ⟨c1, Hc⟩ : ∃ c, Hid (decide (b = 0) = c) := ⟨_, ⟨rfl⟩⟩
  have hc2 : (if b = 0 then (2 : Int) else 0) = if c1 then 2 else 0 := by
    rw [← Hc.out]
    by_cases h : b = 0 <;> simp [h]
  have hq : c1 = false → a * b * inv b = a := fun h => by
    rw [h] at Hc
    have hb : b ≠ 0 := of_decide_eq_false Hc.out
    rw [mul_assoc, mul_inv hb, mul_one]
  rw [Hc.out] at hb0
  rw [hc2] at t2
  clear hc2
  cases c1 with
  | true =>
    rw [if_pos rfl] at t2
    obtain ⟨y, Hy⟩ : ∃ r, Hid (gi (a * b * inv b) = r) := ⟨_, ⟨rfl⟩⟩
    rw [Hy.out] at t2
    clear hq
    generalize gi a = x1 at *
    generalize gi b = x2 at *
    generalize gi c = x3 at *
    generalize gi (a * b) = x4 at *
    generalize gi (b * c) = x5 at *
    generalize gi (a * (b * c)) = x6 at *
    generalize gi (b + c) = x7 at *
    generalize gi (a * (b + c)) = x8 at *
    generalize gi (a * c) = x9 at *
    go_enter Try.func4, Try.ntmps4
    go_wp2_with fail
    refine (t1 _).mono ?_
    rintro e x1 ⟨rfl, rfl⟩
    go_wp2_with fail
    refine (t2 _).mono ?_
    rintro e x2 ⟨rfl, hb⟩
    have HB2 : Hid (Below w.heap.size w x2) := ⟨hb⟩
    clear hb
    go_wp2_with fail
    refine (t3 _).mono ?_
    rintro e x3 ⟨rfl, hb⟩
    have HB3 : Hid (Below w.heap.size w x3) := ⟨HB2.out.trans (hb.mono HB2.out.size)⟩
    clear hb
    go_wp2_with fail
    refine (t1 _).mono ?_
    rintro e x4 ⟨rfl, rfl⟩
    go_wp2_with fail
    refine (t4 _).mono ?_
    rintro e x5 ⟨rfl, rfl⟩
    go_wp2_with fail
    refine (t5 _).mono ?_
    rintro e x6 ⟨rfl, rfl⟩
    go_wp2_with fail
    refine (t6 _).mono ?_
    rintro e x7 ⟨rfl, rfl⟩
    go_wp2_with fail
    refine (t1 _).mono ?_
    rintro e x8 ⟨rfl, rfl⟩
    go_wp2_with fail
    refine (t7 _).mono ?_
    rintro e x9 ⟨rfl, rfl⟩
    go_wp2_with fail
    refine (t8 _).mono ?_
    rintro e x10 ⟨rfl, rfl⟩
    go_wp2_with fail
    refine (t1 _).mono ?_
    rintro e x11 ⟨rfl, rfl⟩
    go_wp2_with fail
    refine (t9 _).mono ?_
    rintro e x12 ⟨rfl, rfl⟩
    go_wp2_with fail
    refine (t10 _).mono ?_
    rintro e x13 ⟨rfl, rfl⟩
    go_wp2_with fail
    go_ret
    exact ⟨rfl, HB3.out⟩
  | false =>
    rw [if_neg (by decide), hq rfl] at t2
    clear hq
    generalize gi a = x1 at *
    generalize gi b = x2 at *
    generalize gi c = x3 at *
    generalize gi (a * b) = x4 at *
    generalize gi (b * c) = x5 at *
    generalize gi (a * (b * c)) = x6 at *
    generalize gi (b + c) = x7 at *
    generalize gi (a * (b + c)) = x8 at *
    generalize gi (a * c) = x9 at *
    go_enter Try.func4, Try.ntmps4
    go_wp2_with fail
    refine (t1 _).mono ?_
    rintro e x1 ⟨rfl, rfl⟩
    go_wp2_with fail
    refine (t2 _).mono ?_
    rintro e x2 ⟨rfl, hb⟩
    have HB2 : Hid (Below w.heap.size w x2) := ⟨hb⟩
    clear hb
    go_wp2_with fail
    refine (t3 _).mono ?_
    rintro e x3 ⟨rfl, hb⟩
    have HB3 : Hid (Below w.heap.size w x3) := ⟨HB2.out.trans (hb.mono HB2.out.size)⟩
    clear hb
    go_wp2_with fail
    refine (t1 _).mono ?_
    rintro e x4 ⟨rfl, rfl⟩
    go_wp2_with fail
    refine (t4 _).mono ?_
    rintro e x5 ⟨rfl, rfl⟩
    go_wp2_with fail
    refine (t5 _).mono ?_
    rintro e x6 ⟨rfl, rfl⟩
    go_wp2_with fail
    refine (t6 _).mono ?_
    rintro e x7 ⟨rfl, rfl⟩
    go_wp2_with fail
    refine (t1 _).mono ?_
    rintro e x8 ⟨rfl, rfl⟩
    go_wp2_with fail
    refine (t7 _).mono ?_
    rintro e x9 ⟨rfl, rfl⟩
    go_wp2_with fail
    refine (t8 _).mono ?_
    rintro e x10 ⟨rfl, rfl⟩
    go_wp2_with fail
    refine (t1 _).mono ?_
    rintro e x11 ⟨rfl, rfl⟩
    go_wp2_with fail
    refine (t9 _).mono ?_
    rintro e x12 ⟨rfl, rfl⟩
    go_wp2_with fail
    refine (t10 _).mono ?_
    rintro e x13 ⟨rfl, rfl⟩
    go_wp2_with fail
    go_ret
    exact ⟨rfl, HB3.out⟩
set_option maxHeartbeats 4000000 in
set_option maxRecDepth 100000 in
theorem powers5 (a : G) (m : Int) (n k : Nat) (hm : m < 9223372036854775808) (hn : n < 65536) (hk : k < 65536) : Calls Try.prog 5 #[.int .u8 (gi a), .int .i64 m, .int .u16 n, .int .u16 k] w fun e w' => e = .returned (.bool true) ∧ Below w.heap.size w w' := by
  have t1 := fun w => live12 (w := w)
  have t2 := fun w => pow15 (w := w) a m hm
  have t3 := fun w => rpow16 (w := w) a m hm
  have t4 := fun w => pow15 (w := w) a (n : Int) (by omega)
  have t5 := fun w => pow15 (w := w) a (k : Int) (by omega)
  have t6 := fun w => mul13 (gpw a n) (gpw a k) w
  rw [← gpw_add] at t6
  have t7 := fun w => pow15 (w := w) a ((n : Int) + k) (by omega)
  rw [show ((n : Int) + k).toNat = n + k by omega] at t7
  simp only [Int.toNat_natCast] at t4 t5
  generalize gi a = x1 at *
  generalize gi (gpw a m.toNat) = x2 at *
  generalize gi (gpw a n) = x3 at *
  generalize gi (gpw a k) = x4 at *
  generalize gi (gpw a (n + k)) = x5 at *
  go_enter Try.func5, Try.ntmps5
  go_wp2_with fail
  refine (t1 _).mono ?_
  rintro e x1 ⟨rfl, hb⟩
  have HB1 : Hid (Below w.heap.size w x1) := ⟨hb⟩
  clear hb
  go_wp2_with fail
  refine (t2 _).mono ?_
  rintro e x2 ⟨rfl, hb⟩
  have HB2 : Hid (Below w.heap.size w x2) := ⟨HB1.out.trans (hb.mono HB1.out.size)⟩
  clear hb
  go_wp2_with fail
  refine (t3 _).mono ?_
  rintro e x3 ⟨rfl, rfl⟩
  go_wp2_with fail
  refine (t4 _).mono ?_
  rintro e x4 ⟨rfl, hb⟩
  have HB4 : Hid (Below w.heap.size w x4) := ⟨HB2.out.trans (hb.mono HB2.out.size)⟩
  clear hb
  go_wp2_with fail
  refine (t5 _).mono ?_
  rintro e x5 ⟨rfl, hb⟩
  have HB5 : Hid (Below w.heap.size w x5) := ⟨HB4.out.trans (hb.mono HB4.out.size)⟩
  clear hb
  go_wp2_with fail
  refine (t6 _).mono ?_
  rintro e x6 ⟨rfl, rfl⟩
  go_wp2_with fail
  refine (t7 _).mono ?_
  rintro e x7 ⟨rfl, hb⟩
  have HB7 : Hid (Below w.heap.size w x7) := ⟨HB5.out.trans (hb.mono HB5.out.size)⟩
  clear hb
  go_wp2_with fail
  go_ret
  exact ⟨rfl, HB7.out⟩
set_option maxHeartbeats 4000000 in
set_option maxRecDepth 100000 in
theorem evals6 (u v : Value) (p q : List G) (x : G) (hu : GV w u p) (hv : GV w v q) : Calls Try.prog 6 #[u, v, .int .u8 (gi x)] w fun e w' => e = .returned (.bool true) ∧ Below w.heap.size w w' := by
  have lp := hu.len
  have lq := hv.len
  have t1 := live12 (w := w)
  have T2 : Hid (∀ W, Below w.heap.size w W → Calls Try.prog 17 #[u, .int .u8 (gi x)] W fun e w' => e = .returned (.int .u8 (gi (ev p x))) ∧ Below W.heap.size W w') := ⟨fun W hB => eval17 p u x (by omega) (hu.rd.far (Chg.ofBelow (X := []) hB) (by simp))⟩
  have T3 : Hid (∀ W, Below w.heap.size w W → Calls Try.prog 18 #[u, .int .u8 (gi x)] W fun e w' => e = .returned (.int .u8 (gi (ev p x))) ∧ W = w') := ⟨fun W hB => reval18 p u x (by omega) (hu.rd.far (Chg.ofBelow (X := []) hB) (by simp))⟩
  have T4 : Hid (∀ W, Below w.heap.size w W → Calls Try.prog 19 #[u, v] W fun e w' => e = .returned (.int .u8 (gi (dot p q))) ∧ Below W.heap.size W w') := ⟨fun W hB => dot19 u v p q (by omega) (by omega) (hu.rd.far (Chg.ofBelow (X := []) hB) (by simp)) (hv.rd.far (Chg.ofBelow (X := []) hB) (by simp))⟩
  have T5 : Hid (∀ W, Below w.heap.size w W → Calls Try.prog 20 #[u, v] W fun e w' => e = .returned (.int .u8 (gi (dot p q))) ∧ Below W.heap.size W w') := ⟨fun W hB => rdot20 u v p q (by omega) (by omega) (hu.rd.far (Chg.ofBelow (X := []) hB) (by simp)) (hv.rd.far (Chg.ofBelow (X := []) hB) (by simp))⟩
  obtain ⟨u1, u2, rfl, _⟩ := hu.rd.shape
  obtain ⟨v1, v2, rfl, _⟩ := hv.rd.shape
  clear hu hv lp lq
  generalize p.length = np at *
  generalize q.length = nq at *
  generalize gi (ev p x) = y1 at *
  generalize gi (dot p q) = y2 at *
  generalize gi x = y3 at *
  go_enter Try.func6, Try.ntmps6
  go_wp2_with fail
  refine (t1).mono ?_
  rintro e x1 ⟨rfl, hb⟩
  have HB1 : Hid (Below w.heap.size w x1) := ⟨hb⟩
  clear hb
  go_wp2_with fail
  refine (T2.out _ HB1.out).mono ?_
  rintro e x2 ⟨rfl, hb⟩
  have HB2 : Hid (Below w.heap.size w x2) := ⟨HB1.out.trans (hb.mono HB1.out.size)⟩
  clear hb
  go_wp2_with fail
  refine (T3.out _ HB2.out).mono ?_
  rintro e x3 ⟨rfl, rfl⟩
  go_wp2_with fail
  refine (T4.out _ HB2.out).mono ?_
  rintro e x4 ⟨rfl, hb⟩
  have HB4 : Hid (Below w.heap.size w x4) := ⟨HB2.out.trans (hb.mono HB2.out.size)⟩
  clear hb
  go_wp2_with fail
  refine (T5.out _ HB4.out).mono ?_
  rintro e x5 ⟨rfl, hb⟩
  have HB5 : Hid (Below w.heap.size w x5) := ⟨HB4.out.trans (hb.mono HB4.out.size)⟩
  clear hb
  go_wp2_with fail
  go_ret
  exact ⟨rfl, HB5.out⟩
end
theorem walk_fieldLaws (a b c : Int) (W : World) (w0 : (Lit.int .u8 a).wf = true) (w1 : (Lit.int .u8 b).wf = true) (w2 : (Lit.int .u8 c).wf = true) : Calls Try.prog 4 #[.int .u8 a, .int .u8 b, .int .u8 c] W fun e w' => e = .returned (.bool true) ∧ Below W.heap.size W w' := by
  obtain ⟨x, rfl⟩ := of_u8 w0
  obtain ⟨y, rfl⟩ := of_u8 w1
  obtain ⟨z, rfl⟩ := of_u8 w2
  exact laws4 x y z
theorem of_u16 {z : Int} (h : (Lit.int .u16 z).wf = true) : ∃ n : Nat, z = n ∧ n < 65536 := by
  have hb : IntKind.u16.min ≤ z ∧ z ≤ IntKind.u16.max := by simpa [Lit.wf] using h
  have h1 : IntKind.u16.min = 0 := rfl
  have h2 : IntKind.u16.max = 65535 := rfl
  exact ⟨z.toNat, by omega, by omega⟩
theorem of_i64 {z : Int} (h : (Lit.int .i64 z).wf = true) : z < 9223372036854775808 := by
  have hb : IntKind.i64.min ≤ z ∧ z ≤ 9223372036854775807 := by simpa [Lit.wf] using h
  omega
theorem walk_fieldPowers (a m n k : Int) (W : World) (w0 : (Lit.int .u8 a).wf = true) (w1 : (Lit.int .i64 m).wf = true) (w2 : (Lit.int .u16 n).wf = true) (w3 : (Lit.int .u16 k).wf = true) : Calls Try.prog 5 #[.int .u8 a, .int .i64 m, .int .u16 n, .int .u16 k] W fun e w' => e = .returned (.bool true) ∧ Below W.heap.size W w' := by
  obtain ⟨x, rfl⟩ := of_u8 w0
  obtain ⟨n, rfl, hn⟩ := of_u16 w2
  obtain ⟨k, rfl, hk⟩ := of_u16 w3
  exact powers5 x m n k (of_i64 w1) hn hk
theorem walk_fieldEvals (u : Value) (p : List G) (v : Value) (q : List G) (x : Int) (W : World) (hu : GV W u p) (hv : GV W v q) (w2 : (Lit.int .u8 x).wf = true) : Calls Try.prog 6 #[u, v, .int .u8 x] W fun e w' => e = .returned (.bool true) ∧ Below W.heap.size W w' := by
  obtain ⟨x, rfl⟩ := of_u8 w2
  exact evals6 u v p q x hu hv
end Go.Proofs.Ytkleaaopbhbpmaa
