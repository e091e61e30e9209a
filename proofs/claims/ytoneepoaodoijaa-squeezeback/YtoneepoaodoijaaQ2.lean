/- Pieces in memory: isPlain, size, check. -/
import Derived.Test.YtoneepoaodoijaaBytes
import Derived.Test.YtoneepoaodoijaaOctN
import Derived.Test.YtoneepoaodoijaaQ1
namespace Go.Proofs.Ytoneepoaodoijaa
open Go.RowKit Go.Lib

theorem ret_int {k : IntKind} {a b : Int} (h : a = b) : Ending.returned (.int k a) = .returned (.int k b) := by rw [h]
theorem ret_bool {a b : Bool} (h : a = b) : Ending.returned (.bool a) = .returned (.bool b) := by rw [h]
/-- A piece as a value. -/
def pcv (a : Option Addr) (n c : Nat) (far m : Int) : Value := .agg #[.slice a n c, .int .i64 far, .int .i64 m]
section
variable {w : World}
theorem isPlain26 (a : Option Addr) (n c : Nat) (far m : Int) : Calls Try.prog 26 #[pcv a n c far m] w fun e w' => e = .returned (.bool (decide (0 < n))) ∧ Below w.heap.size w w' := by
  have HB : Hid (Below w.heap.size w (w.alloc (.cells #[.slice a n c, .int .i64 far, .int .i64 m] 38))) := ⟨(Below.refl _ w).alloc (Nat.le_refl _) _⟩
  unfold pcv
  go_enter Try.func26, Try.ntmps26
  go_wp2_with fail
  go_ret
  exact ⟨ret_bool (by simp), HB.out⟩
theorem size30 (a : Option Addr) (n c : Nat) (far : Int) (m : Nat) (hn : n + m ≤ 1000000) : Calls Try.prog 30 #[pcv a n c far m] w fun e w' => e = .returned (.int .i64 ((n : Int) + m)) ∧ Below w.heap.size w w' := by
  have HB : Hid (Below w.heap.size w (w.alloc (.cells #[.slice a n c, .int .i64 far, .int .i64 (m : Int)] 38))) := ⟨(Below.refl _ w).alloc (Nat.le_refl _) _⟩
  have hw : IntKind.i64.wrap ((n : Int) + m) = (n : Int) + m := IntWalk.i64_in _ ⟨by omega, by omega⟩
  unfold pcv
  go_enter Try.func30, Try.ntmps30
  go_wp2_with fail
  go_ret
  exact ⟨rfl, HB.out⟩
set_option maxHeartbeats 2000000 in
theorem check20 (a : Option Addr) (n c : Nat) (far m : Nat) (ahead : Nat) (most : Int) (hn : n + m ≤ 1000000) (hfar : far ≤ 9007199254740991) (hm0 : -9223372036854775808 ≤ most ∧ most ≤ 8192) (ha : ahead = 0 ∨ (ahead : Int) ≤ most) :
    Calls Try.prog 20 #[pcv a n c far m, .int .i64 ahead, .int .i64 most] w fun e w' => e = .returned (.int .i64 (if n = 0 ∧ (far = 0 ∨ ahead < far) then 2 else if most - (ahead : Int) < (n : Int) + m then 6 else 0)) ∧ Below w.heap.size w w' := by
  obtain ⟨w1, Hw1⟩ : ∃ x, Hid (w.alloc (.cells #[.slice a n c, .int .i64 (far : Int), .int .i64 (m : Int)] 38) = x) := ⟨_, ⟨rfl⟩⟩
  have HB1 : Hid (Below w.heap.size w w1) := ⟨by rw [← Hw1.out]; exact (Below.refl _ w).alloc (Nat.le_refl _) _⟩
  have HX1 : Hid (w1.heap[w.heap.size]? = some (.cells #[.slice a n c, .int .i64 (far : Int), .int .i64 (m : Int)] 38 (0, 0))) := ⟨by rw [← Hw1.out]; exact heap_alloc_new w _⟩
  obtain ⟨q, Hq⟩ : ∃ q, Hid (w.heap.size = q) := ⟨_, ⟨rfl⟩⟩
  rw [Hq.out] at HX1
  have hlt := (Array.getElem?_eq_some_iff.1 HX1.out).1
  have t1 := isPlain26 (w := w1) a n c (far : Int) (m : Int)
  have hw : IntKind.i64.wrap (most - (ahead : Int)) = most - (ahead : Int) := IntWalk.i64_in _ ⟨by omega, by omega⟩
  obtain ⟨r, Hr⟩ : ∃ r : Int, Hid ((if n = 0 ∧ (far = 0 ∨ ahead < far) then 2 else if most - (ahead : Int) < (n : Int) + m then 6 else 0) = r) := ⟨_, ⟨rfl⟩⟩
  rw [Hr.out]
  unfold pcv at t1 ⊢
  have HS : Hid (∀ w2, Below w1.heap.size w1 w2 → Calls Try.prog 30 #[pcv a n c far m] w2 fun e w' => e = .returned (.int .i64 ((n : Int) + m)) ∧ Below w2.heap.size w2 w') := ⟨fun w2 _ => size30 (w := w2) a n c far m hn⟩
  go_enter Try.func20, Try.ntmps20
  go_wp2_with fail
  rw [Hw1.out, Hq.out]
  refine t1.mono ?_
  rintro e w2 ⟨rfl, hb2⟩
  have HB2 : Hid (Below w.heap.size w w2) := ⟨HB1.out.trans (hb2.mono HB1.out.size)⟩
  have HX2 : Hid (w2.heap[q]? = some (.cells #[.slice a n c, .int .i64 (far : Int), .int .i64 (m : Int)] 38 (0, 0))) := ⟨(hb2.block q hlt).trans HX1.out⟩
  have c0 : w2.cell? ⟨q, 0, none⟩ = some (.slice a n c) := by rw [cell_of_row _ _ _ _ _ _ HX2.out]; rfl
  have c1 : w2.cell? ⟨q, 1, none⟩ = some (.int .i64 (far : Int)) := by rw [cell_of_row _ _ _ _ _ _ HX2.out]; rfl
  have c2 : w2.cell? ⟨q, 2, none⟩ = some (.int .i64 (m : Int)) := by rw [cell_of_row _ _ _ _ _ _ HX2.out]; rfl
  have t3 := HS.out w2 hb2
  unfold pcv at t3
  clear t1 hb2 HS
  have fin : ∀ (e : Ending) (w3 : World), Below w2.heap.size w2 w3 → Below w.heap.size w w3 := fun _ w3 h => HB2.out.trans (h.mono HB2.out.size)
  by_cases h2 : n = 0 ∧ (far = 0 ∨ ahead < far)
  · obtain ⟨rfl, hfa⟩ := h2
    have HR : Hid (r = 2) := ⟨by rw [← Hr.out, if_pos ⟨rfl, hfa⟩]⟩
    have hd : (far = 0 ∧ (far : Int) = 0) ∨ (¬ (far : Int) = 0 ∧ (ahead : Int) < (far : Int)) := by omega
    clear hfa
    rcases hd with ⟨-, hf0⟩ | ⟨hf0, hf1⟩
    all_goals
      go_wp2_with fail
      go_ret
      exact ⟨ret_int HR.out.symm, HB2.out⟩
  · by_cases hsz : most - (ahead : Int) < (n : Int) + m
    · have HR : Hid (r = 6) := ⟨by rw [← Hr.out, if_neg h2, if_pos hsz]⟩
      have hd : 0 < n ∨ (n = 0 ∧ ¬ (far : Int) = 0 ∧ ¬ (ahead : Int) < (far : Int) ∧ ¬ ahead < far ∧ ¬ far = 0) := by omega
      clear h2
      rcases hd with hn0 | ⟨rfl, hf0, hf1, hf2, hf3⟩
      all_goals
        go_wp2_with fail
        refine t3.mono ?_
        rintro e w3 ⟨rfl, hb3⟩
        have HB3 := Hid.mk (fin .outgrown w3 hb3)
        clear hb3 t3
        go_wp2_with fail
        go_ret
        exact ⟨ret_int HR.out.symm, HB3.out⟩
    · have HR : Hid (r = 0) := ⟨by rw [← Hr.out, if_neg h2, if_neg hsz]⟩
      have hd : 0 < n ∨ (n = 0 ∧ ¬ (far : Int) = 0 ∧ ¬ (ahead : Int) < (far : Int) ∧ ¬ ahead < far ∧ ¬ far = 0) := by omega
      clear h2
      rcases hd with hn0 | ⟨rfl, hf0, hf1, hf2, hf3⟩
      all_goals
        go_wp2_with fail
        refine t3.mono ?_
        rintro e w3 ⟨rfl, hb3⟩
        have HB3 := Hid.mk (fin .outgrown w3 hb3)
        clear hb3 t3
        go_wp2_with fail
        go_ret
        exact ⟨ret_int HR.out.symm, HB3.out⟩
end
end Go.Proofs.Ytoneepoaodoijaa
