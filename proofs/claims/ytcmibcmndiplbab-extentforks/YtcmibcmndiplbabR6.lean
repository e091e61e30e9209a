/- The document's mine, Claim and Give. -/
import Derived.Test.YtcmibcmndiplbabR4
import Derived.Handy
namespace Go.Proofs.Ytcmibcmndiplbab
open Go.RowKit Go.Lib Go.Shelf

set_option maxHeartbeats 4000000 in
set_option maxRecDepth 100000 in
theorem mine_ok {w : World} {q : Nat} {A : Int} {base : Nat} {v : Value} {T : List Bool} (h : RefAt w q A base v T) (at' n : Int) (h1 : ¬ n < 1) (h2 : ¬ at' < A) (h3 : at' - A < (T.length : Int)) (ok : Bool) (hok : ok = decide (n ≤ (T.length : Int) - (at' - A))) :
    Calls Try.prog 47 #[.pointer (some ⟨q, 0, none⟩), .agg #[.int .i64 at', .int .i64 n]] w fun e w' => e = .returned (.tuple #[.int .i64 (at' - A), .bool ok]) ∧ Below w.heap.size w w' := by
  obtain ⟨c0, c1⟩ := cells_row2 h.row
  obtain ⟨ao, cap, rfl, _⟩ := h.own.shape
  have hql := h.lt
  have hsm := h.small
  have nq : q ≠ w.heap.size := by omega
  obtain ⟨N, hN⟩ : ∃ N, T.length = N := ⟨_, rfl⟩
  rw [hN] at c1 h3 hok hsm
  have hw1 : wrap64 (at' - A) = at' - A := IntWalk.wrap64_in _ ⟨by omega, by omega⟩
  have hw2 : wrap64 ((N : Int) - (at' - A)) = (N : Int) - (at' - A) := IntWalk.wrap64_in _ ⟨by omega, by omega⟩
  have d1 : decide (n < 1) = false := by simp; omega
  have d2 : decide (at' < A) = false := by simp; omega
  have d3 : decide ((N : Int) ≤ at' - A) = false := by simp; omega
  obtain ⟨x, hx⟩ : ∃ x, at' - A = x := ⟨_, rfl⟩
  clear h
  go_enter Try.func47, Try.ntmps47
  go_wp2
  go_quiet (fail)
  go_wp2
  go_quiet (fail)
  go_wp2
  go_quiet (fail)
  go_wp2
  go_ret2
  have hb := (Below.refl _ w).alloc (Nat.le_refl _) (.cells #[.int .i64 at', .int .i64 n] 43)
  exact ⟨by rw [hok, hx]; rfl, hb.os, hb.tape, hb.output, hb.size, hb.block⟩

set_option maxHeartbeats 4000000 in
set_option maxRecDepth 100000 in
theorem mine_b1 {w : World} {q : Nat} {A : Int} {base : Nat} {v : Value} {T : List Bool} (h : RefAt w q A base v T) (at' n : Int) (h1 : n < 1) :
    Calls Try.prog 47 #[.pointer (some ⟨q, 0, none⟩), .agg #[.int .i64 at', .int .i64 n]] w fun e w' => e = .returned (.tuple #[.int .i64 0, .bool false]) ∧ Below w.heap.size w w' := by
  obtain ⟨c0, c1⟩ := cells_row2 h.row
  obtain ⟨ao, cap, rfl, _⟩ := h.own.shape
  have hql := h.lt
  have hsm := h.small
  have nq : q ≠ w.heap.size := by omega
  obtain ⟨N, hN⟩ : ∃ N, T.length = N := ⟨_, rfl⟩
  rw [hN] at c1 hsm
  have d1 : decide (n < 1) = true := by simp; omega
  clear h
  go_enter Try.func47, Try.ntmps47
  go_wp2
  go_quiet (fail)
  go_wp2
  go_ret2
  have hb := (Below.refl _ w).alloc (Nat.le_refl _) (.cells #[.int .i64 at', .int .i64 n] 43)
  exact ⟨rfl, hb.os, hb.tape, hb.output, hb.size, hb.block⟩

set_option maxHeartbeats 4000000 in
set_option maxRecDepth 100000 in
theorem mine_b2 {w : World} {q : Nat} {A : Int} {base : Nat} {v : Value} {T : List Bool} (h : RefAt w q A base v T) (at' n : Int) (h1 : ¬ n < 1) (h2 : at' < A) :
    Calls Try.prog 47 #[.pointer (some ⟨q, 0, none⟩), .agg #[.int .i64 at', .int .i64 n]] w fun e w' => e = .returned (.tuple #[.int .i64 0, .bool false]) ∧ Below w.heap.size w w' := by
  obtain ⟨c0, c1⟩ := cells_row2 h.row
  obtain ⟨ao, cap, rfl, _⟩ := h.own.shape
  have hql := h.lt
  have hsm := h.small
  have nq : q ≠ w.heap.size := by omega
  obtain ⟨N, hN⟩ : ∃ N, T.length = N := ⟨_, rfl⟩
  rw [hN] at c1 hsm
  have d1 : decide (n < 1) = false := by simp; omega
  have d2 : decide (at' < A) = true := by simp; omega
  clear h
  go_enter Try.func47, Try.ntmps47
  go_wp2
  go_quiet (fail)
  go_wp2
  go_ret2
  have hb := (Below.refl _ w).alloc (Nat.le_refl _) (.cells #[.int .i64 at', .int .i64 n] 43)
  exact ⟨rfl, hb.os, hb.tape, hb.output, hb.size, hb.block⟩

set_option maxHeartbeats 4000000 in
set_option maxRecDepth 100000 in
theorem mine_b3 {w : World} {q : Nat} {A : Int} {base : Nat} {v : Value} {T : List Bool} (h : RefAt w q A base v T) (at' n : Int) (hA : 0 ≤ A) (hat : at' ≤ 9223372036854775807) (h1 : ¬ n < 1) (h2 : ¬ at' < A) (h3 : (T.length : Int) ≤ at' - A) :
    Calls Try.prog 47 #[.pointer (some ⟨q, 0, none⟩), .agg #[.int .i64 at', .int .i64 n]] w fun e w' => e = .returned (.tuple #[.int .i64 0, .bool false]) ∧ Below w.heap.size w w' := by
  obtain ⟨c0, c1⟩ := cells_row2 h.row
  obtain ⟨ao, cap, rfl, _⟩ := h.own.shape
  have hql := h.lt
  have hsm := h.small
  have nq : q ≠ w.heap.size := by omega
  obtain ⟨N, hN⟩ : ∃ N, T.length = N := ⟨_, rfl⟩
  rw [hN] at c1 hsm
  rw [hN] at h3
  have hw1 : wrap64 (at' - A) = at' - A := IntWalk.wrap64_in _ ⟨by omega, by omega⟩
  have d1 : decide (n < 1) = false := by simp; omega
  have d2 : decide (at' < A) = false := by simp; omega
  have d3 : decide ((N : Int) ≤ at' - A) = true := by simp; omega
  clear h
  go_enter Try.func47, Try.ntmps47
  go_wp2
  go_quiet (fail)
  go_wp2
  go_ret2
  have hb := (Below.refl _ w).alloc (Nat.le_refl _) (.cells #[.int .i64 at', .int .i64 n] 43)
  exact ⟨rfl, hb.os, hb.tape, hb.output, hb.size, hb.block⟩
end Go.Proofs.Ytcmibcmndiplbab
