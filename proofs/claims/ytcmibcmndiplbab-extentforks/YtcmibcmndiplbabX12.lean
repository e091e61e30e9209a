/- Package extent's part. -/
import Derived.Test.YtcmibcmndiplbabX6
import Derived.Handy
import Derived.Deep.RegionHeld3
namespace Go.Proofs.Ytcmibcmndiplbab
open Go.RowKit Go.Lib Go.Shelf

theorem below_drewN {B : Nat} {w w' : World} (h : Below B w w') (n : Nat) : Below B w (w'.drewN n) := ⟨h.os, h.tape, h.output, h.size, h.block⟩

set_option maxHeartbeats 4000000 in
set_option maxRecDepth 100000 in
theorem part_ok {w : World} {p : Nat} {A B : Int} {base b cap : Nat} {l : List (Int × Int)} (h : MapAt w p A B base b cap l) (hB : B ≤ 4096) (hA : 0 ≤ A) (at' n : Int) (h1 : 1 ≤ n) (h2 : A ≤ at') (h3 : at' ≤ B) (h4 : n ≤ B - at') :
    Calls Try.prog 31 #[.pointer (some ⟨p, 0, none⟩), .agg #[.int .i64 at', .int .i64 n]] w fun e w' => e = .returned (.tuple #[.agg #[.int .i64 at', .int .i64 (at' + n)], .int .i64 0]) ∧ Below w.heap.size w w' := by
  obtain ⟨c0, c1, c2⟩ := cells_row h.row
  have hpl : p < w.heap.size := (Array.getElem?_eq_some_iff.1 h.row).1
  have np : p ≠ w.heap.size := by omega
  have np1 : p ≠ w.heap.size + 1 := by omega
  have hw1 : wrap64 (B - at') = B - at' := IntWalk.wrap64_in _ ⟨by omega, by omega⟩
  have hw2 : wrap64 (at' + n) = at' + n := IntWalk.wrap64_in _ ⟨by omega, by omega⟩
  have n1 : ¬ n < 1 := by omega
  have n2 : ¬ at' < A := by omega
  have n3 : ¬ B < at' := by omega
  have n4 : ¬ B - at' < n := by omega
  have d1 : decide (n < 1) = false := by simp; omega
  have d2 : decide (at' < A) = false := by simp; omega
  have d3 : decide (B < at') = false := by simp; omega
  have d4 : decide (B - at' < n) = false := by simp; omega
  clear h
  go_enter Try.func31, Try.ntmps31
  go_wp2
  go_quiet (fail)
  go_wp2
  go_returns
  refine ⟨rfl, ?_⟩
  exact ((below_drewN (((Below.refl _ w).alloc (Nat.le_refl _) _).alloc (by simp) _) nq).setCell (by simp) _).setCell (by simp) _
end Go.Proofs.Ytcmibcmndiplbab
