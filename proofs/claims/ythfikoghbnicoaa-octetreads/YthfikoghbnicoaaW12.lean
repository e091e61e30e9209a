/- Contracts of both readers' Num and Fixed, at their cells. -/
import Derived.Test.YthfikoghbnicoaaW11
namespace Go.Proofs.Ythfikoghbnicoaa
open Go.RowKit

set_option maxHeartbeats 1000000 in
set_option maxRecDepth 1000000 in
theorem xnum_ok (g : Nat) (a : Option Addr) (L c : Nat) (i n nx : Int) (w : World)
    (hc0 : w.cell? ⟨g, 0, none⟩ = some (.int .i64 0)) (hc1 : w.cell? ⟨g, 1, none⟩ = some (.slice a L c)) (hc2 : w.cell? ⟨g, 2, none⟩ = some (.int .i64 i))
    (hf2 : w.frozen? ⟨g, 2, none⟩ = false)
    (hT : Calls Try.prog 11 #[.slice a L c, .int .i64 i] w.drew fun e w' => e = .returned (.tuple #[.int .i64 n, .int .i64 nx, .int .i64 0]) ∧ w.drew = w') :
    Calls Try.prog 24 #[.pointer (some ⟨g, 0, none⟩)] w fun e w' => e = .returned (.int .i64 n) ∧ w' = w.drew.setCell ⟨g, 2, none⟩ (.int .i64 nx) := by
  have HT : Hid (_) := hT
  clear hT
  go_enter Try.func24, Try.ntmps24
  go_wp2_with (go_at_call 36; refine (reads_yes g _ hc0).mono ?_; rintro e w' ⟨rfl, rfl⟩)
  go_region_with (go_at_call 11; refine Calls.mono HT.out ?_; rintro e w1 ⟨rfl, rfl⟩)
  all_goals
    go_wp2_with (go_at_call 37; refine (step_ok g i nx _ (by exact hc2) (by exact hf2)).mono ?_; rintro e w' ⟨rfl, rfl⟩)
    go_ret
    exact ⟨rfl, rfl⟩

set_option maxHeartbeats 1000000 in
set_option maxRecDepth 1000000 in
theorem xnum_err (g : Nat) (a : Option Addr) (L c : Nat) (i n nx er : Int) (w : World)
    (hc0 : w.cell? ⟨g, 0, none⟩ = some (.int .i64 0)) (hc1 : w.cell? ⟨g, 1, none⟩ = some (.slice a L c)) (hc2 : w.cell? ⟨g, 2, none⟩ = some (.int .i64 i))
    (hf0 : w.frozen? ⟨g, 0, none⟩ = false) (her : er ≠ 0)
    (hT : Calls Try.prog 11 #[.slice a L c, .int .i64 i] w.drew fun e w' => e = .returned (.tuple #[.int .i64 n, .int .i64 nx, .int .i64 er]) ∧ w.drew = w') :
    Calls Try.prog 24 #[.pointer (some ⟨g, 0, none⟩)] w fun e w' => e = .returned (.int .i64 n) ∧ w' = w.drew.setCell ⟨g, 0, none⟩ (.int .i64 er) := by
  have HT : Hid (_) := hT
  clear hT
  go_enter Try.func24, Try.ntmps24
  go_wp2_with (go_at_call 36; refine (reads_yes g _ hc0).mono ?_; rintro e w' ⟨rfl, rfl⟩)
  go_region_with (go_at_call 11; refine Calls.mono HT.out ?_; rintro e w1 ⟨rfl, rfl⟩)
  all_goals
    go_wp2_with (go_at_call 37; refine (step_err g 0 nx er _ (by exact hc0) (by exact hf0) her).mono ?_; rintro e w' ⟨rfl, rfl⟩)
    go_ret
    exact ⟨rfl, rfl⟩

theorem xnum_no (g : Nat) (er : Int) (w : World) (hc0 : w.cell? ⟨g, 0, none⟩ = some (.int .i64 er)) (her : er ≠ 0) :
    Calls Try.prog 24 #[.pointer (some ⟨g, 0, none⟩)] w fun e w' => e = .returned (.int .i64 0) ∧ w = w' := by
  go_enter Try.func24, Try.ntmps24
  go_wp2_with (go_at_call 36; refine (reads_no g er _ hc0 her).mono ?_; rintro e w' ⟨rfl, rfl⟩)
  go_ret
  exact ⟨rfl, rfl⟩

theorem xnum_nil (w : World) : Calls Try.prog 24 #[.pointer none] w fun e w' => e = .returned (.int .i64 0) ∧ w = w' := by
  go_enter Try.func24, Try.ntmps24
  go_wp2_with (go_at_call 36; refine (reads_nil _).mono ?_; rintro e w' ⟨rfl, rfl⟩)
  go_ret
  exact ⟨rfl, rfl⟩

set_option maxHeartbeats 1000000 in
set_option maxRecDepth 1000000 in
theorem xfix_ok (g : Nat) (a : Option Addr) (L c : Nat) (i W n nx : Int) (w : World)
    (hc0 : w.cell? ⟨g, 0, none⟩ = some (.int .i64 0)) (hc1 : w.cell? ⟨g, 1, none⟩ = some (.slice a L c)) (hc2 : w.cell? ⟨g, 2, none⟩ = some (.int .i64 i))
    (hf2 : w.frozen? ⟨g, 2, none⟩ = false)
    (hT : Calls Try.prog 16 #[.slice a L c, .int .i64 i, .int .i64 W] w.drew fun e w' => e = .returned (.tuple #[.int .i64 n, .int .i64 nx, .int .i64 0]) ∧ w.drew = w') :
    Calls Try.prog 26 #[.pointer (some ⟨g, 0, none⟩), .int .i64 W] w fun e w' => e = .returned (.int .i64 n) ∧ w' = w.drew.setCell ⟨g, 2, none⟩ (.int .i64 nx) := by
  have HT : Hid (_) := hT
  clear hT
  go_enter Try.func26, Try.ntmps26
  go_wp2_with (go_at_call 36; refine (reads_yes g _ hc0).mono ?_; rintro e w' ⟨rfl, rfl⟩)
  go_region_with (go_at_call 16; refine Calls.mono HT.out ?_; rintro e w1 ⟨rfl, rfl⟩)
  all_goals
    go_wp2_with (go_at_call 37; refine (step_ok g i nx _ (by exact hc2) (by exact hf2)).mono ?_; rintro e w' ⟨rfl, rfl⟩)
    go_ret
    exact ⟨rfl, rfl⟩

set_option maxHeartbeats 1000000 in
set_option maxRecDepth 1000000 in
theorem xfix_err (g : Nat) (a : Option Addr) (L c : Nat) (i W n nx er : Int) (w : World)
    (hc0 : w.cell? ⟨g, 0, none⟩ = some (.int .i64 0)) (hc1 : w.cell? ⟨g, 1, none⟩ = some (.slice a L c)) (hc2 : w.cell? ⟨g, 2, none⟩ = some (.int .i64 i))
    (hf0 : w.frozen? ⟨g, 0, none⟩ = false) (her : er ≠ 0)
    (hT : Calls Try.prog 16 #[.slice a L c, .int .i64 i, .int .i64 W] w.drew fun e w' => e = .returned (.tuple #[.int .i64 n, .int .i64 nx, .int .i64 er]) ∧ w.drew = w') :
    Calls Try.prog 26 #[.pointer (some ⟨g, 0, none⟩), .int .i64 W] w fun e w' => e = .returned (.int .i64 n) ∧ w' = w.drew.setCell ⟨g, 0, none⟩ (.int .i64 er) := by
  have HT : Hid (_) := hT
  clear hT
  go_enter Try.func26, Try.ntmps26
  go_wp2_with (go_at_call 36; refine (reads_yes g _ hc0).mono ?_; rintro e w' ⟨rfl, rfl⟩)
  go_region_with (go_at_call 16; refine Calls.mono HT.out ?_; rintro e w1 ⟨rfl, rfl⟩)
  all_goals
    go_wp2_with (go_at_call 37; refine (step_err g 0 nx er _ (by exact hc0) (by exact hf0) her).mono ?_; rintro e w' ⟨rfl, rfl⟩)
    go_ret
    exact ⟨rfl, rfl⟩

theorem xfix_no (g : Nat) (er W : Int) (w : World) (hc0 : w.cell? ⟨g, 0, none⟩ = some (.int .i64 er)) (her : er ≠ 0) :
    Calls Try.prog 26 #[.pointer (some ⟨g, 0, none⟩), .int .i64 W] w fun e w' => e = .returned (.int .i64 0) ∧ w = w' := by
  go_enter Try.func26, Try.ntmps26
  go_wp2_with (go_at_call 36; refine (reads_no g er _ hc0 her).mono ?_; rintro e w' ⟨rfl, rfl⟩)
  go_ret
  exact ⟨rfl, rfl⟩

theorem xfix_nil (W : Int) (w : World) : Calls Try.prog 26 #[.pointer none, .int .i64 W] w fun e w' => e = .returned (.int .i64 0) ∧ w = w' := by
  go_enter Try.func26, Try.ntmps26
  go_wp2_with (go_at_call 36; refine (reads_nil _).mono ?_; rintro e w' ⟨rfl, rfl⟩)
  go_ret
  exact ⟨rfl, rfl⟩
end Go.Proofs.Ythfikoghbnicoaa
