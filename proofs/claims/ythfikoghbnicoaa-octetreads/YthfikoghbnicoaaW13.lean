/- Contracts of the document's reader's Num and Fixed, at their cells. -/
import Derived.Test.YthfikoghbnicoaaW11
namespace Go.Proofs.Ythfikoghbnicoaa
open Go.RowKit

set_option maxHeartbeats 1000000 in
set_option maxRecDepth 1000000 in
theorem ynum_ok (g : Nat) (a : Option Addr) (L c : Nat) (i n nx : Int) (w : World)
    (hc0 : w.cell? ⟨g, 0, none⟩ = some (.slice a L c)) (hc1 : w.cell? ⟨g, 1, none⟩ = some (.int .i64 i)) (hc2 : w.cell? ⟨g, 2, none⟩ = some (.int .i64 0))
    (hf1 : w.frozen? ⟨g, 1, none⟩ = false) (hf2 : w.frozen? ⟨g, 2, none⟩ = false)
    (hT : Calls Try.prog 12 #[.slice a L c, .int .i64 i] w.drew fun e w' => e = .returned (.tuple #[.int .i64 n, .int .i64 nx, .int .i64 0]) ∧ w.drew = w') :
    Calls Try.prog 25 #[.pointer (some ⟨g, 0, none⟩)] w fun e w' => e = .returned (.int .i64 n) ∧ w' = (w.drew.setCell ⟨g, 2, none⟩ (.int .i64 0)).setCell ⟨g, 1, none⟩ (.int .i64 nx) := by
  have HT : Hid (_) := hT
  clear hT
  go_enter Try.func25, Try.ntmps25
  go_wp2
  go_region_with (go_at_call 12; refine Calls.mono HT.out ?_; rintro e w1 ⟨rfl, rfl⟩)
  all_goals
    go_wp2
    go_ret
    exact ⟨rfl, rfl⟩

set_option maxHeartbeats 1000000 in
set_option maxRecDepth 1000000 in
theorem ynum_err (g : Nat) (a : Option Addr) (L c : Nat) (i n nx er : Int) (w : World)
    (hc0 : w.cell? ⟨g, 0, none⟩ = some (.slice a L c)) (hc1 : w.cell? ⟨g, 1, none⟩ = some (.int .i64 i)) (hc2 : w.cell? ⟨g, 2, none⟩ = some (.int .i64 0))
    (hf2 : w.frozen? ⟨g, 2, none⟩ = false) (her : (er == 0) = false)
    (hT : Calls Try.prog 12 #[.slice a L c, .int .i64 i] w.drew fun e w' => e = .returned (.tuple #[.int .i64 n, .int .i64 nx, .int .i64 er]) ∧ w.drew = w') :
    Calls Try.prog 25 #[.pointer (some ⟨g, 0, none⟩)] w fun e w' => e = .returned (.int .i64 n) ∧ w' = w.drew.setCell ⟨g, 2, none⟩ (.int .i64 er) := by
  have HT : Hid (_) := hT
  clear hT
  go_enter Try.func25, Try.ntmps25
  go_wp2
  go_region_with (go_at_call 12; refine Calls.mono HT.out ?_; rintro e w1 ⟨rfl, rfl⟩)
  all_goals
    go_wp2
    go_ret
    exact ⟨rfl, rfl⟩

theorem ynum_no (g : Nat) (er : Int) (w : World) (hc2 : w.cell? ⟨g, 2, none⟩ = some (.int .i64 er)) (her : (er != 0) = true) :
    Calls Try.prog 25 #[.pointer (some ⟨g, 0, none⟩)] w fun e w' => e = .returned (.int .i64 0) ∧ w = w' := by
  go_enter Try.func25, Try.ntmps25
  go_wp2
  go_ret
  exact ⟨rfl, rfl⟩

set_option maxHeartbeats 1000000 in
set_option maxRecDepth 1000000 in
theorem yfix_ok (g : Nat) (a : Option Addr) (L c : Nat) (i W n nx : Int) (w : World)
    (hc0 : w.cell? ⟨g, 0, none⟩ = some (.slice a L c)) (hc1 : w.cell? ⟨g, 1, none⟩ = some (.int .i64 i)) (hc2 : w.cell? ⟨g, 2, none⟩ = some (.int .i64 0))
    (hf1 : w.frozen? ⟨g, 1, none⟩ = false) (hf2 : w.frozen? ⟨g, 2, none⟩ = false)
    (hT : Calls Try.prog 17 #[.slice a L c, .int .i64 i, .int .i64 W] w.drew fun e w' => e = .returned (.tuple #[.int .i64 n, .int .i64 nx, .int .i64 0]) ∧ w.drew = w') :
    Calls Try.prog 27 #[.pointer (some ⟨g, 0, none⟩), .int .i64 W] w fun e w' => e = .returned (.int .i64 n) ∧ w' = (w.drew.setCell ⟨g, 2, none⟩ (.int .i64 0)).setCell ⟨g, 1, none⟩ (.int .i64 nx) := by
  have HT : Hid (_) := hT
  clear hT
  go_enter Try.func27, Try.ntmps27
  go_wp2
  go_region_with (go_at_call 17; refine Calls.mono HT.out ?_; rintro e w1 ⟨rfl, rfl⟩)
  all_goals
    go_wp2
    go_ret
    exact ⟨rfl, rfl⟩

set_option maxHeartbeats 1000000 in
set_option maxRecDepth 1000000 in
theorem yfix_err (g : Nat) (a : Option Addr) (L c : Nat) (i W n nx er : Int) (w : World)
    (hc0 : w.cell? ⟨g, 0, none⟩ = some (.slice a L c)) (hc1 : w.cell? ⟨g, 1, none⟩ = some (.int .i64 i)) (hc2 : w.cell? ⟨g, 2, none⟩ = some (.int .i64 0))
    (hf2 : w.frozen? ⟨g, 2, none⟩ = false) (her : (er == 0) = false)
    (hT : Calls Try.prog 17 #[.slice a L c, .int .i64 i, .int .i64 W] w.drew fun e w' => e = .returned (.tuple #[.int .i64 n, .int .i64 nx, .int .i64 er]) ∧ w.drew = w') :
    Calls Try.prog 27 #[.pointer (some ⟨g, 0, none⟩), .int .i64 W] w fun e w' => e = .returned (.int .i64 n) ∧ w' = w.drew.setCell ⟨g, 2, none⟩ (.int .i64 er) := by
  have HT : Hid (_) := hT
  clear hT
  go_enter Try.func27, Try.ntmps27
  go_wp2
  go_region_with (go_at_call 17; refine Calls.mono HT.out ?_; rintro e w1 ⟨rfl, rfl⟩)
  all_goals
    go_wp2
    go_ret
    exact ⟨rfl, rfl⟩

theorem yfix_no (g : Nat) (er W : Int) (w : World) (hc2 : w.cell? ⟨g, 2, none⟩ = some (.int .i64 er)) (her : (er != 0) = true) :
    Calls Try.prog 27 #[.pointer (some ⟨g, 0, none⟩), .int .i64 W] w fun e w' => e = .returned (.int .i64 0) ∧ w = w' := by
  go_enter Try.func27, Try.ntmps27
  go_wp2
  go_ret
  exact ⟨rfl, rfl⟩
end Go.Proofs.Ythfikoghbnicoaa
