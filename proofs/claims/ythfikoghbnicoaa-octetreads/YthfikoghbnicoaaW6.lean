/- Contracts of the reader: its steps. -/
import Derived.Test.YthfikoghbnicoaaW5
import Derived.BigQuiet
import Derived.Deep.QuietTactic
import Derived.Deep.RegionWith
namespace Go.Proofs.Ythfikoghbnicoaa
open Go.RowKit

theorem OwnB.slice {w : World} {base : Nat} {e : TypeId} {v : Value} {bs : List Int} (h : OwnB w base e v bs) : ∃ a c, v = .slice a bs.length c := by
  obtain ⟨a, c, h, _⟩ := h.bs
  exact ⟨a, c, h⟩

theorem Bs.drew {w : World} {v : Value} {bs : List Int} (h : Bs w v bs) : Bs w.drew v bs := h

set_option maxHeartbeats 1000000 in
set_option maxRecDepth 1000000 in
theorem read_any (v : Value) (bs : List Int) (w : World) (hv : Bs w v bs) (hl : bs.length ≤ 140737488355328) :
    Calls Try.prog 22 #[v] w fun e w' => ∃ g a c, e = .returned (.pointer (some ⟨g, 0, none⟩)) ∧ w.heap.size ≤ g ∧ w'.heap[g]? = some (.cells #[.int .i64 0, .slice a bs.length c, .int .i64 0] 61 (0, 0)) ∧
      OwnB w' w.heap.size 5 (.slice a bs.length c) bs ∧ Below w.heap.size w w' := by
  go_enter Try.func22, Try.ntmps22
  go_wp2_with fail
  refine (fresh_any _ _ _ hv hl).mono ?_
  rintro e w1 ⟨v', rfl, hown, hb⟩
  obtain ⟨a, c, rfl⟩ := hown.slice
  go_wp2
  go_ret
  have hs := hb.size
  exact ⟨w1.heap.size, a, c, rfl, hb.size, heap_alloc_new w1 _, hown.alloc _, hb.alloc hs _⟩

theorem reads_yes (g : Nat) (w : World) (hc0 : w.cell? ⟨g, 0, none⟩ = some (.int .i64 0)) :
    Calls Try.prog 36 #[.pointer (some ⟨g, 0, none⟩)] w fun e w' => e = .returned (.bool true) ∧ w = w' := by
  go_enter Try.func36, Try.ntmps36
  go_wp2
  go_ret
  exact ⟨rfl, rfl⟩

theorem reads_no (g : Nat) (er : Int) (w : World) (hc0 : w.cell? ⟨g, 0, none⟩ = some (.int .i64 er)) (her : er ≠ 0) :
    Calls Try.prog 36 #[.pointer (some ⟨g, 0, none⟩)] w fun e w' => e = .returned (.bool false) ∧ w = w' := by
  have h : (er != 0) = true := by simpa using her
  go_enter Try.func36, Try.ntmps36
  go_wp2
  go_ret
  exact ⟨rfl, rfl⟩

theorem reads_nil (w : World) : Calls Try.prog 36 #[.pointer none] w fun e w' => e = .returned (.bool false) ∧ w = w' := by
  go_enter Try.func36, Try.ntmps36
  go_wp2
  go_ret
  exact ⟨rfl, rfl⟩

theorem step_ok (g : Nat) (i nx : Int) (w : World) (hc2 : w.cell? ⟨g, 2, none⟩ = some (.int .i64 i)) (hf2 : w.frozen? ⟨g, 2, none⟩ = false) :
    Calls Try.prog 37 #[.pointer (some ⟨g, 0, none⟩), .int .i64 nx, .int .i64 0] w fun e w' => e = .returned (.tuple #[]) ∧ w' = w.setCell ⟨g, 2, none⟩ (.int .i64 nx) := by
  go_enter Try.func37, Try.ntmps37
  go_wp2
  go_end0
  exact ⟨rfl, rfl⟩

theorem fail_any (g : Nat) (e0 er : Int) (w : World) (hc0 : w.cell? ⟨g, 0, none⟩ = some (.int .i64 e0)) (hf0 : w.frozen? ⟨g, 0, none⟩ = false) :
    Calls Try.prog 39 #[.pointer (some ⟨g, 0, none⟩), .int .i64 er] w fun e w' => e = .returned (.tuple #[]) ∧ w' = w.setCell ⟨g, 0, none⟩ (.int .i64 er) := by
  go_enter Try.func39, Try.ntmps39
  go_wp2
  go_end0
  exact ⟨rfl, rfl⟩

theorem step_err (g : Nat) (e0 nx er : Int) (w : World) (hc0 : w.cell? ⟨g, 0, none⟩ = some (.int .i64 e0)) (hf0 : w.frozen? ⟨g, 0, none⟩ = false) (her : er ≠ 0) :
    Calls Try.prog 37 #[.pointer (some ⟨g, 0, none⟩), .int .i64 nx, .int .i64 er] w fun e w' => e = .returned (.tuple #[]) ∧ w' = w.setCell ⟨g, 0, none⟩ (.int .i64 er) := by
  have h : (er != 0) = true := by simpa using her
  go_enter Try.func37, Try.ntmps37
  go_wp2_with fail
  refine (fail_any g e0 er w hc0 hf0).mono ?_
  rintro e w' ⟨rfl, rfl⟩
  go_wp2
  exact bodyPost_ret (v := .tuple #[]) (by simp [results, Try.results37, go_sem]) rfl ⟨rfl, rfl⟩

/-- What a world behind a call keeps of a reader's cells. -/
theorem kept_cells {w w1 : World} {g : Nat} (hb : Below w.heap.size w w1) (hg : g < w.heap.size) (j : Nat) : w1.cell? ⟨g, j, none⟩ = w.cell? ⟨g, j, none⟩ ∧ w1.frozen? ⟨g, j, none⟩ = w.frozen? ⟨g, j, none⟩ :=
  ⟨hb.cell (p := ⟨g, j, none⟩) hg, hb.frozen (p := ⟨g, j, none⟩) hg⟩

set_option maxHeartbeats 1000000 in
set_option maxRecDepth 1000000 in
theorem rtext_ok (g : Nat) (a : Option Addr) (L c : Nat) (t : List Int) (i most nx : Int) (w : World) (hg : g < w.heap.size)
    (hc0 : w.cell? ⟨g, 0, none⟩ = some (.int .i64 0)) (hc1 : w.cell? ⟨g, 1, none⟩ = some (.slice a L c)) (hc2 : w.cell? ⟨g, 2, none⟩ = some (.int .i64 i))
    (hf2 : w.frozen? ⟨g, 2, none⟩ = false)
    (hT : Calls Try.prog 20 #[.slice a L c, .int .i64 i, .int .i64 most] w.drew fun e w' => ∃ v', e = .returned (.tuple #[v', .int .i64 nx, .int .i64 0]) ∧ OwnB w' w.heap.size 5 v' t ∧ Below w.heap.size w w') :
    Calls Try.prog 28 #[.pointer (some ⟨g, 0, none⟩), .int .i64 most] w fun e w' => ∃ v' w1, e = .returned v' ∧ OwnB w1 w.heap.size 5 v' t ∧ Below w.heap.size w w1 ∧ w' = w1.setCell ⟨g, 2, none⟩ (.int .i64 nx) := by
  have HT : Hid (_) := hT
  clear hT
  go_enter Try.func28, Try.ntmps28
  go_wp2_with (go_at_call 36; refine (reads_yes g _ hc0).mono ?_; rintro e w' ⟨rfl, rfl⟩)
  go_region_with (go_at_call 20; refine Calls.mono HT.out ?_; rintro e w1 ⟨v', rfl, hown, hb⟩)
  all_goals
    have k2 := kept_cells hb hg 2
    go_wp2_with (go_at_call 37; refine (step_ok g i nx _ (k2.1.trans hc2) (k2.2.trans hf2)).mono ?_; rintro e w' ⟨rfl, rfl⟩)
    go_ret
    exact ⟨_, _, rfl, hown, hb, rfl⟩

set_option maxHeartbeats 1000000 in
set_option maxRecDepth 1000000 in
theorem rtext_err (g : Nat) (a : Option Addr) (L c : Nat) (t : List Int) (i most nx er : Int) (w : World) (hg : g < w.heap.size)
    (hc0 : w.cell? ⟨g, 0, none⟩ = some (.int .i64 0)) (hc1 : w.cell? ⟨g, 1, none⟩ = some (.slice a L c)) (hc2 : w.cell? ⟨g, 2, none⟩ = some (.int .i64 i))
    (hf0 : w.frozen? ⟨g, 0, none⟩ = false) (her : er ≠ 0)
    (hT : Calls Try.prog 20 #[.slice a L c, .int .i64 i, .int .i64 most] w.drew fun e w' => ∃ v', e = .returned (.tuple #[v', .int .i64 nx, .int .i64 er]) ∧ OwnB w' w.heap.size 5 v' t ∧ Below w.heap.size w w') :
    Calls Try.prog 28 #[.pointer (some ⟨g, 0, none⟩), .int .i64 most] w fun e w' => ∃ v' w1, e = .returned v' ∧ OwnB w1 w.heap.size 5 v' t ∧ Below w.heap.size w w1 ∧ w' = w1.setCell ⟨g, 0, none⟩ (.int .i64 er) := by
  have HT : Hid (_) := hT
  clear hT
  go_enter Try.func28, Try.ntmps28
  go_wp2_with (go_at_call 36; refine (reads_yes g _ hc0).mono ?_; rintro e w' ⟨rfl, rfl⟩)
  go_region_with (go_at_call 20; refine Calls.mono HT.out ?_; rintro e w1 ⟨v', rfl, hown, hb⟩)
  all_goals
    have k0 := kept_cells hb hg 0
    go_wp2_with (go_at_call 37; refine (step_err g 0 nx er _ (k0.1.trans hc0) (k0.2.trans hf0) her).mono ?_; rintro e w' ⟨rfl, rfl⟩)
    go_ret
    exact ⟨_, _, rfl, hown, hb, rfl⟩

theorem rtext_no (g : Nat) (most er : Int) (w : World) (hc0 : w.cell? ⟨g, 0, none⟩ = some (.int .i64 er)) (her : er ≠ 0) :
    Calls Try.prog 28 #[.pointer (some ⟨g, 0, none⟩), .int .i64 most] w fun e w' => e = .returned (.slice none 0 0) ∧ w = w' := by
  go_enter Try.func28, Try.ntmps28
  go_wp2_with (go_at_call 36; refine (reads_no g er _ hc0 her).mono ?_; rintro e w' ⟨rfl, rfl⟩)
  go_ret
  exact ⟨rfl, rfl⟩

theorem rtext_nil (most : Int) (w : World) : Calls Try.prog 28 #[.pointer none, .int .i64 most] w fun e w' => e = .returned (.slice none 0 0) ∧ w = w' := by
  go_enter Try.func28, Try.ntmps28
  go_wp2_with (go_at_call 36; refine (reads_nil _).mono ?_; rintro e w' ⟨rfl, rfl⟩)
  go_ret
  exact ⟨rfl, rfl⟩
end Go.Proofs.Ythfikoghbnicoaa
