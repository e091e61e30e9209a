/- Contracts of the document's reader: Read, Text, End. -/
import Derived.Test.YthfikoghbnicoaaW11
namespace Go.Proofs.Ythfikoghbnicoaa
open Go.RowKit

set_option maxHeartbeats 1000000 in
set_option maxRecDepth 1000000 in
theorem yread_any (v : Value) (bs : List Int) (w : World) (hv : Bs w v bs) (hl : bs.length ≤ 140737488351232) :
    Calls Try.prog 23 #[v] w fun e w' => ∃ g a c, e = .returned (.pointer (some ⟨g, 0, none⟩)) ∧ w.heap.size ≤ g ∧ w'.heap[g]? = some (.cells #[.slice a bs.length c, .int .i64 0, .int .i64 0] 51 (0, 0)) ∧
      OwnB w' w.heap.size 5 (.slice a bs.length c) bs ∧ Below w.heap.size w w' := by
  have ho : OwnB (w.alloc (.cells #[] 5)) w.heap.size 5 (.slice (some ⟨w.heap.size, 0, none⟩) 0 0) [] := own_lit w 5 w.heap.size [] #[] rfl (Nat.le_refl _) (Nat.zero_le _)
  go_enter Try.func23, Try.ntmps23
  go_wp2_with (at_builtin; refine wp_appS (ys := bs) (xs := []) Try.bt rfl (.tmp 3) (.tmp 4) rfl rfl ho rfl (hv.alloc _) (by simp; omega) (by simp) ?_)
  intro v' w1 hown hb
  have hown' : OwnB w1 w.heap.size 5 v' bs := by simpa using hown
  have hb' : Below w.heap.size w w1 := ((Below.refl _ w).alloc (Nat.le_refl _) _).trans hb
  clear hown hb
  obtain ⟨a, c, rfl⟩ := hown'.slice
  go_wp2
  go_ret
  have hs := hb'.size
  exact ⟨w1.heap.size, a, c, rfl, hb'.size, heap_alloc_new w1 _, hown'.alloc _, hb'.alloc hs _⟩

theorem rtakeText_drew (v : Value) (bs : List Int) (i most : Int) (w : World) (hv : Bs w v bs) (hby : ∀ x ∈ bs, 0 ≤ x ∧ x < 256) (hl : bs.length ≤ 140737488355328) (t : List Int) (nx er : Int) (ht : tkText bs i most = (t, nx, er)) :
    Calls Try.prog 21 #[v, .int .i64 i, .int .i64 most] w.drew fun e w' => ∃ v', e = .returned (.tuple #[v', .int .i64 nx, .int .i64 er]) ∧ OwnB w' w.heap.size 5 v' t ∧ Below w.heap.size w w' := by
  refine (rtakeText_any v bs i most w.drew hv.drew hby hl).mono ?_
  rintro e w' ⟨v', rfl, h2, h3⟩
  rw [ht] at h2 ⊢
  exact ⟨v', rfl, h2, below_of_drew h3⟩

set_option maxHeartbeats 1000000 in
set_option maxRecDepth 1000000 in
theorem ytext_ok (g : Nat) (a : Option Addr) (L c : Nat) (t : List Int) (i most nx : Int) (w : World) (hg : g < w.heap.size)
    (hc0 : w.cell? ⟨g, 0, none⟩ = some (.slice a L c)) (hc1 : w.cell? ⟨g, 1, none⟩ = some (.int .i64 i)) (hc2 : w.cell? ⟨g, 2, none⟩ = some (.int .i64 0))
    (hf1 : w.frozen? ⟨g, 1, none⟩ = false) (hf2 : w.frozen? ⟨g, 2, none⟩ = false)
    (hT : Calls Try.prog 21 #[.slice a L c, .int .i64 i, .int .i64 most] w.drew fun e w' => ∃ v', e = .returned (.tuple #[v', .int .i64 nx, .int .i64 0]) ∧ OwnB w' w.heap.size 5 v' t ∧ Below w.heap.size w w') :
    Calls Try.prog 29 #[.pointer (some ⟨g, 0, none⟩), .int .i64 most] w fun e w' => ∃ v' w1, e = .returned v' ∧ OwnB w1 w.heap.size 5 v' t ∧ Below w.heap.size w w1 ∧ w' = (w1.setCell ⟨g, 2, none⟩ (.int .i64 0)).setCell ⟨g, 1, none⟩ (.int .i64 nx) := by
  have HT : Hid (_) := hT
  clear hT
  go_enter Try.func29, Try.ntmps29
  go_wp2
  go_region_with (go_at_call 21; refine Calls.mono HT.out ?_; rintro e w1 ⟨v', rfl, hown, hb⟩)
  all_goals
    have k1 := (kept_cells hb hg 1).1.trans hc1
    have k2 := (kept_cells hb hg 2).1.trans hc2
    have l1 := (kept_cells hb hg 1).2.trans hf1
    have l2 := (kept_cells hb hg 2).2.trans hf2
    go_wp2
    go_ret
    exact ⟨_, _, rfl, hown, hb, rfl⟩

set_option maxHeartbeats 1000000 in
set_option maxRecDepth 1000000 in
theorem ytext_err (g : Nat) (a : Option Addr) (L c : Nat) (t : List Int) (i most nx er : Int) (w : World) (hg : g < w.heap.size)
    (hc0 : w.cell? ⟨g, 0, none⟩ = some (.slice a L c)) (hc1 : w.cell? ⟨g, 1, none⟩ = some (.int .i64 i)) (hc2 : w.cell? ⟨g, 2, none⟩ = some (.int .i64 0))
    (hf2 : w.frozen? ⟨g, 2, none⟩ = false) (her : (er == 0) = false)
    (hT : Calls Try.prog 21 #[.slice a L c, .int .i64 i, .int .i64 most] w.drew fun e w' => ∃ v', e = .returned (.tuple #[v', .int .i64 nx, .int .i64 er]) ∧ OwnB w' w.heap.size 5 v' t ∧ Below w.heap.size w w') :
    Calls Try.prog 29 #[.pointer (some ⟨g, 0, none⟩), .int .i64 most] w fun e w' => ∃ v' w1, e = .returned v' ∧ OwnB w1 w.heap.size 5 v' t ∧ Below w.heap.size w w1 ∧ w' = w1.setCell ⟨g, 2, none⟩ (.int .i64 er) := by
  have HT : Hid (_) := hT
  clear hT
  go_enter Try.func29, Try.ntmps29
  go_wp2
  go_region_with (go_at_call 21; refine Calls.mono HT.out ?_; rintro e w1 ⟨v', rfl, hown, hb⟩)
  all_goals
    have k2 := (kept_cells hb hg 2).1.trans hc2
    have l2 := (kept_cells hb hg 2).2.trans hf2
    go_wp2
    go_ret
    exact ⟨_, _, rfl, hown, hb, rfl⟩

theorem ytext_no (g : Nat) (er most : Int) (w : World) (hc2 : w.cell? ⟨g, 2, none⟩ = some (.int .i64 er)) (her : (er != 0) = true) :
    Calls Try.prog 29 #[.pointer (some ⟨g, 0, none⟩), .int .i64 most] w fun e w' => e = .returned (.slice none 0 0) ∧ w = w' := by
  go_enter Try.func29, Try.ntmps29
  go_wp2
  go_ret
  exact ⟨rfl, rfl⟩

set_option maxHeartbeats 1000000 in
theorem yend_fault (g : Nat) (er : Int) (w : World) (hc2 : w.cell? ⟨g, 2, none⟩ = some (.int .i64 er)) (her : (er == 0) = false) :
    Calls Try.prog 31 #[.pointer (some ⟨g, 0, none⟩)] w fun e w' => e = .returned (.int .i64 er) ∧ Below w.heap.size w w' := by
  go_enter Try.func31, Try.ntmps31
  go_wp2
  go_region
  all_goals
    go_wp2
    go_ret
    exact ⟨rfl, (Below.refl _ _).drew⟩

set_option maxHeartbeats 1000000 in
theorem yend_left (g : Nat) (a : Option Addr) (L c : Nat) (i : Int) (w : World) (hc0 : w.cell? ⟨g, 0, none⟩ = some (.slice a L c)) (hc1 : w.cell? ⟨g, 1, none⟩ = some (.int .i64 i)) (hc2 : w.cell? ⟨g, 2, none⟩ = some (.int .i64 0)) (hi : i < L) :
    Calls Try.prog 31 #[.pointer (some ⟨g, 0, none⟩)] w fun e w' => e = .returned (.int .i64 4) ∧ Below w.heap.size w w' := by
  go_enter Try.func31, Try.ntmps31
  go_wp2
  go_region
  all_goals
    go_wp2
    go_ret
    exact ⟨rfl, (Below.refl _ _).drew⟩

set_option maxHeartbeats 1000000 in
theorem yend_ok (g : Nat) (a : Option Addr) (L c : Nat) (i : Int) (w : World) (hc0 : w.cell? ⟨g, 0, none⟩ = some (.slice a L c)) (hc1 : w.cell? ⟨g, 1, none⟩ = some (.int .i64 i)) (hc2 : w.cell? ⟨g, 2, none⟩ = some (.int .i64 0)) (hi : ¬ i < L) :
    Calls Try.prog 31 #[.pointer (some ⟨g, 0, none⟩)] w fun e w' => e = .returned (.int .i64 0) ∧ Below w.heap.size w w' := by
  go_enter Try.func31, Try.ntmps31
  go_wp2
  go_region
  all_goals
    go_wp2
    go_ret
    exact ⟨rfl, (Below.refl _ _).drew⟩
end Go.Proofs.Ythfikoghbnicoaa
