/- Contracts of the reader's End and At, and that the package lives. -/
import Derived.Test.YthfikoghbnicoaaW6
namespace Go.Proofs.Ythfikoghbnicoaa
open Go.RowKit

theorem below_of_drew {B : Nat} {w w' : World} (h : Below B w.drew w') : Below B w w' := ⟨h.os, h.tape, h.output, h.size, h.block⟩

/-- TakeText in a world behind a draw. -/
theorem takeText_drew (v : Value) (bs : List Int) (i most : Int) (w : World) (hv : Bs w v bs) (hby : ∀ x ∈ bs, 0 ≤ x ∧ x < 256) (hl : bs.length ≤ 140737488355328) (t : List Int) (nx er : Int) (ht : tkText bs i most = (t, nx, er)) :
    Calls Try.prog 20 #[v, .int .i64 i, .int .i64 most] w.drew fun e w' => ∃ v', e = .returned (.tuple #[v', .int .i64 nx, .int .i64 er]) ∧ OwnB w' w.heap.size 5 v' t ∧ Below w.heap.size w w' := by
  refine (takeText_any v bs i most w.drew hv.drew hby hl).mono ?_
  rintro e w' ⟨v', rfl, h2, h3⟩
  rw [ht] at h2 ⊢
  exact ⟨v', rfl, h2, below_of_drew h3⟩

theorem end_fault (g : Nat) (er : Int) (w : World) (hc0 : w.cell? ⟨g, 0, none⟩ = some (.int .i64 er)) (her : er ≠ 0) :
    Calls Try.prog 30 #[.pointer (some ⟨g, 0, none⟩)] w fun e w' => e = .returned (.int .i64 er) ∧ Below w.heap.size w w' := by
  have h : (er != 0) = true := by simpa using her
  go_enter Try.func30, Try.ntmps30
  go_wp2
  go_ret
  exact ⟨rfl, Below.refl _ _⟩

theorem end_left (g : Nat) (a : Option Addr) (L c : Nat) (i : Int) (w : World) (hc0 : w.cell? ⟨g, 0, none⟩ = some (.int .i64 0)) (hc1 : w.cell? ⟨g, 1, none⟩ = some (.slice a L c)) (hc2 : w.cell? ⟨g, 2, none⟩ = some (.int .i64 i)) (hi : i < L) :
    Calls Try.prog 30 #[.pointer (some ⟨g, 0, none⟩)] w fun e w' => e = .returned (.int .i64 4) ∧ Below w.heap.size w w' := by
  go_enter Try.func30, Try.ntmps30
  go_wp2
  go_region
  all_goals
    go_wp2
    go_ret
    exact ⟨rfl, (Below.refl _ _).drew⟩

theorem end_ok (g : Nat) (a : Option Addr) (L c : Nat) (i : Int) (w : World) (hc0 : w.cell? ⟨g, 0, none⟩ = some (.int .i64 0)) (hc1 : w.cell? ⟨g, 1, none⟩ = some (.slice a L c)) (hc2 : w.cell? ⟨g, 2, none⟩ = some (.int .i64 i)) (hi : ¬ i < L) :
    Calls Try.prog 30 #[.pointer (some ⟨g, 0, none⟩)] w fun e w' => e = .returned (.int .i64 0) ∧ Below w.heap.size w w' := by
  go_enter Try.func30, Try.ntmps30
  go_wp2
  go_region
  all_goals
    go_wp2
    go_ret
    exact ⟨rfl, (Below.refl _ _).drew⟩

theorem end_nil (w : World) : Calls Try.prog 30 #[.pointer none] w fun e w' => e = .returned (.int .i64 1) ∧ Below w.heap.size w w' := by
  go_enter Try.func30, Try.ntmps30
  go_wp2
  go_ret
  exact ⟨rfl, Below.refl _ _⟩

theorem at_any (g : Nat) (i : Int) (w : World) (hc2 : w.cell? ⟨g, 2, none⟩ = some (.int .i64 i)) :
    Calls Try.prog 32 #[.pointer (some ⟨g, 0, none⟩)] w fun e w' => e = .returned (.int .i64 i) ∧ w = w' := by
  go_enter Try.func32, Try.ntmps32
  go_wp2
  go_ret
  exact ⟨rfl, rfl⟩

theorem at_nil (w : World) : Calls Try.prog 32 #[.pointer none] w fun e w' => e = .returned (.int .i64 0) ∧ w = w' := by
  go_enter Try.func32, Try.ntmps32
  go_wp2
  go_ret
  exact ⟨rfl, rfl⟩

set_option maxHeartbeats 4000000 in
set_option maxRecDepth 1000000 in
theorem live_any (w : World) : Calls Try.prog 13 #[] w fun e w' => e = .returned (.bool true) ∧ Below w.heap.size w w' := by
  go_enter Try.func13, Try.ntmps13
  go_wp2_with fail
  refine (num_good 300 w (by decide)).mono ?_
  rintro e w1 ⟨v1, rfl, hown1, hb1⟩
  have e300 : numB 300 = [172, 2] := by rw [numB_big 300 (by decide), numB_small _ (by decide)]; rfl
  rw [e300] at hown1
  clear e300
  go_wp2_with fail
  refine (takeNum_any v1 [172, 2] 0 w1 hown1.bs (by decide)).mono ?_
  rintro e w2 ⟨rfl, rfl⟩
  have et : tkNum [172, 2] 0 = (300, 2, 0) := by decide
  rw [et]
  clear et
  go_wp2_with fail
  refine (fixed_good 258 3 w1 (by decide) (by decide) (by decide) (by decide)).mono ?_
  rintro e w2 ⟨v2, rfl, hown2, hb2⟩
  have ef : fixB 258 3 = [0, 1, 2] := by decide
  rw [ef] at hown2
  clear ef
  go_wp2_with fail
  have hlit := own_lit w2 5 w2.heap.size [2, 7, 8] #[.int .u8 2, .int .u8 7, .int .u8 8] rfl (Nat.le_refl _) (by decide)
  refine (read_any _ [2, 7, 8] _ hlit.bs (by decide)).mono ?_
  rintro e w3 ⟨g, a, c, rfl, hg, hh, hown3, hb3⟩
  have hgl : g < w3.heap.size := (Array.getElem?_eq_some_iff.1 hh).1
  have c0 : w3.cell? ⟨g, 0, none⟩ = some (.int .i64 0) := by simp [World.cell?, hh]
  have c1 : w3.cell? ⟨g, 1, none⟩ = some (.slice a 3 c) := by simp [World.cell?, hh]
  have c2 : w3.cell? ⟨g, 2, none⟩ = some (.int .i64 0) := by simp [World.cell?, hh]
  have f0 : w3.frozen? ⟨g, 0, none⟩ = false := by simp [World.frozen?, hh]
  have f2 : w3.frozen? ⟨g, 2, none⟩ = false := by simp [World.frozen?, hh]
  have hT := takeText_drew (.slice a 3 c) [2, 7, 8] 0 9 w3 hown3.bs (by decide) (by decide) [7, 8] 3 0 (by decide)
  have HT : Hid _ := hT
  clear hT hh
  go_wp2_with fail
  refine (rtext_ok g a 3 c [7, 8] 0 9 3 w3 hgl c0 c1 c2 f2 HT.out).mono ?_
  rintro e w5 ⟨v3, w4, rfl, hown4, hb4, hw5⟩
  have z1 := hb1.size
  have z2 := hb2.size
  have z3 := hb3.size
  simp only [World.size_alloc] at z3 hg
  have b2 : Below w2.heap.size w2 w3 := ((Below.refl _ w2).alloc (Nat.le_refl _) _).trans (hb3.mono (by simp))
  have b5 : Below g w4 w5 := by rw [hw5]; exact (Below.refl _ _).setCell (p := ⟨g, 2, none⟩) (Nat.le_refl _) _
  have b15 : Below w1.heap.size w1 w5 := (hb2.trans (b2.mono z2)).trans ((hb4.mono (by omega)).trans (b5.mono (by omega)))
  have b25 : Below w2.heap.size w2 w5 := b2.trans ((hb4.mono (by omega)).trans (b5.mono (by omega)))
  have hown5 : OwnB w5 w3.heap.size 5 v3 [7, 8] := by rw [hw5]; exact ownsRow_setCell_below hown4 (by simpa using hgl) _
  have s1 := run_str Try.bt (hown1.bs.below b15) 9 Try.underlying9
  have s2 := run_str Try.bt (hown2.bs.below b25) 9 Try.underlying9
  have s3 := run_str Try.bt hown5.bs 9 Try.underlying9
  have q0 : w5.cell? ⟨g, 0, none⟩ = some (.int .i64 0) := by rw [hw5, World.cell?_setCell_other _ _ _ _ (by simp), (kept_cells hb4 hgl 0).1]; exact c0
  have q1 : w5.cell? ⟨g, 1, none⟩ = some (.slice a 3 c) := by rw [hw5, World.cell?_setCell_other _ _ _ _ (by simp), (kept_cells hb4 hgl 1).1]; exact c1
  have q2 : w5.cell? ⟨g, 2, none⟩ = some (.int .i64 3) := by rw [hw5]; exact World.cell?_setCell_same _ _ _ ((kept_cells hb4 hgl 2).1.trans c2)
  have bw : Below w.heap.size w w5 := hb1.trans (b15.mono z1)
  have t1 : strOfNums [172, 2] = ⟨#[172, 2]⟩ := by rfl
  have t2 : strOfNums [0, 1, 2] = ⟨#[0, 1, 2]⟩ := by rfl
  have t3 : strOfNums [7, 8] = ⟨#[7, 8]⟩ := by rfl
  rw [t1] at s1
  rw [t2] at s2
  rw [t3] at s3
  clear hw5 t1 t2 t3 b15 b25 b5 b2 c0 c1 c2 f0 f2 hown1 hown2 hown3 hown4 hown5 hb1 hb2 hb3 hb4 HT hlit hg hgl z1 z2 z3
  go_wp2_with fail
  refine (end_ok g a 3 c 3 w5 q0 q1 q2 (by decide)).mono ?_
  rintro e w6 ⟨rfl, hb6⟩
  have hgl : g < w5.heap.size := World.block_lt_of_cell? w5 _ q2
  have q6 : w6.cell? ⟨g, 2, none⟩ = some (.int .i64 3) := (kept_cells hb6 hgl 2).1.trans q2
  go_wp2_with fail
  refine (at_any g 3 w6 q6).mono ?_
  rintro e w7 ⟨rfl, rfl⟩
  go_wp2
  go_ret
  exact ⟨rfl, bw.trans (hb6.mono bw.size)⟩
end Go.Proofs.Ythfikoghbnicoaa
