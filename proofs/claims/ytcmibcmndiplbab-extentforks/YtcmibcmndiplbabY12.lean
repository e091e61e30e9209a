/- Package extent's Take and Claim, whole. -/
import Derived.Test.YtcmibcmndiplbabY11
import Derived.Test.YtcmibcmndiplbabX13
namespace Go.Proofs.Ytcmibcmndiplbab
open Go.RowKit Go.Lib Go.Shelf

theorem Maps.of_below {w w1 w2 : World} {p : Nat} {A B : Int} {base b : Nat} {l : List (Int × Int)} (hb : Below w.heap.size w w1) (hbs : base ≤ w.heap.size) (h : Maps w1 p A B base b l w2) : Maps w p A B base b l w2 := by
  obtain ⟨⟨b', cap', hM, hd⟩, hB, hK⟩ := h
  refine ⟨⟨b', cap', hM, ?_⟩, (hb.mono hbs).trans hB, fun k hk h1 h2 => (hK k (Nat.lt_of_lt_of_le hk hb.size) h1 h2).trans (hb.block k hk)⟩
  rcases hd with h | h
  · exact .inl h
  · exact .inr (Nat.le_trans hb.size h)

theorem take_arg (p : Nat) (n : Int) (w : World) (hn : n < 1) : Calls Try.prog 14 #[.pointer (some ⟨p, 0, none⟩), .int .i64 n] w fun e w' => e = .returned (.tuple #[.int .i64 0, .int .i64 2]) ∧ Below w.heap.size w w' := by
  go_enter Try.func14, Try.ntmps14
  go_wp2
  go_ret2
  exact ⟨rfl, (Below.refl _ w).alloc (Nat.le_refl _) _⟩
theorem take_nil (n : Int) (w : World) : Calls Try.prog 14 #[.pointer none, .int .i64 n] w fun e w' => e = .returned (.tuple #[.int .i64 0, .int .i64 1]) ∧ Below w.heap.size w w' := by
  go_enter Try.func14, Try.ntmps14
  go_wp2
  go_ret2
  exact ⟨rfl, (Below.refl _ w).alloc (Nat.le_refl _) _⟩

set_option maxHeartbeats 2000000 in
/-- The first n of the first run that fits. -/
theorem take_ok (A B n : Int) (p b cap base i : Nat) (l : List (Int × Int)) (w : World) (h : MapAt w p A B base b cap l) (hF : Fine l) (hbs : base ≤ w.heap.size) (hn : 1 ≤ n) (hil : i < l.length) (h5 : l.length ≤ 99000) (hi : idx (fun x => decide (n ≤ wrap64 (x.2 - x.1))) l = i) (hfit : n ≤ siz (l.getD i default)) :
    Calls Try.prog 14 #[.pointer (some ⟨p, 0, none⟩), .int .i64 n] w fun e w' => e = .returned (.tuple #[.int .i64 (l.getD i default).1, .int .i64 0]) ∧ Maps w p A B base b (l.take i ++ ne2 ((l.getD i default).1, (l.getD i default).1) ((l.getD i default).1 + n, (l.getD i default).2) ++ l.drop (i + 1)) w' := by
  have hpl : p < w.heap.size := (Array.getElem?_eq_some_iff.1 h.row).1
  have np : p ≠ w.heap.size := by omega
  have hw : Below w.heap.size w (w.alloc (.cells #[.int .i64 n] 3)) := (Below.refl _ w).alloc (Nat.le_refl _) _
  have hcon := index_any 29 #[] #[.pointer (some ⟨w.heap.size, 0, none⟩)] _ (enters_of Try.func29 (by kernel_rfl) rfl) b cap l (w.alloc (.cells #[.int .i64 n] 3)) ((h.below hw).spAt) (pred_fit n w.heap.size _ (by simp) (by simp))
  rw [hi] at hcon
  obtain ⟨c0, c1, c2⟩ := cells_row h.row
  have hfx : 0 ≤ (l.getD i default).1 ∧ (l.getD i default).1 ≤ (l.getD i default).2 ∧ (l.getD i default).2 ≤ 4096 := hF _ (by simp [List.getD, List.getElem?_eq_getElem hil])
  have HM : Hid (MapAt w p A B base b cap l) := ⟨h⟩
  obtain ⟨x, c, hac⟩ : ∃ x c, l.getD i default = (x, c) := ⟨_, _, rfl⟩
  have HD : Hid (l.getD i default = (x, c)) := ⟨hac⟩
  rw [hac] at hfx hfit ⊢
  simp only [siz] at hfx hfit ⊢
  have hxn : wrap64 (x + n) = x + n := IntWalk.wrap64_in _ ⟨by omega, by omega⟩
  obtain ⟨L', HL'⟩ : ∃ L', Hid (L' = l.take i ++ ne2 (x, x) (x + n, c) ++ l.drop (i + 1)) := ⟨_, ⟨rfl⟩⟩
  rw [← HL'.out]
  have n1 : ¬ n < 1 := by omega
  have n2 : ¬ (i : Int) < 0 := by omega
  obtain ⟨ln, hln⟩ : ∃ ln, l.length = ln := ⟨_, rfl⟩
  rw [hln] at hcon c2 hil h5
  have hiz : (i : Int) < (ln : Int) := by omega
  clear h c0 c1 hw hi hac
  go_enter Try.func14, Try.ntmps14
  go_wp2_with (go_at_call 28
               refine hcon.mono ?_
               rintro e w1 ⟨rfl, hb'⟩
               have hb1 : Below w.heap.size w w1 := ((Below.refl _ w).alloc (Nat.le_refl _) _).trans (hb'.mono (by simp))
               have hM1 := HM.out.below hb1
               have HB1 : Hid (Below w.heap.size w w1) := ⟨hb1⟩
               have d2 : w1.cell? ⟨p, 2, none⟩ = some (.slice (some ⟨b, 0, none⟩) ln cap) := (hb1.cell (p := ⟨p, 2, none⟩) hpl).trans c2
               have d0 : w1.cell? ⟨b, i * 2, none⟩ = some (.int .i64 x) := by have := (hM1.spAt.2.2.2 i (by omega)).1; rw [HD.out] at this; exact this
               have dn : w1.cell? ⟨w.heap.size, 0, none⟩ = some (.int .i64 n) := (hb'.cell (p := ⟨w.heap.size, 0, none⟩) (by simp)).trans (by simp)
               have hcut := cut_any A B x (x + n) p b cap base i l w1 hM1 (Nat.le_trans hbs hb1.size) (by omega) (by omega)
               rw [HD.out] at hcut
               simp only at hcut
               rw [← HL'.out] at hcut
               clear hcon hb' hb1 hM1 c2)
  go_wp2_with (go_at_call 30; refine hcut.mono ?_; rintro e w2 ⟨rfl, hM2⟩; clear hcut)
  go_ret2
  exact ⟨rfl, hM2.of_below HB1.out hbs⟩

theorem part_nil (v : Value) (a n : Int) (w : World) (hv : v = .agg #[.int .i64 a, .int .i64 n]) : Calls Try.prog 31 #[.pointer none, v] w fun e w' => e = .returned (.tuple #[.agg #[.int .i64 0, .int .i64 0], .int .i64 1]) ∧ Below w.heap.size w w' := by
  subst hv
  go_enter Try.func31, Try.ntmps31
  go_wp2
  go_returns
  exact ⟨rfl, ((((Below.refl _ w).alloc (Nat.le_refl _) _).alloc (by simp) _))⟩
end Go.Proofs.Ytcmibcmndiplbab
