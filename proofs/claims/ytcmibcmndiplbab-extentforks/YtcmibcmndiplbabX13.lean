/- Package extent's Take and Claim, of a map with one free span. -/
import Derived.Test.YtcmibcmndiplbabX11
import Derived.Test.YtcmibcmndiplbabX12
namespace Go.Proofs.Ytcmibcmndiplbab
open Go.RowKit Go.Lib Go.Shelf

theorem pred_fit (n : Int) (B : Nat) (w : World) (hB : B < w.heap.size) (hc : w.cell? ⟨B, 0, none⟩ = some (.int .i64 n)) : Pred 29 #[] #[.pointer (some ⟨B, 0, none⟩)] (fun x => decide (n ≤ wrap64 (x.2 - x.1))) w := fun W x hb => by
  have hc' : W.cell? ⟨B, 0, none⟩ = some (.int .i64 n) := (hb.cell (p := ⟨B, 0, none⟩) hB).trans hc
  refine (fit_any n B x W (Nat.lt_of_lt_of_le hB hb.size) hc').mono ?_
  rintro e w' ⟨rfl, hb'⟩
  exact ⟨rfl, hb.trans (hb'.mono hb.size)⟩
theorem pred_within (s : Int × Int) (w : World) : Pred 42 #[sp s] #[] (fun x => decide (x.1 ≤ s.1 ∧ s.2 ≤ x.2)) w := fun W x hb => by
  refine (within_any s x W).mono ?_
  rintro e w' ⟨rfl, hb'⟩
  exact ⟨rfl, hb.trans (hb'.mono hb.size)⟩

theorem MapAt.belowB {w w' : World} {p : Nat} {A B : Int} {base b cap : Nat} {l : List (Int × Int)} (h : MapAt w p A B base b cap l) (hb : Below w.heap.size w w') : MapAt w' p A B base b cap l := h.below hb

/-- No run has n. -/
theorem take_none {w : World} {p : Nat} {A B : Int} {base b cap : Nat} {l : List (Int × Int)} (h : MapAt w p A B base b cap l) (n : Int) (hn : 1 ≤ n) (hi : idx (fun x => decide (n ≤ wrap64 (x.2 - x.1))) l = -1) :
    Calls Try.prog 14 #[.pointer (some ⟨p, 0, none⟩), .int .i64 n] w fun e w' => e = .returned (.tuple #[.int .i64 0, .int .i64 8]) ∧ Below w.heap.size w w' := by
  have hpl : p < w.heap.size := (Array.getElem?_eq_some_iff.1 h.row).1
  have np : p ≠ w.heap.size := by omega
  have hw : Below w.heap.size w (w.alloc (.cells #[.int .i64 n] 3)) := (Below.refl _ w).alloc (Nat.le_refl _) _
  have hcon := index_any 29 #[] #[.pointer (some ⟨w.heap.size, 0, none⟩)] _ (enters_of Try.func29 (by kernel_rfl) rfl) b cap l (w.alloc (.cells #[.int .i64 n] 3)) ((h.below hw).spAt) (pred_fit n w.heap.size _ (by simp) (by simp))
  rw [hi] at hcon
  obtain ⟨c0, c1, c2⟩ := cells_row h.row
  have n1 : ¬ n < 1 := by omega
  clear h c0 c1 hw
  generalize l.length = ln at c2 hcon
  go_enter Try.func14, Try.ntmps14
  go_wp2_with (go_at_call 28; refine hcon.mono ?_; rintro e w' ⟨rfl, hb'⟩)
  go_ret2
  exact ⟨rfl, ((Below.refl _ w).alloc (Nat.le_refl _) _).trans (hb'.mono (by simp))⟩

set_option maxHeartbeats 2000000 in
/-- The first n of the one run that there is. -/
theorem take_1 (A B x c n : Int) (p b base : Nat) (w : World) (h : MapAt w p A B base b 1 [(x, c)]) (hbs : base ≤ w.heap.size) (hn : 1 ≤ n) (hx : 0 ≤ x) (hc : c ≤ 4096) (hf : n < c - x) :
    Calls Try.prog 14 #[.pointer (some ⟨p, 0, none⟩), .int .i64 n] w fun e w' => e = .returned (.tuple #[.int .i64 x, .int .i64 0]) ∧ MapAt w' p A B base b 1 [(x + n, c)] ∧ Below base w w' := by
  have hpl : p < w.heap.size := (Array.getElem?_eq_some_iff.1 h.row).1
  have np : p ≠ w.heap.size := by omega
  have hw : Below w.heap.size w (w.alloc (.cells #[.int .i64 n] 3)) := (Below.refl _ w).alloc (Nat.le_refl _) _
  have hcon := index_any 29 #[] #[.pointer (some ⟨w.heap.size, 0, none⟩)] _ (enters_of Try.func29 (by kernel_rfl) rfl) b 1 [(x, c)] (w.alloc (.cells #[.int .i64 n] 3)) ((h.below hw).spAt) (pred_fit n w.heap.size _ (by simp) (by simp))
  have hs : wrap64 (c - x) = c - x := IntWalk.wrap64_in _ ⟨by omega, by omega⟩
  have hi : idx (fun x => decide (n ≤ wrap64 (x.2 - x.1))) [(x, c)] = 0 := by
    have : n ≤ c - x := by omega
    simp [idx, List.findIdx?_cons, hs, this]
  rw [hi] at hcon
  change Calls Try.prog 28 #[.slice (some ⟨b, 0, none⟩) 1 1, _] _ _ at hcon
  obtain ⟨c0, c1, c2⟩ := cells_row h.row
  change w.cell? ⟨p, 2, none⟩ = some (.slice (some ⟨b, 0, none⟩) 1 1) at c2
  have n1 : ¬ n < 1 := by omega
  have hxn : wrap64 (x + n) = x + n := IntWalk.wrap64_in _ ⟨by omega, by omega⟩
  have HM : Hid (MapAt w p A B base b 1 [(x, c)]) := ⟨h⟩
  clear h c0 c1 hw hs
  go_enter Try.func14, Try.ntmps14
  go_wp2_with (go_at_call 28
               refine hcon.mono ?_
               rintro e w1 ⟨rfl, hb'⟩
               have hb1 : Below w.heap.size w w1 := ((Below.refl _ w).alloc (Nat.le_refl _) _).trans (hb'.mono (by simp))
               have hM1 := HM.out.below hb1
               have HM1 : Hid (MapAt w1 p A B base b 1 [(x, c)]) := ⟨hM1⟩
               have HB1 : Hid (Below w.heap.size w w1) := ⟨hb1⟩
               have d2 : w1.cell? ⟨p, 2, none⟩ = some (.slice (some ⟨b, 0, none⟩) 1 1) := (hb1.cell (p := ⟨p, 2, none⟩) hpl).trans c2
               have d0 : w1.cell? ⟨b, 0, none⟩ = some (.int .i64 x) := (row_one hM1.own).cell 0
               have dn : w1.cell? ⟨w.heap.size, 0, none⟩ = some (.int .i64 n) := (hb'.cell (p := ⟨w.heap.size, 0, none⟩) (by simp)).trans (by simp)
               have hcut := cut_en A B x (x + n) c (by simp; omega) p b base w1 hM1 (Nat.le_trans hbs hb1.size)
               clear hcon hb' hb1 hM1 c2 hi)
  go_wp2_with (go_at_call 30; refine hcut.mono ?_; rintro e w2 ⟨rfl, hM2, hB2⟩; clear hcut)
  go_ret2
  exact ⟨rfl, hM2, (HB1.out.mono hbs).trans hB2⟩

set_option maxHeartbeats 2000000 in
/-- The end of the one run that there is, claimed. -/
theorem claim_1 (A B a at' n : Int) (p b base : Nat) (w : World) (h : MapAt w p A B base b 1 [(a, at' + n)]) (hbs : base ≤ w.heap.size) (hA : 0 ≤ A) (hB : B ≤ 4096) (h1 : 1 ≤ n) (h2 : A ≤ at') (h4 : n ≤ B - at') (ha : a < at') :
    Calls Try.prog 22 #[.pointer (some ⟨p, 0, none⟩), .agg #[.int .i64 at', .int .i64 n]] w fun e w' => e = .returned (.int .i64 0) ∧ MapAt w' p A B base b 1 [(a, at')] ∧ Below base w w' := by
  have hpl : p < w.heap.size := (Array.getElem?_eq_some_iff.1 h.row).1
  have np : p ≠ w.heap.size := by omega
  have hw : Below w.heap.size w (w.alloc (.cells #[.int .i64 at', .int .i64 n] 43)) := (Below.refl _ w).alloc (Nat.le_refl _) _
  have hpart := part_ok (h.below hw) hB hA at' n h1 h2 (by omega) h4
  have HM : Hid (MapAt w p A B base b 1 [(a, at' + n)]) := ⟨h⟩
  clear h
  go_enter Try.func22, Try.ntmps22
  go_wp2_with (go_at_call 31
               refine hpart.mono ?_
               rintro e w1 ⟨rfl, hb'⟩
               have hb1 : Below w.heap.size w w1 := hw.trans (hb'.mono (by simp))
               have HB1 : Hid (Below w.heap.size w w1) := ⟨hb1⟩
               have HM1 : Hid (MapAt w1 p A B base b 1 [(a, at' + n)]) := ⟨HM.out.below hb1⟩
               have hpl1 : p < w1.heap.size := Nat.lt_of_lt_of_le hpl hb1.size
               have np1 : p ≠ w1.heap.size := by omega
               have d2 : w1.cell? ⟨p, 2, none⟩ = some (.slice (some ⟨b, 0, none⟩) 1 1) := (cells_row HM1.out.row).2.2
               clear hpart hb' hb1)
  have HW2 : Hid (Below w1.heap.size w1 (w1.alloc (.cells #[.int .i64 at', .int .i64 (at' + n)] 57)).drew) := ⟨((Below.refl _ w1).alloc (Nat.le_refl _) _).drew⟩
  have hidx := index_any 42 #[sp (at', at' + n)] #[] _ (enters_of Try.func42 (by kernel_rfl) rfl) b 1 [(a, at' + n)] _ ((HM1.out.below HW2.out).spAt) (pred_within (at', at' + n) _)
  have hi : idx (fun x => decide (x.1 ≤ (at', at' + n).1 ∧ (at', at' + n).2 ≤ x.2)) [(a, at' + n)] = 0 := by
    have : a ≤ at' := by omega
    simp [idx, List.findIdx?_cons, this]
  rw [hi] at hidx
  change Calls Try.prog 28 #[.slice (some ⟨b, 0, none⟩) 1 1, .func (.func 42) #[.agg #[.int .i64 at', .int .i64 (at' + n)]] #[]] _ _ at hidx
  clear hi
  go_region_with (go_at_call 28
                  refine hidx.mono ?_
                  rintro e w2 ⟨rfl, hb2⟩
                  have hb2' : Below w1.heap.size w1 w2 := HW2.out.trans (hb2.mono (by simp))
                  have HB2 : Hid (Below w1.heap.size w1 w2) := ⟨hb2'⟩
                  have e0 : w2.cell? ⟨w1.heap.size, 0, none⟩ = some (.int .i64 at') := (hb2.cell (p := ⟨w1.heap.size, 0, none⟩) (by simp)).trans (by simp)
                  have e1 : w2.cell? ⟨w1.heap.size, 1, none⟩ = some (.int .i64 (at' + n)) := (hb2.cell (p := ⟨w1.heap.size, 1, none⟩) (by simp)).trans (by simp)
                  have hcut := cut_ne A B a (at' + n) at' (by simp; omega) p b base w2 (HM1.out.below hb2') (Nat.le_trans hbs (Nat.le_trans HB1.out.size hb2'.size))
                  clear hidx hb2 hb2')
  all_goals go_wp2_with (go_at_call 30; refine hcut.mono ?_; rintro e w3 ⟨rfl, hM3, hB3⟩; clear hcut)
  all_goals go_ret
  all_goals exact ⟨rfl, hM3, ((HB1.out.trans (HB2.out.mono HB1.out.size)).mono hbs).trans hB3⟩
end Go.Proofs.Ytcmibcmndiplbab
