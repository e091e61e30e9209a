/- Package extent's part, where a run is not the map's; Claim, whole. -/
import Derived.Test.YtcmibcmndiplbabY12
namespace Go.Proofs.Ytcmibcmndiplbab
open Go.RowKit Go.Lib Go.Shelf

set_option maxHeartbeats 4000000 in
set_option maxRecDepth 100000 in
theorem part_b1 {w : World} {p : Nat} {A B : Int} {base b cap : Nat} {l : List (Int × Int)} (h : MapAt w p A B base b cap l) (at' n : Int) (h1 : n < 1) :
    Calls Try.prog 31 #[.pointer (some ⟨p, 0, none⟩), .agg #[.int .i64 at', .int .i64 n]] w fun e w' => e = .returned (.tuple #[.agg #[.int .i64 0, .int .i64 0], .int .i64 2]) ∧ Below w.heap.size w w' := by
  obtain ⟨c0, c1, c2⟩ := cells_row h.row
  have hpl : p < w.heap.size := (Array.getElem?_eq_some_iff.1 h.row).1
  have np : p ≠ w.heap.size := by omega
  have np1 : p ≠ w.heap.size + 1 := by omega
  have d1 : decide (n < 1) = true := by simp; omega
  clear h
  go_enter Try.func31, Try.ntmps31
  go_wp2
  go_quiet (fail)
  go_wp2
  go_returns
  refine ⟨rfl, ?_⟩
  exact (((below_drewN (((Below.refl _ w).alloc (Nat.le_refl _) _).alloc (by simp) _) nq)).setCell (by simp) _).setCell (by simp) _

set_option maxHeartbeats 4000000 in
set_option maxRecDepth 100000 in
theorem part_b2 {w : World} {p : Nat} {A B : Int} {base b cap : Nat} {l : List (Int × Int)} (h : MapAt w p A B base b cap l) (at' n : Int) (h1 : ¬ n < 1) (h2 : at' < A) :
    Calls Try.prog 31 #[.pointer (some ⟨p, 0, none⟩), .agg #[.int .i64 at', .int .i64 n]] w fun e w' => e = .returned (.tuple #[.agg #[.int .i64 0, .int .i64 0], .int .i64 2]) ∧ Below w.heap.size w w' := by
  obtain ⟨c0, c1, c2⟩ := cells_row h.row
  have hpl : p < w.heap.size := (Array.getElem?_eq_some_iff.1 h.row).1
  have np : p ≠ w.heap.size := by omega
  have np1 : p ≠ w.heap.size + 1 := by omega
  have d1 : decide (n < 1) = false := by simp; omega
  have d2 : decide (at' < A) = true := by simp; omega
  clear h
  go_enter Try.func31, Try.ntmps31
  go_wp2
  go_quiet (fail)
  go_wp2
  go_returns
  refine ⟨rfl, ?_⟩
  exact (((below_drewN (((Below.refl _ w).alloc (Nat.le_refl _) _).alloc (by simp) _) nq)).setCell (by simp) _).setCell (by simp) _

set_option maxHeartbeats 4000000 in
set_option maxRecDepth 100000 in
theorem part_b3 {w : World} {p : Nat} {A B : Int} {base b cap : Nat} {l : List (Int × Int)} (h : MapAt w p A B base b cap l) (at' n : Int) (h1 : ¬ n < 1) (h2 : ¬ at' < A) (h3 : B < at') :
    Calls Try.prog 31 #[.pointer (some ⟨p, 0, none⟩), .agg #[.int .i64 at', .int .i64 n]] w fun e w' => e = .returned (.tuple #[.agg #[.int .i64 0, .int .i64 0], .int .i64 2]) ∧ Below w.heap.size w w' := by
  obtain ⟨c0, c1, c2⟩ := cells_row h.row
  have hpl : p < w.heap.size := (Array.getElem?_eq_some_iff.1 h.row).1
  have np : p ≠ w.heap.size := by omega
  have np1 : p ≠ w.heap.size + 1 := by omega
  have d1 : decide (n < 1) = false := by simp; omega
  have d2 : decide (at' < A) = false := by simp; omega
  have d3 : decide (B < at') = true := by simp; omega
  clear h
  go_enter Try.func31, Try.ntmps31
  go_wp2
  go_quiet (fail)
  go_wp2
  go_returns
  refine ⟨rfl, ?_⟩
  exact (((below_drewN (((Below.refl _ w).alloc (Nat.le_refl _) _).alloc (by simp) _) nq)).setCell (by simp) _).setCell (by simp) _

set_option maxHeartbeats 4000000 in
set_option maxRecDepth 100000 in
theorem part_b4 {w : World} {p : Nat} {A B : Int} {base b cap : Nat} {l : List (Int × Int)} (h : MapAt w p A B base b cap l) (at' n : Int) (hA : 0 ≤ A) (hB : B ≤ 4096) (h1 : ¬ n < 1) (h2 : ¬ at' < A) (h3 : ¬ B < at') (h4 : B - at' < n) :
    Calls Try.prog 31 #[.pointer (some ⟨p, 0, none⟩), .agg #[.int .i64 at', .int .i64 n]] w fun e w' => e = .returned (.tuple #[.agg #[.int .i64 0, .int .i64 0], .int .i64 2]) ∧ Below w.heap.size w w' := by
  obtain ⟨c0, c1, c2⟩ := cells_row h.row
  have hpl : p < w.heap.size := (Array.getElem?_eq_some_iff.1 h.row).1
  have np : p ≠ w.heap.size := by omega
  have np1 : p ≠ w.heap.size + 1 := by omega
  have hw1 : wrap64 (B - at') = B - at' := IntWalk.wrap64_in _ ⟨by omega, by omega⟩
  have d1 : decide (n < 1) = false := by simp; omega
  have d2 : decide (at' < A) = false := by simp; omega
  have d3 : decide (B < at') = false := by simp; omega
  have d4 : decide (B - at' < n) = true := by simp; omega
  clear h
  go_enter Try.func31, Try.ntmps31
  go_wp2
  go_quiet (fail)
  go_wp2
  go_returns
  refine ⟨rfl, ?_⟩
  exact (((below_drewN (((Below.refl _ w).alloc (Nat.le_refl _) _).alloc (by simp) _) nq)).setCell (by simp) _).setCell (by simp) _

/-- A run that is not the map's. -/
def NotMine (A B at' n : Int) : Prop := n < 1 ∨ at' < A ∨ B < at' ∨ B - at' < n
theorem part_bad {w : World} {p : Nat} {A B : Int} {base b cap : Nat} {l : List (Int × Int)} (h : MapAt w p A B base b cap l) (hA : 0 ≤ A) (hB : B ≤ 4096) (at' n : Int) (hn : NotMine A B at' n) :
    Calls Try.prog 31 #[.pointer (some ⟨p, 0, none⟩), .agg #[.int .i64 at', .int .i64 n]] w fun e w' => e = .returned (.tuple #[.agg #[.int .i64 0, .int .i64 0], .int .i64 2]) ∧ Below w.heap.size w w' := by
  unfold NotMine at hn
  by_cases h1 : n < 1
  · exact part_b1 h at' n h1
  · by_cases h2 : at' < A
    · exact part_b2 h at' n h1 h2
    · by_cases h3 : B < at'
      · exact part_b3 h at' n h1 h2 h3
      · exact part_b4 h at' n hA hB h1 h2 h3 (by omega)

theorem claim_nil (at' n : Int) (w : World) : Calls Try.prog 22 #[.pointer none, .agg #[.int .i64 at', .int .i64 n]] w fun e w' => e = .returned (.int .i64 1) ∧ Below w.heap.size w w' := by
  have hpart := part_nil _ at' n (w.alloc (.cells #[.int .i64 at', .int .i64 n] 43)) rfl
  go_enter Try.func22, Try.ntmps22
  go_wp2_with (go_at_call 31; refine hpart.mono ?_; rintro e w1 ⟨rfl, hb'⟩; have hb1 : Below w.heap.size w w1 := ((Below.refl _ w).alloc (Nat.le_refl _) _).trans (hb'.mono (by simp)); clear hpart hb')
  go_ret
  exact ⟨rfl, hb1.alloc hb1.size _⟩
theorem give_nil (at' n : Int) (w : World) : Calls Try.prog 15 #[.pointer none, .agg #[.int .i64 at', .int .i64 n]] w fun e w' => e = .returned (.int .i64 1) ∧ Below w.heap.size w w' := by
  have hpart := part_nil _ at' n (w.alloc (.cells #[.int .i64 at', .int .i64 n] 43)) rfl
  go_enter Try.func15, Try.ntmps15
  go_wp2_with (go_at_call 31; refine hpart.mono ?_; rintro e w1 ⟨rfl, hb'⟩; have hb1 : Below w.heap.size w w1 := ((Below.refl _ w).alloc (Nat.le_refl _) _).trans (hb'.mono (by simp)); clear hpart hb')
  go_ret
  exact ⟨rfl, hb1.alloc hb1.size _⟩

theorem claim_bad {w : World} {p : Nat} {A B : Int} {base b cap : Nat} {l : List (Int × Int)} (h : MapAt w p A B base b cap l) (hA : 0 ≤ A) (hB : B ≤ 4096) (at' n : Int) (hn : NotMine A B at' n) : Calls Try.prog 22 #[.pointer (some ⟨p, 0, none⟩), .agg #[.int .i64 at', .int .i64 n]] w fun e w' => e = .returned (.int .i64 2) ∧ Below w.heap.size w w' := by
  have hw : Below w.heap.size w (w.alloc (.cells #[.int .i64 at', .int .i64 n] 43)) := (Below.refl _ w).alloc (Nat.le_refl _) _
  have hpart := part_bad (h.below hw) hA hB at' n hn
  clear h
  go_enter Try.func22, Try.ntmps22
  go_wp2_with (go_at_call 31; refine hpart.mono ?_; rintro e w1 ⟨rfl, hb'⟩; have hb1 : Below w.heap.size w w1 := ((Below.refl _ w).alloc (Nat.le_refl _) _).trans (hb'.mono (by simp)); clear hpart hb')
  go_ret
  exact ⟨rfl, hb1.alloc hb1.size _⟩
theorem give_bad {w : World} {p : Nat} {A B : Int} {base b cap : Nat} {l : List (Int × Int)} (h : MapAt w p A B base b cap l) (hA : 0 ≤ A) (hB : B ≤ 4096) (at' n : Int) (hn : NotMine A B at' n) : Calls Try.prog 15 #[.pointer (some ⟨p, 0, none⟩), .agg #[.int .i64 at', .int .i64 n]] w fun e w' => e = .returned (.int .i64 2) ∧ Below w.heap.size w w' := by
  have hw : Below w.heap.size w (w.alloc (.cells #[.int .i64 at', .int .i64 n] 43)) := (Below.refl _ w).alloc (Nat.le_refl _) _
  have hpart := part_bad (h.below hw) hA hB at' n hn
  clear h
  go_enter Try.func15, Try.ntmps15
  go_wp2_with (go_at_call 31; refine hpart.mono ?_; rintro e w1 ⟨rfl, hb'⟩; have hb1 : Below w.heap.size w w1 := ((Below.refl _ w).alloc (Nat.le_refl _) _).trans (hb'.mono (by simp)); clear hpart hb')
  go_ret
  exact ⟨rfl, hb1.alloc hb1.size _⟩

set_option maxHeartbeats 2000000 in
/-- A run of the map's: claimed, if some free span has it. -/
theorem claim_ok (A B at' n : Int) (p b cap base : Nat) (l : List (Int × Int)) (w : World) (h : MapAt w p A B base b cap l) (hbs : base ≤ w.heap.size) (hA : 0 ≤ A) (hB : B ≤ 4096) (hmine : ¬ NotMine A B at' n) (h5 : l.length ≤ 99000) (i : Int) (hi : idx (fun x => decide (x.1 ≤ at' ∧ at' + n ≤ x.2)) l = i) :
    Calls Try.prog 22 #[.pointer (some ⟨p, 0, none⟩), .agg #[.int .i64 at', .int .i64 n]] w fun e w' => (i < 0 ∧ e = .returned (.int .i64 10) ∧ Below w.heap.size w w') ∨ (0 ≤ i ∧ e = .returned (.int .i64 0) ∧ Maps w p A B base b (l.take i.toNat ++ ne2 ((l.getD i.toNat default).1, at') (at' + n, (l.getD i.toNat default).2) ++ l.drop (i.toNat + 1)) w') := by
  have hpl : p < w.heap.size := (Array.getElem?_eq_some_iff.1 h.row).1
  have np : p ≠ w.heap.size := by omega
  have hw : Below w.heap.size w (w.alloc (.cells #[.int .i64 at', .int .i64 n] 43)) := (Below.refl _ w).alloc (Nat.le_refl _) _
  unfold NotMine at hmine
  have hpart := part_ok (h.below hw) hB hA at' n (by omega) (by omega) (by omega) (by omega)
  have HM : Hid (MapAt w p A B base b cap l) := ⟨h⟩
  have HI : Hid (idx (fun x => decide (x.1 ≤ at' ∧ at' + n ≤ x.2)) l = i) := ⟨hi⟩
  have HIl : Hid (0 ≤ i → i.toNat < l.length) := ⟨by
    intro h0
    rw [← hi]
    unfold idx at hi ⊢
    split
    · rename_i k hk
      have := (List.findIdx?_eq_some_iff_getElem.1 hk).1
      simpa using this
    · rename_i hk
      rw [hk] at hi
      simp at hi; omega⟩
  obtain ⟨ln, hln⟩ : ∃ ln, l.length = ln := ⟨_, rfl⟩
  obtain ⟨L', HL'⟩ : ∃ L', Hid (L' = l.take i.toNat ++ ne2 ((l.getD i.toNat default).1, at') (at' + n, (l.getD i.toNat default).2) ++ l.drop (i.toNat + 1)) := ⟨_, ⟨rfl⟩⟩
  rw [← HL'.out]
  clear h hi hmine
  go_enter Try.func22, Try.ntmps22
  go_wp2_with (go_at_call 31
               refine hpart.mono ?_
               rintro e w1 ⟨rfl, hb'⟩
               have hb1 : Below w.heap.size w w1 := hw.trans (hb'.mono (by simp))
               have HB1 : Hid (Below w.heap.size w w1) := ⟨hb1⟩
               have HM1 : Hid (MapAt w1 p A B base b cap l) := ⟨HM.out.below hb1⟩
               have hpl1 : p < w1.heap.size := Nat.lt_of_lt_of_le hpl hb1.size
               have np1 : p ≠ w1.heap.size := by omega
               have d2 : w1.cell? ⟨p, 2, none⟩ = some (.slice (some ⟨b, 0, none⟩) ln cap) := by have := (cells_row HM1.out.row).2.2; rw [hln] at this; exact this
               clear hpart hb' hb1)
  have HW2 : Hid (Below w1.heap.size w1 (w1.alloc (.cells #[.int .i64 at', .int .i64 (at' + n)] 57)).drew) := ⟨((Below.refl _ w1).alloc (Nat.le_refl _) _).drew⟩
  have hidx := index_any 42 #[sp (at', at' + n)] #[] _ (enters_of Try.func42 (by kernel_rfl) rfl) b cap l _ ((HM1.out.below HW2.out).spAt) (pred_within (at', at' + n) _)
  change Calls Try.prog 28 #[_, .func (.func 42) #[.agg #[.int .i64 at', .int .i64 (at' + n)]] #[]] _ (fun e w' => e = .returned (.int .i64 (idx (fun x => decide (x.1 ≤ at' ∧ at' + n ≤ x.2)) l)) ∧ _) at hidx
  rw [HI.out, hln] at hidx
  by_cases hneg : i < 0
  · go_region_with (go_at_call 28
                    refine hidx.mono ?_
                    rintro e w2 ⟨rfl, hb2⟩
                    have hb2' : Below w1.heap.size w1 w2 := HW2.out.trans (hb2.mono (by simp))
                    have HB2 : Hid (Below w1.heap.size w1 w2) := ⟨hb2'⟩
                    clear hidx hb2 hb2')
    all_goals go_wp2
    all_goals go_ret
    all_goals exact .inl ⟨hneg, rfl, HB1.out.trans (HB2.out.mono HB1.out.size)⟩
  · obtain ⟨k, rfl⟩ := Int.eq_ofNat_of_zero_le (show 0 ≤ i by omega)
    have hkl := HIl.out (by omega)
    go_region_with (go_at_call 28
                    refine hidx.mono ?_
                    rintro e w2 ⟨rfl, hb2⟩
                    have hb2' : Below w1.heap.size w1 w2 := HW2.out.trans (hb2.mono (by simp))
                    have HB2 : Hid (Below w1.heap.size w1 w2) := ⟨hb2'⟩
                    have e0 : w2.cell? ⟨w1.heap.size, 0, none⟩ = some (.int .i64 at') := (hb2.cell (p := ⟨w1.heap.size, 0, none⟩) (by simp)).trans (by simp)
                    have e1 : w2.cell? ⟨w1.heap.size, 1, none⟩ = some (.int .i64 (at' + n)) := (hb2.cell (p := ⟨w1.heap.size, 1, none⟩) (by simp)).trans (by simp)
                    have hcut := cut_any A B at' (at' + n) p b cap base k l w2 (HM1.out.below hb2') (Nat.le_trans hbs (Nat.le_trans HB1.out.size hb2'.size)) hkl h5
                    rw [show l.take k ++ ne2 ((l.getD k default).1, at') (at' + n, (l.getD k default).2) ++ l.drop (k + 1) = L' from HL'.out.symm] at hcut
                    clear hidx hb2 hb2')
    all_goals go_wp2_with (go_at_call 30; refine hcut.mono ?_; rintro e w3 ⟨rfl, hM3⟩; clear hcut)
    all_goals go_ret
    all_goals exact .inr ⟨by omega, rfl, hM3.of_below (HB1.out.trans (HB2.out.mono HB1.out.size)) hbs⟩
end Go.Proofs.Ytcmibcmndiplbab
