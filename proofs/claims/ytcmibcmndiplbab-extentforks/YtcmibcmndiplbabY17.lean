/- Package extent's Give and Fork. -/
import Derived.Test.YtcmibcmndiplbabY16
namespace Go.Proofs.Ytcmibcmndiplbab
open Go.RowKit Go.Lib Go.Shelf

theorem join_any (A B : Int) (s : Int × Int) (p b cap base : Nat) (l : List (Int × Int)) (w : World) (hM : MapAt w p A B base b cap l) (hbs : base ≤ w.heap.size) (h5 : l.length ≤ 99000) :
    Calls Try.prog 34 #[.pointer (some ⟨p, 0, none⟩), .agg #[.int .i64 s.1, .int .i64 s.2]] w fun e w' => e = .returned (.tuple #[]) ∧ Maps w p A B base b (joined l s) w' := by
  obtain ⟨a, c⟩ := s
  rcases jfrom_idx l a with ⟨h1, h2⟩ | ⟨h1, h2⟩
  · exact join_none A B a c p b cap base l w hM hbs h5 h1 h2
  · exact join_some A B a c p b cap base l w hM hbs h5 (jfrom l a) h1 rfl h2

theorem contains_any (g : Nat) (cs lb : Array Value) (p : Int × Int → Bool) (eg : ∀ args w, (callFunc g args).run Try.prog w = .ok (.enter g args) w) (b cap : Nat) (l : List (Int × Int)) (w : World) (hl : SpAt w b cap l) (hp : Pred g cs lb p w) :
    Calls Try.prog 32 #[.slice (some ⟨b, 0, none⟩) l.length cap, .func (.func g) cs lb] w fun e w' => e = .returned (.bool (decide (0 ≤ idx p l))) ∧ Below w.heap.size w w' := by
  have hcon := index_any g cs lb p eg b cap l w hl hp
  generalize idx p l = i at hcon ⊢
  generalize l.length = n at hcon ⊢
  clear hl hp
  go_enter Try.func32, Try.ntmps32
  go_wp2_with (go_at_call 28; refine hcon.mono ?_; rintro e w1 ⟨rfl, hb1⟩)
  go_ret
  exact ⟨rfl, hb1⟩

set_option maxHeartbeats 2000000 in
/-- A run of the map's: given, if no free span meets it. -/
theorem give_ok (A B at' n : Int) (p b cap base : Nat) (l : List (Int × Int)) (w : World) (h : MapAt w p A B base b cap l) (hbs : base ≤ w.heap.size) (hA : 0 ≤ A) (hB : B ≤ 4096) (hmine : ¬ NotMine A B at' n) (h5 : l.length ≤ 99000) (i : Int) (hi : idx (fun x => decide (at' < x.2 ∧ x.1 < at' + n)) l = i) :
    Calls Try.prog 15 #[.pointer (some ⟨p, 0, none⟩), .agg #[.int .i64 at', .int .i64 n]] w fun e w' => (0 ≤ i ∧ e = .returned (.int .i64 9) ∧ Below w.heap.size w w') ∨ (i < 0 ∧ e = .returned (.int .i64 0) ∧ Maps w p A B base b (joined l (at', at' + n)) w') := by
  have hpl : p < w.heap.size := (Array.getElem?_eq_some_iff.1 h.row).1
  have np : p ≠ w.heap.size := by omega
  have hw : Below w.heap.size w (w.alloc (.cells #[.int .i64 at', .int .i64 n] 43)) := (Below.refl _ w).alloc (Nat.le_refl _) _
  unfold NotMine at hmine
  have hpart := part_ok (h.below hw) hB hA at' n (by omega) (by omega) (by omega) (by omega)
  have HM : Hid (MapAt w p A B base b cap l) := ⟨h⟩
  have HI : Hid (idx (fun x => decide (at' < x.2 ∧ x.1 < at' + n)) l = i) := ⟨hi⟩
  obtain ⟨ln, hln⟩ : ∃ ln, l.length = ln := ⟨_, rfl⟩
  clear h hi hmine
  go_enter Try.func15, Try.ntmps15
  go_wp2_with (go_at_call 31
               refine hpart.mono ?_
               rintro e w1 ⟨rfl, hb'⟩
               have hb1 : Below w.heap.size w w1 := hw.trans (hb'.mono (by simp))
               have HB1 : Hid (Below w.heap.size w w1) := ⟨hb1⟩
               have HM1 : Hid (MapAt w1 p A B base b cap l) := ⟨HM.out.below hb1⟩
               have hpl1 : p < w1.heap.size := Nat.lt_of_lt_of_le hpl hb1.size
               have np1 : p ≠ w1.heap.size := by omega
               have d2 : w1.cell? ⟨p, 2, none⟩ = some (.slice (some ⟨b, 0, none⟩) ln cap) := by have := (cells_row HM1.out.row).2.2; rw [hln] at this; exact this
               clear hpart hb' hb1)
  have HW2 : Hid (Below w1.heap.size w1 (w1.alloc (.cells #[.int .i64 at', .int .i64 (at' + n)] 57)).drew) := ⟨((Below.refl _ w1).alloc (Nat.le_refl _) _).drew⟩
  have hidx := contains_any 33 #[sp (at', at' + n)] #[] _ (enters_of Try.func33 (by kernel_rfl) rfl) b cap l _ ((HM1.out.below HW2.out).spAt) (pred_meets (at', at' + n) _)
  change Calls Try.prog 32 #[_, .func (.func 33) #[.agg #[.int .i64 at', .int .i64 (at' + n)]] #[]] _ (fun e w' => e = .returned (.bool (decide (0 ≤ idx (fun x => decide (at' < x.2 ∧ x.1 < at' + n)) l))) ∧ _) at hidx
  rw [HI.out, hln] at hidx
  by_cases hneg : 0 ≤ i
  · rw [show decide (0 ≤ i) = true by simpa using hneg] at hidx
    go_region_with (go_at_call 32
                    refine hidx.mono ?_
                    rintro e w2 ⟨rfl, hb2⟩
                    have hb2' : Below w1.heap.size w1 w2 := HW2.out.trans (hb2.mono (by simp))
                    have HB2 : Hid (Below w1.heap.size w1 w2) := ⟨hb2'⟩
                    clear hidx hb2 hb2')
    all_goals go_wp2
    all_goals go_ret
    all_goals exact .inl ⟨hneg, rfl, HB1.out.trans (HB2.out.mono HB1.out.size)⟩
  · rw [show decide (0 ≤ i) = false by simpa using hneg] at hidx
    obtain ⟨L', HL'⟩ : ∃ L', Hid (L' = joined l (at', at' + n)) := ⟨_, ⟨rfl⟩⟩
    go_region_with (go_at_call 32
                    refine hidx.mono ?_
                    rintro e w2 ⟨rfl, hb2⟩
                    have hb2' : Below w1.heap.size w1 w2 := HW2.out.trans (hb2.mono (by simp))
                    have HB2 : Hid (Below w1.heap.size w1 w2) := ⟨hb2'⟩
                    have e0 : w2.cell? ⟨w1.heap.size, 0, none⟩ = some (.int .i64 at') := (hb2.cell (p := ⟨w1.heap.size, 0, none⟩) (by simp)).trans (by simp)
                    have e1 : w2.cell? ⟨w1.heap.size, 1, none⟩ = some (.int .i64 (at' + n)) := (hb2.cell (p := ⟨w1.heap.size, 1, none⟩) (by simp)).trans (by simp)
                    have hjoin := join_any A B (at', at' + n) p b cap base l w2 (HM1.out.below hb2') (Nat.le_trans hbs (Nat.le_trans HB1.out.size hb2'.size)) h5
                    simp only at hjoin
                    rw [← HL'.out] at hjoin
                    clear hidx hb2 hb2')
    all_goals go_wp2_with (go_at_call 34; refine hjoin.mono ?_; rintro e w3 ⟨rfl, hM3⟩; clear hjoin)
    all_goals go_ret
    all_goals (rw [HL'.out] at hM3; exact .inr ⟨by omega, rfl, hM3.of_below (HB1.out.trans (HB2.out.mono HB1.out.size)) hbs⟩)

set_option maxHeartbeats 2000000 in
/-- slices.Clone. -/
theorem clone_any (b cap n : Nat) (C : Array Value) (l : List (Int × Int)) (w : World) (hR : RowOf w b n cap C l) :
    Calls Try.prog 38 #[.slice (some ⟨b, 0, none⟩) n cap] w fun e w' => ∃ g cap' C', e = .returned (.slice (some ⟨g, 0, none⟩) n cap') ∧ w.heap.size ≤ g ∧ RowOf w' g n cap' C' l ∧ Below w.heap.size w w' := by
  have hlen := hR.len
  have hn5 := hR.n5
  have hbl : b < w.heap.size := hR.row.lt
  have hb1 : Below w.heap.size w (w.alloc (.cells #[] 57)) := (Below.refl _ w).alloc (Nat.le_refl _) _
  have hR1 := hR.below hb1
  obtain ⟨i0, hi, hz0, hz1, hz2⟩ := info_parts' info57
  have hown : (w.alloc (.cells #[] 57)).ownsRow w.heap.size 57 2 (.slice (some ⟨w.heap.size, 0, none⟩) 0 0) 0 [] := ⟨rfl, .inr ⟨w.heap.size, 0, #[], rfl, Nat.le_refl _, heap_alloc_new w _, Nat.le_refl _, by decide, rfl, rfl⟩⟩
  have hsrc : ∀ j u, (flat2 l)[j]? = some u → (w.alloc (.cells #[] 57)).cell? ((⟨b, 0, none⟩ : Addr).add j) = some u := by
    have := hR1.src n
    rwa [List.take_of_length_le (by omega)] at this
  obtain ⟨v', w', happ, ho, hg, hnil⟩ := run_append_own (P := Try.prog) (w.alloc (.cells #[] 57)) w.heap.size 58 58 57 i0 _ 2 16 Try.underlying58 hi hz0 hz1 hz2 rfl (by decide) (.slice (some ⟨w.heap.size, 0, none⟩) 0 0) 0 [] hown ⟨b, 0, none⟩ n cap (flat2 l) (by rw [flat2_length, hlen]) hsrc (flat2_one l) (by unfold maxLen; omega) (by omega) (by simp)
  rw [Nat.zero_add, List.nil_append] at ho
  have hsh : ∃ g cap' C', v' = .slice (some ⟨g, 0, none⟩) n cap' ∧ w.heap.size ≤ g ∧ RowOf w' g n cap' C' l := by
    rcases ho.2 with ⟨h', _⟩ | ⟨g', cap', cur, h', hb, hh, h1, h2, h3, h4⟩
    · rw [hnil] at h'; simp at h'
    · exact ⟨g', cap', cur, h', hb, hh, h3, h4, hlen, h1, h2, hn5⟩
  obtain ⟨g, cap', C', rfl, hgg, hF⟩ := hsh
  have HF : Hid (RowOf w' g n cap' C' l) := ⟨hF⟩
  have HG : Hid (Below w.heap.size w w') := ⟨hb1.grown hg (by simp) (by simp [Value.ownBlock])⟩
  clear hF hg ho hnil hsrc hown hR1 hb1 hR
  have hnl : ∀ W, (binOp .eql 58 (.slice (some ⟨b, 0, none⟩) n cap) (.slice none 0 0)).run Try.prog W = .ok (.bool false) W := fun W => by rw [Lib.run_eql_slice_nil W 58 57 _ _ _ _ _ Try.underlying58]; rfl
  go_enter Try.func38, Try.ntmps38
  go_wp2_with (at_builtin; refine wpl_app rfl (.tmp 5) (.tmp 6) rfl rfl rfl happ ?_; clear happ)
  go_ret
  exact ⟨g, cap', C', rfl, hgg, HF.out, HG.out⟩
end Go.Proofs.Ytcmibcmndiplbab
