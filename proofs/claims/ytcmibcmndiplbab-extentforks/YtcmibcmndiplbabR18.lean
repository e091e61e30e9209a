/- Fork of the program's map. -/
import Derived.Test.YtcmibcmndiplbabR17
import Derived.Deep.RegionHeld3
namespace Go.Proofs.Ytcmibcmndiplbab
open Go.RowKit Go.Lib Go.Shelf

set_option maxHeartbeats 2000000 in
theorem fork_any {w : World} {p : Nat} {A B : Int} {base bl : Nat} {l : List (Int × Int)} (h : Live w p A B base bl l) (hbs : base ≤ w.heap.size) :
    Calls Try.prog 19 #[.pointer (some ⟨p, 0, none⟩)] w fun e w' => ∃ p' b', e = .returned (.pointer (some ⟨p', 0, none⟩)) ∧ Live w' p' A B base b' l ∧ w.heap.size ≤ p' ∧ w.heap.size ≤ b' ∧ Below w.heap.size w w' := by
  obtain ⟨cap, hM⟩ := h.at'
  have HCan : Hid (Can B A l) := ⟨h.can⟩
  have hcaps := hM.caps
  have hpl : p < w.heap.size := (Array.getElem?_eq_some_iff.1 hM.row).1
  obtain ⟨c0, c1, c2⟩ := cells_row hM.row
  obtain ⟨_, C, hR⟩ := Own2.rowOf hM.own hM.caps
  have HFl : Hid ((flat2 l).length = l.length * 2) := ⟨hM.own.1⟩
  have hwd : Below w.heap.size w w.drew := (Below.refl _ w).drew
  have hcl := clone_any bl cap l.length C l w.drew ⟨hR.row, hR.size, hR.take, hR.len, hR.room, hR.big, hR.n5⟩
  clear hR hM h
  generalize hn : l.length = n at c2 hcl hcaps
  go_enter Try.func19, Try.ntmps19
  go_wp2
  go_region_held3 (fun w' => w'.cell? ⟨p, 0, none⟩ = some (.int .i64 A) ∧ w'.cell? ⟨p, 1, none⟩ = some (.int .i64 B) ∧ w'.cell? ⟨p, 2, none⟩ = some (.slice (some ⟨bl, 0, none⟩) n cap)) (first | (refine ⟨?_, ?_, ?_⟩ <;> assumption) | exact ⟨((((Below.refl _ w1).alloc (Nat.le_refl _) _).cell (p := ⟨p, 0, none⟩) hp1).trans d0), ((((Below.refl _ w1).alloc (Nat.le_refl _) _).cell (p := ⟨p, 1, none⟩) hp1).trans d1), ((((Below.refl _ w1).alloc (Nat.le_refl _) _).cell (p := ⟨p, 2, none⟩) hp1).trans d2)⟩) ((go_at_call 38; refine hcl.mono ?_; rintro e w1 ⟨g, cap', C', rfl, hg0, hR', hb0⟩; have hg : w.heap.size ≤ g := hg0; have hb : Below w.heap.size w w1 := hwd.trans hb0; clear hg0 hb0; have d0 := (hb.cell (p := ⟨p, 0, none⟩) hpl).trans c0; have d1 := (hb.cell (p := ⟨p, 1, none⟩) hpl).trans c1; have d2 := (hb.cell (p := ⟨p, 2, none⟩) hpl).trans c2; have hp1 : p < w1.heap.size := Nat.lt_of_lt_of_le hpl hb.size))
  rename_i hheld
  clear hheld d0 d1 d2 hcl
  have hg1 : g < w1.heap.size := (Array.getElem?_eq_some_iff.1 hR'.row).1
  have HB2 : Hid (Below w1.heap.size w1 (w1.alloc (.cells #[.int .i64 A, .int .i64 B, .slice (some ⟨g, 0, none⟩) n cap'] 62))) := ⟨(Below.refl _ w1).alloc (Nat.le_refl _) _⟩
  have HM : Hid (MapAt (w1.alloc (.cells #[.int .i64 A, .int .i64 B, .slice (some ⟨g, 0, none⟩) n cap'] 62)) w1.heap.size A B base g cap' l) := ⟨⟨by rw [hn]; exact heap_alloc_new w1 _, own2_below (hR'.own (Nat.le_trans hbs hg)) HB2.out, by omega, Nat.le_trans hbs hb.size, by omega⟩⟩
  clear hR'
  go_wp2
  go_ret
  exact ⟨w1.heap.size, g, rfl, ⟨⟨cap', HM.out⟩, HCan.out⟩, hb.size, hg, hb.trans (HB2.out.mono hb.size)⟩
end Go.Proofs.Ytcmibcmndiplbab
