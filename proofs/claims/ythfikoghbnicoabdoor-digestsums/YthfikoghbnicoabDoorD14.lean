/- Contract of live. -/
import Derived.Test.YthfikoghbnicoabDoorD13
import Derived.Lib.SlBytesConst
namespace Go.Proofs.YthfikoghbnicoabDoor
open Go.RowKit

/-- The program's variables. -/
structure Vars (w : World) : Prop where
  keys : KeysAt w KL
  start : StartAt w SL
  nibs : NibsAt w nibT
theorem Vars.below {w w' : World} (h : Vars w) (hb : Below w.heap.size w w') : Vars w' := ⟨h.keys.below hb, h.start.below hb, h.nibs.below hb⟩

theorem bs_lit (w : World) (bs : List Int) (cs : Array Value) (hcs : cs.toList = bs.map (Value.int .u8)) (m : Nat × Nat) (hm : bs.length ≤ maxLen) : Bs (w.alloc (.cells cs 5 m)) (.slice (some ⟨w.heap.size, 0, none⟩) bs.length bs.length) bs := by
  refine ⟨some ⟨w.heap.size, 0, none⟩, bs.length, rfl, Nat.le_refl _, hm, fun h => by simp at h, fun x hx i hi => ?_⟩
  simp only [Option.some.injEq] at hx
  subst hx
  rw [add_plain]
  have : (w.alloc (.cells cs 5 m)).heap[w.heap.size]? = some (.cells cs 5 m) := by
    show (w.heap.push _)[w.heap.size]? = _
    simp
  rw [cell_of_row _ _ _ cs 5 m this]
  have e : cs[0 + i]? = cs.toList[i]? := by simp
  rw [e, hcs, List.getElem?_map, List.getElem?_eq_getElem hi, List.getD_eq_getElem?_getD, List.getElem?_eq_getElem hi]
  rfl

set_option maxHeartbeats 1000000 in
theorem live_any (w : World) (hV : Vars w) : Calls Tryd.prog 9 #[] w fun e w' => e = .returned (.bool true) ∧ Below w.heap.size w w' := by
  have kc := fun (w : World) (C : Array Value) (n c : Nat) => Lib.run_convert_bytes_const (P := Tryd.prog) w 22 5 C n c Tryd.underlying22 Tryd.underlying5
  obtain ⟨w1, hw1⟩ : ∃ w1, w1 = w.alloc (.cells #[.int .u8 97, .int .u8 98, .int .u8 99] 5 (3, 4)) := ⟨_, rfl⟩
  have hb1 : Below w.heap.size w w1 := by rw [hw1]; exact (Below.refl _ w).alloc (Nat.le_refl _) _
  have HB1 : Hid (Bs w1 (.slice (some ⟨w.heap.size, 0, none⟩) 3 3) [97, 98, 99]) := by rw [hw1]; exact bs_lit w [97, 98, 99] _ rfl _ (by decide)
  have HV1 : Hid (Vars w1) := hV.below hb1
  clear hV
  have a0 := abc0
  have a1 := abc1
  have a31 := abc31
  obtain ⟨f, HF⟩ : ∃ f, Hid (f = outB (shaS KL SL [97, 98, 99])) := ⟨_, rfl⟩
  rw [← HF.out] at a0 a1 a31
  go_enter Tryd.func9, Tryd.ntmps9
  go_wp2_with (first
    | (go_at_call 10; change Calls Tryd.prog 10 #[.slice (some ⟨w.heap.size, 0, none⟩) 3 3] (w.alloc (.cells #[.int .u8 97, .int .u8 98, .int .u8 99] 5 (3, 4))) _; rw [← hw1]; refine (dsum_any _ [97, 98, 99] KL SL w1 HB1.out HV1.out.keys HV1.out.start (by decide) (by decide)).mono ?_; rw [← HF.out]; rintro e w2 ⟨rfl, hb2⟩)
    | (refine wpList_val rfl (alloc24 _ w2 1 "law.go:12") ?_; obtain ⟨w3, hw3⟩ : ∃ w3, w3 = w2.alloc (.cells (arr .u8 32 (fun _ => 0)) 24) := ⟨_, rfl⟩; rw [← hw3]; have hA3 : Arr w3 w2.heap.size 24 .u8 32 (fun _ => 0) := by rw [hw3]; exact Arr.new _ _ _ _ _)
    | (refine wpList_store_row rfl 24 (.tmp 1) (.tmp 4) rfl w2.heap.size (arr .u8 32 f) rfl rfl 24 (arr .u8 32 (fun _ => 0)) hA3 (by rw [arr_size]; exact info24) (by rw [arr_size, arr_size]) (arr_one _ _ _) ?_; obtain ⟨w4, hw4⟩ : ∃ w4, w4 = w3.setRow w2.heap.size (arr .u8 32 f) := ⟨_, rfl⟩; rw [← hw4]; have hA4 : Arr w4 w2.heap.size 24 .u8 32 f := by rw [hw4]; exact setRow_heap _ _ _ _ _ _ hA3
       have hb4 : Below w.heap.size w w4 := by rw [hw4, hw3]; exact below_setRow' ((hb1.trans (hb2.mono hb1.size)).alloc ((hb1.trans (hb2.mono hb1.size)).size) _) ((hb1.trans (hb2.mono hb1.size)).size) _
       have HV4 : Hid (Vars w4) := by
         have : Vars w2 := HV1.out.below hb2
         have h24 : Below w2.heap.size w2 w4 := by rw [hw4, hw3]; exact below_setRow' ((Below.refl _ w2).alloc (Nat.le_refl _) _) (Nat.le_refl _) _
         exact this.below h24
       have c0 := hA4.cell 0 (by decide)
       have c1 := hA4.cell 1 (by decide)
       have c31 := hA4.cell 31 (by decide)
       rw [a0] at c0
       rw [a1] at c1
       rw [a31] at c31
       clear hw4 hw3 hA3 HB1 HV1)
    | (go_at_call 18
       obtain ⟨w5, hw5⟩ : ∃ w5, w5 = w4.alloc (.cells #[.int .u8 49, .int .u8 50, .int .u8 51, .int .u8 52, .int .u8 53, .int .u8 54, .int .u8 55, .int .u8 56, .int .u8 57] 5 (9, 10)) := ⟨_, rfl⟩
       have hb5 : Below w4.heap.size w4 w5 := by rw [hw5]; exact (Below.refl _ w4).alloc (Nat.le_refl _) _
       have HB5 : Bs w5 (.slice (some ⟨w4.heap.size, 0, none⟩) 9 9) (il [49, 50, 51, 52, 53, 54, 55, 56, 57]) := by rw [hw5]; exact bs_lit w4 (il [49, 50, 51, 52, 53, 54, 55, 56, 57]) _ rfl _ (by decide)
       change Calls Tryd.prog 18 #[.slice (some ⟨w4.heap.size, 0, none⟩) 9 9] (w4.alloc (.cells #[.int .u8 49, .int .u8 50, .int .u8 51, .int .u8 52, .int .u8 53, .int .u8 54, .int .u8 55, .int .u8 56, .int .u8 57] 5 (9, 10))) _
       rw [← hw5]
       refine (crc_any nibT [49, 50, 51, 52, 53, 54, 55, 56, 57] _ w5 HB5 nibT_lt (HV4.out.below hb5).nibs (by decide)).mono ?_
       rw [crc_known]
       rintro e w6 ⟨rfl, rfl⟩
       have hb6 : Below w.heap.size w w5 := hb4.trans (hb5.mono hb4.size)
       clear hw5 HB5 c0 c1 c31 HV4 hA4))
  go_ret
  exact ⟨rfl, hb6⟩
end Go.Proofs.YthfikoghbnicoabDoor
