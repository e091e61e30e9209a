/- A file's bytes. -/
import Derived.Test.YthohpbppfihoiaaU1
import Derived.Laws.IdiomStrings
namespace Go.Proofs.Ythohpbppfihoiaa
open Go.RowKit

/-- A string's bytes. -/
def strBs (s : ByteArray) : List Int := s.data.toList.map (fun b => (b.toNat : Int))
theorem strBs_len (s : ByteArray) : (strBs s).length = s.size := by simp [strBs]
/-- A file's name and generation. -/
def fB (nm : ByteArray) (g : Nat) : List Int := Oct.numB nm.size ++ strBs nm ++ Oct.numB g
section
variable {ops : Array Oper} {rest : List Oper} {o : Oper} {a : Act} {w : World} {Q : Exit → Act → World → Prop}
theorem wp_conv {s : ByteArray} (hgd : o.guard = none) (x : Operand) (ho : o.op = .convert 9 25 x) (hx : a.eval x = .string s) (hs : s.size ≤ maxLen)
    (h : ∀ v w', Oct.Bs w' v (strBs s) → Below w.heap.size w w' → wpList Try.prog ops Q rest (a.put o.dst v) w') : wpList Try.prog ops Q (o :: rest) a w := by
  refine wpList_plain hgd fun K hK => ?_
  unfold Oper.wp execOp
  simp only [ho, hx, run_bytes_of_string (P := Try.prog) w 9 25 5 s Try.underlying9 Try.underlying25 Try.underlying5, Sem.run_bind, Sem.run_pure, Result.andThen_ok]
  have b0 : Below w.heap.size w w.drew := ⟨rfl, rfl, rfl, Nat.le_refl _, fun _ _ => rfl⟩
  refine hK _ _ (h _ _ ?_ (b0.alloc (Nat.le_refl _) _))
  refine ⟨some ⟨w.heap.size, 0, none⟩, grownCap w s.size 0 5, by rw [strBs_len], by rw [strBs_len]; exact grownCap_ge w s.size 0 5, grownCap_le_maxLen w s.size 0 5 hs, by simp, fun y hy i hi => ?_⟩
  cases hy
  rw [strBs_len] at hi
  rw [Oct.add_plain, Nat.zero_add]
  have hb := heap_alloc_new w.drew (.cells (bytesRow s (grownCap w s.size 0 5)) 5 ((bytesRow s (grownCap w s.size 0 5)).size, (bytesRow s (grownCap w s.size 0 5)).size + 1))
  have e : w.drew.heap.size = w.heap.size := rfl
  rw [e] at hb
  rw [cell_of_row _ _ _ _ _ _ hb]
  have hi2 : i < s.data.size := hi
  rw [bytesRow_at s _ i hi2]
  simp only [strBs, List.getD_eq_getElem?_getD, List.getElem?_map, Array.getElem?_toList, Array.getElem?_eq_getElem hi2]
  rfl
end
section
variable {w : World}
set_option maxHeartbeats 4000000 in
set_option maxRecDepth 100000 in
theorem text28 (u : Value) (ps : List Int) (hu : Oct.Bs w u ps) (most : Int) (hl : (ps.length : Int) ≤ most) (hm : most ≤ 1000) :
    Calls Try.prog 28 #[u, .int .i64 most] w fun e w' => ∃ v, e = .returned v ∧ OwnY w' w.heap.size v (Oct.numB ps.length ++ ps) ∧ Below w.heap.size w w' := by
  have t := text43 u ps hu most hl hm
  clear hu
  go_enter Try.func28, Try.ntmps28
  go_wp2_with fail
  refine t.mono ?_
  rintro e w1 ⟨v1, rfl, hO1, hb1⟩
  have HO1 : Hid (OwnY w1 w.heap.size v1 (Oct.numB ps.length ++ ps)) := ⟨hO1⟩
  have HB1 : Hid (Below w.heap.size w w1) := ⟨hb1⟩
  clear t hO1 hb1
  go_wp2_with fail
  go_ret
  exact ⟨_, rfl, HO1.out, HB1.out⟩
set_option maxHeartbeats 4000000 in
set_option maxRecDepth 100000 in
theorem file22 (nm : ByteArray) (hn : nm.size ≤ 32) (g : Nat) (hg : g ≤ 9007199254740991) :
    Calls Try.prog 22 #[.string nm, .int .i64 (g : Int)] w fun e w' => ∃ v, e = .returned v ∧ OwnY w' w.heap.size v (fB nm g) ∧ Below w.heap.size w w' := by
  have hl := strBs_len nm
  have hl8 := Oct.numB_len8 g hg
  have hl9 := Oct.numB_len8 nm.size (by omega)
  unfold fB
  obtain ⟨S, HS⟩ : ∃ S, Hid (strBs nm = S) := ⟨_, ⟨rfl⟩⟩
  obtain ⟨N, HN⟩ : ∃ N, Hid (Oct.numB nm.size = N) := ⟨_, ⟨rfl⟩⟩
  obtain ⟨G, HG⟩ : ∃ G, Hid (Oct.numB g = G) := ⟨_, ⟨rfl⟩⟩
  rw [HS.out] at hl
  rw [HN.out] at hl9
  rw [HG.out] at hl8
  rw [HS.out, HN.out, HG.out]
  go_enter Try.func22, Try.ntmps22
  go_wp2_with (refine wp_conv rfl (.tmp 5) rfl rfl (Nat.le_trans hn (by decide)) ?_; intro v1 w1 hv1 hb1; rw [HS.out] at hv1)
  refine (text28 v1 S hv1 32 (by omega) (by decide)).mono ?_
  rintro e w2 ⟨v2, rfl, hO2, hb2⟩
  rw [hl, HN.out] at hO2
  have HB2 : Hid (Below w.heap.size w w2) := ⟨hb1.trans (hb2.mono hb1.size)⟩
  have HO2 : Hid (OwnY w2 w.heap.size v2 (N ++ S)) := ⟨Oct.OwnB.mono hO2 hb1.size⟩
  clear hv1 hb1 hO2 hb2
  go_wp2_with fail
  refine (nums1 g hg w2.heap.size (heap_alloc_new w2 _)).mono ?_
  rintro e w4 ⟨v4, rfl, hO4, hb4⟩
  rw [HG.out] at hO4
  have hb3 : Below w2.heap.size w2 (w2.alloc (.cells #[.int .i64 (g : Int)] 3)) := (Below.refl _ w2).alloc (Nat.le_refl _) _
  have HB24 : Hid (Below w2.heap.size w2 w4) := ⟨hb3.trans (hb4.mono hb3.size)⟩
  have HB4 : Hid (Below w.heap.size w w4) := ⟨HB2.out.trans (HB24.out.mono HB2.out.size)⟩
  have HO5 : Hid (OwnY w4 w.heap.size v2 (N ++ S)) := ⟨Oct.OwnB.below HO2.out HB24.out⟩
  have HR4 : Hid (RdY w4 v4 G) := ⟨OwnY.rd hO4⟩
  clear hO4 hb4 hb3
  go_wp2_with (at_builtin; refine wp_appY rfl (.tmp 7) (.tmp 10) rfl rfl HO5.out rfl HR4.out (by rw [List.length_append]; omega) HB4.out.size ?_; intro v5 w5 hO5 hC5 hw5)
  go_ret
  exact ⟨_, rfl, hO5, HB4.out.trans (hC5.below HB4.out.size (own_geY HO5.out))⟩
end
end Go.Proofs.Ythohpbppfihoiaa
