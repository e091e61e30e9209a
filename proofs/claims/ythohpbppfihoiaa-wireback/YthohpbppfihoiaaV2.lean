/- The document's texts. -/
import Derived.Test.YthohpbppfihoiaaV1
import Derived.Lib.AppendStr
namespace Go.Proofs.Ythohpbppfihoiaa
open Go.RowKit Go.Lib

theorem yv_str (s : ByteArray) : yv (strBs s) = strCells s := by
  unfold yv strBs strCells
  rw [List.map_map]
  rfl
section
variable {w : World}
set_option maxHeartbeats 4000000 in
set_option maxRecDepth 100000 in
theorem rtext30 (u : Value) (bs : List Int) (hu : Oct.Bs w u bs) (hl : bs.length ≤ 1000000) (s : ByteArray) (hs : s.size ≤ 1000000) :
    Calls Try.prog 30 #[u, .string s] w fun e w' => ∃ v, e = .returned v ∧ OwnY w' w.heap.size v (bs ++ Oct.numB s.size ++ strBs s) ∧ Below w.heap.size w w' := by
  have t := rnum29 u bs hu hl s.size (by omega)
  have hl8 := Oct.numB_len8 s.size (by omega)
  have hX : Hid ((bs ++ Oct.numB s.size).length ≤ 1000008) := ⟨by rw [List.length_append]; omega⟩
  obtain ⟨X, HX⟩ : ∃ X, Hid (bs ++ Oct.numB s.size = X) := ⟨_, ⟨rfl⟩⟩
  rw [HX.out] at t hX
  rw [HX.out]
  obtain ⟨i0, hi, hz0, hz1, hz2⟩ := info_parts' infoByte
  clear hu hl8
  go_enter Try.func30, Try.ntmps30
  go_wp2_with fail
  refine t.mono ?_
  rintro e w1 ⟨v1, rfl, hO1, hB1⟩
  have HO1 : Hid (OwnY w1 w.heap.size v1 X) := ⟨hO1⟩
  have HB1 : Hid (Below w.heap.size w w1) := ⟨hB1⟩
  clear t hO1 hB1
  go_wp2_with (at_builtin; refine wpList_append_own_string _ rfl (.tmp 8) (.tmp 9) 25 9 rfl w.heap.size 5 i0 Try.underlying25 Try.underlying9 hi hz0 hz1 hz2 v1 X.length (yv X) rfl HO1.out s rfl (by have := hX.out; unfold maxLen; omega) (by have := hX.out; omega) HB1.out.size ?_; intro v2 w2 h2 h3 h4)
  have hO2 : OwnY w2 w.heap.size v2 (X ++ strBs s) := by
    unfold OwnY
    rw [List.length_append, strBs_len, yv_app, yv_str]
    exact h2
  have hC2 : Chg (ob v1) w1 w2 := Chg.ofGrown h3
  go_ret
  exact ⟨_, rfl, hO2, HB1.out.trans (hC2.below HB1.out.size (own_geY HO1.out))⟩
end
end Go.Proofs.Ythohpbppfihoiaa
