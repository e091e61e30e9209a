/- The law's live; the walk of RecordNames. -/
import Derived.Test.YtdcmagdglmmdkaaN9
namespace Go.Proofs.Ytdcmagdglmmdkaa
open Go.RowKit
theorem lv_b : numsB [1, 8, 300] = [1, 8, 172, 2] := by
  have h1 : Oct.numB 1 = [1] := Oct.numB_small 1 (by decide)
  have h8 : Oct.numB 8 = [8] := Oct.numB_small 8 (by decide)
  have h3 : Oct.numB 300 = [172, 2] := by
    rw [Oct.numB_big 300 (by decide), Oct.numB_small (300 / 128) (by decide)]
    rfl
  simp [numsB, h1, h8, h3]
theorem lv_0 : nm [1, 8, 172, 2] 0 = .ok (1, 1) := by rfl
theorem lv_1 : nm [1, 8, 172, 2] 1 = .ok (8, 2) := by rfl
theorem lv_2 : nm [1, 8, 172, 2] 2 = .ok (300, (([1, 8, 172, 2] : List Int).length : Int)) := by rfl
theorem lv_s : strOfNums [1, 8, 172, 2] = { data := #[1, 8, 172, 2] } := by rfl
theorem lv_a : nmB { data := #[97] } = true := by rfl
theorem lv_e : nmB { data := #[] } = false := by rfl
section
variable {w : World}
set_option maxHeartbeats 8000000 in
set_option maxRecDepth 100000 in
theorem live_any : Calls Try.prog 8 #[] w fun e w' => e = .returned (.bool true) ∧ Below w.heap.size w w' := by
  have HB1 : Hid (Below w.heap.size w (w.alloc (.cells (tk 300) 35))) := ⟨(Below.refl _ w).alloc (Nat.le_refl _) _⟩
  have t13 := put_tick (w := w.alloc (.cells (tk 300) 35)) 300 w.heap.size (by decide) (heap_alloc_new w _)
  rw [lv_b] at t13
  have la := lv_a
  have le := lv_e
  have hts : (tk 300).size = 14 := rfl
  go_enter Try.func8, Try.ntmps8
  go_upto_region 2 with (first
    | (refine wp_sliceE eltF rfl (.tmp 6) rfl (tk 300) rfl hts (by decide) ?_)
    | (go_at_call 13; refine t13.mono ?_; rintro e w2 ⟨v2, rfl, hO2, hb2⟩; clear t13))
  have HB2 : Hid (Below w.heap.size w w2) := ⟨HB1.out.trans (hb2.mono HB1.out.size)⟩
  have HO2 : Hid (OwnY w2 (w.alloc (.cells (tk 300) 35)).heap.size v2 [1, 8, 172, 2]) := ⟨hO2⟩
  have HY2 : Hid (Oct.Bs w2 v2 [1, 8, 172, 2]) := ⟨Oct.OwnB.bs hO2⟩
  have t15 := take_tick HY2.out (fun g hg => (hO2.lt g hg).2) (fun x hx => by simp at hx; omega) lv_0 lv_1 lv_2
  obtain ⟨a2, c2, rfl, _⟩ := OwnY.shape hO2
  clear hO2 hb2
  go_upto_region 3 with (go_at_call 15; refine t15.mono ?_; rintro e w3 ⟨v3, rfl, hO3, hb3⟩; clear t15)
  have HB3 : Hid (Below w.heap.size w w3) := ⟨HB2.out.trans (hb3.mono HB2.out.size)⟩
  have s3 := Oct.run_str Oct.Try.bt (HY2.out.below hb3) 9 Try.underlying9
  rw [lv_s] at s3
  obtain ⟨b3, o3, c3, rfl, hcell⟩ := (hO3.rd 0).at' 0 (by decide)
  have hc6 := hcell 6 (by decide)
  have hc6' : w3.cell? ⟨b3, o3 + 6, none⟩ = some (.int .i64 300) := by simpa [fc, tk] using hc6
  clear hcell hc6 hO3 hb3
  simp only [List.length_cons, List.length_nil, Nat.zero_add] at s3 ⊢
  go_wp2_with (go_at_call 9; refine (name_any _).mono ?_; rintro e w' ⟨rfl, ex⟩; subst ex)
  go_ret
  exact ⟨rfl, HB3.out⟩
end
end Go.Proofs.Ytdcmagdglmmdkaa
