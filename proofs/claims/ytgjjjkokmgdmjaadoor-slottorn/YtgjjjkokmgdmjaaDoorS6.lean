/- A sector out of bytes. -/
import Derived.Test.YtgjjjkokmgdmjaaDoorS5
namespace Go.Proofs.YtgjjjkokmgdmjaaDoor
open Go.RowKit
/-- The first bytes, the others are 0. -/
def part (l : List Int) (k : Nat) : List Int := l.take k ++ List.replicate (128 - k) 0
theorem part_len {l : List Int} (h : l.length = 128) {k : Nat} (hk : k ≤ 128) : (part l k).length = 128 := by simp [part]; omega
theorem part_put {l : List Int} (h : l.length = 128) {k n : Nat} (hk : k + n ≤ 128) : putAt (part l k) k ((l.drop k).take n) = part l (k + n) := by
  unfold putAt part
  have h1 : (l.take k).length = k := by simp; omega
  have h2 : ((l.drop k).take n).length = n := by simp; omega
  have e1 : (l.take k ++ List.replicate (128 - k) (0 : Int)).take k = l.take k := by rw [List.take_append_of_le_length (by omega), List.take_of_length_le (by omega)]
  have e2 : (l.take k ++ List.replicate (128 - k) (0 : Int)).drop (k + n) = List.replicate (128 - (k + n)) 0 := by
    rw [List.drop_append, h1, show (l.take k).drop (k + n) = [] from List.drop_eq_nil_of_le (by omega), List.nil_append, List.drop_replicate]
    congr 1
    omega
  rw [h2, e1, e2, ← List.take_add]
theorem part_zero (l : List Int) : part l 0 = Dk.zp := by simp [part, Dk.zp]
theorem part_all {l : List Int} (h : l.length = 128) : part l 128 = l := by simp [part, List.take_of_length_le (show l.length ≤ 128 by omega)]
section
variable {w : World}
set_option maxHeartbeats 8000000 in
set_option maxRecDepth 100000 in
theorem parted_any (v : Value) (l : List Int) (hl : l.length = 128) (hv : Oc.Bs w v l) : Calls Tryd.prog 35 #[v] w fun e w' => e = .returned (.agg (Dk.pa l)) ∧ Below w.heap.size w w' := by
  have Hl : Hid (l.length = 128) := ⟨hl⟩
  have Hv : Hid (Oc.Bs w v l) := ⟨hv⟩
  rcases Oc.Bs.cases hv with ⟨e, _⟩ | ⟨_, g, o, cap, e, h1, h2, hc⟩
  · subst e; simp at hl
  rw [hl] at e h1 hc
  subst e
  have HC : Hid (∀ i, i < 128 → w.cell? ⟨g, o + i, none⟩ = some (.int .u8 (l.getD i 0))) := ⟨hc.2⟩
  have Hgl : Hid (g < w.heap.size) := ⟨hc.1⟩
  obtain ⟨b, Hb⟩ : ∃ b, Hid (w.heap.size = b) := ⟨_, ⟨rfl⟩⟩
  obtain ⟨w1, Hw1⟩ : ∃ w1, Hid (w.alloc (.cells (Dk.pa Dk.zp) 59) = w1) := ⟨_, ⟨rfl⟩⟩
  have HR1 : Hid (w1.heap[b]? = some (.cells (Dk.pa Dk.zp) 59 (0, 0))) := ⟨by rw [← Hw1.out, ← Hb.out]; exact heap_alloc_new w _⟩
  have Hs1 : Hid (w1.heap.size = b + 1) := ⟨by rw [← Hw1.out, ← Hb.out]; simp⟩
  obtain ⟨s, Hs⟩ : ∃ s, Hid (w1.heap.size = s) := ⟨_, ⟨rfl⟩⟩
  obtain ⟨w2, Hw2⟩ : ∃ w2, Hid (w1.alloc (.cells (Dk.pa Dk.zp) 59) = w2) := ⟨_, ⟨rfl⟩⟩
  have HS2 : Hid (w2.heap[s]? = some (.cells (Dk.pa Dk.zp) 59 (0, 0))) := ⟨by rw [← Hw2.out, ← Hs.out]; exact heap_alloc_new w1 _⟩
  have HB02 : Hid (Below w.heap.size w w2) := ⟨by rw [← Hw2.out, ← Hw1.out]; exact ((Below.refl _ w).alloc (Nat.le_refl _) _).alloc (by simp) _⟩
  have HR2 : Hid (w2.heap[b]? = some (.cells (Dk.pa Dk.zp) 59 (0, 0))) := ⟨by rw [← Hw2.out]; exact (Below.heap_alloc w1 _ b (Array.getElem?_eq_some_iff.1 HR1.out).1).trans HR1.out⟩
  obtain ⟨q, Hq⟩ : ∃ q, Hid (w2.heap.size = q) := ⟨_, ⟨rfl⟩⟩
  have Hqs : Hid (s = b + 1 ∧ q = b + 2 ∧ g < b) := ⟨by have h1 := Hs1.out; have h2 := Hs.out; have h3 : w2.heap.size = w1.heap.size + 1 := (by rw [← Hw2.out]; simp); have h4 := Hq.out; have h5 := Hb.out; have h6 := Hgl.out; omega⟩
  obtain ⟨w3, Hw3⟩ : ∃ x, Hid ((w2.alloc (.cells #[.slice (some ⟨s, 0, none⟩) 116 116, .slice (some ⟨s, 116, none⟩) 4 4, .slice (some ⟨s, 120, none⟩) 8 8] 23)).drew = x) := ⟨_, ⟨rfl⟩⟩
  have HC23 : Hid (Below w2.heap.size w2 w3) := ⟨by rw [← Hw3.out]; exact ((Below.refl _ w2).alloc (Nat.le_refl _) _).drew⟩
  have HQ3 : Hid (w3.heap[q]? = some (.cells #[.slice (some ⟨s, 0, none⟩) 116 116, .slice (some ⟨s, 116, none⟩) 4 4, .slice (some ⟨s, 120, none⟩) 8 8] 23 (0, 0))) := ⟨by rw [← Hw3.out, ← Hq.out]; exact heap_alloc_new w2 _⟩
  have HQ : Hid (∀ w', Dk.Chg [s] w3 w' → w'.heap[q]? = some (.cells #[.slice (some ⟨s, 0, none⟩) 116 116, .slice (some ⟨s, 116, none⟩) 4 4, .slice (some ⟨s, 120, none⟩) 8 8] 23 (0, 0))) := ⟨fun w' hc => (hc.block q (Array.getElem?_eq_some_iff.1 HQ3.out).1 (by have := Hqs.out; simp; omega)).trans HQ3.out⟩
  have HB03 : Hid (Below w.heap.size w w3) := ⟨HB02.out.trans (HC23.out.mono HB02.out.size)⟩
  have HR3 : Hid (∀ w', Dk.Chg [s] w3 w' → w'.heap[b]? = some (.cells (Dk.pa Dk.zp) 59 (0, 0))) := ⟨fun w' hc => by
    have h0 : w3.heap[b]? = some (.cells (Dk.pa Dk.zp) 59 (0, 0)) := (HC23.out.block b (Array.getElem?_eq_some_iff.1 HR2.out).1).trans HR2.out
    exact (hc.block b (Array.getElem?_eq_some_iff.1 h0).1 (by have := Hqs.out; simp; omega)).trans h0⟩
  have HS3 : Hid (w3.heap[s]? = some (.cells (Dk.pa (part l 0)) 59 (0, 0))) := ⟨by rw [part_zero]; exact (HC23.out.block s (Array.getElem?_eq_some_iff.1 HS2.out).1).trans HS2.out⟩
  have Hsrc : Hid (∀ w', Dk.Chg [s] w3 w' → ∀ k oo cc, k ≤ 128 → oo = o + k → cc = cap - k → Oc.Bs w' (.slice (some ⟨g, oo, none⟩) (128 - k) cc) (l.drop k)) := ⟨fun w' hc k oo cc hk e1 e2 => by
    subst e1 e2
    have hll : (l.drop k).length = 128 - k := by simp [Hl.out]
    refine ⟨some ⟨g, o + k, none⟩, cap - k, by rw [hll], by rw [hll]; omega, by omega, by simp, fun x hx i hi => ?_⟩
    cases hx
    rw [hll] at hi
    have h0 : w3.cell? ⟨g, o + (k + i), none⟩ = some (.int .u8 (l.getD (k + i) 0)) := (HB03.out.cell (p := ⟨g, o + (k + i), none⟩) Hgl.out).trans (HC.out (k + i) (by omega))
    rw [Oc.add_plain, Nat.add_assoc, hc.cell (a := ⟨g, o + (k + i), none⟩) (World.block_lt_of_cell? _ _ h0) (by have := Hqs.out; simp; omega), h0]
    simp [List.getD, List.getElem?_drop]⟩
  go_enter Tryd.func35, Tryd.ntmps35
  go_upto_region 2 with (refine wpl_alloc59 rfl rfl ?_)
  rw [Hw1.out]
  first | rw [Hw2.out] | skip
  rw [Hb.out]
  have e1 : b + 1 = s := Hqs.out.1.symm
  first | rw [Hs.out] | rw [e1] | skip
  clear e1
  refine wp_region_held_drew (S := (fun _ => True)) (by kernel_rfl) trivial (fun hS => ?_)
  refine wpAnyH_take (i := 0) (v := .pointer (some ⟨s, 0, none⟩)) rfl (by kernel_rfl) (by kernel_rfl) (by kernel_rfl) (fun _ _ _ h => h) (Or.inl ⟨by kernel_rfl, fun wx hx => by go_simp⟩) hS ?_
  refine wpAnyH_take (i := 1) (v := .slice (some ⟨s, 0, none⟩) 116 116) rfl (by kernel_rfl) (by kernel_rfl) (by kernel_rfl) (fun _ _ _ h => h) (Or.inl ⟨by kernel_rfl, fun wx hx => by go_simp⟩) hS ?_
  refine wpAnyH_take (i := 2) (v := .pointer (some ⟨s, 116, none⟩)) rfl (by kernel_rfl) (by kernel_rfl) (by kernel_rfl) (fun _ _ _ h => h) (Or.inl ⟨by kernel_rfl, fun wx hx => by go_simp⟩) hS ?_
  refine wpAnyH_take (i := 3) (v := .slice (some ⟨s, 116, none⟩) 4 4) rfl (by kernel_rfl) (by kernel_rfl) (by kernel_rfl) (fun _ _ _ h => h) (Or.inl ⟨by kernel_rfl, fun wx hx => by go_simp⟩) hS ?_
  refine wpAnyH_take (i := 4) (v := .pointer (some ⟨s, 120, none⟩)) rfl (by kernel_rfl) (by kernel_rfl) (by kernel_rfl) (fun _ _ _ h => h) (Or.inl ⟨by kernel_rfl, fun wx hx => by go_simp⟩) hS ?_
  refine wpAnyH_take (i := 5) (v := .slice (some ⟨s, 120, none⟩) 8 8) rfl (by kernel_rfl) (by kernel_rfl) (by kernel_rfl) (fun _ _ _ h => h) (Or.inl ⟨by kernel_rfl, fun wx hx => by go_simp⟩) hS ?_
  refine wpAnyH_take (i := 8) (v := .int .i64 0) rfl (by kernel_rfl) (by kernel_rfl) (by kernel_rfl) (fun _ _ _ h => h) (Or.inl ⟨by kernel_rfl, fun _ _ => by kernel_rfl⟩) hS ?_
  refine wpAnyH_ready (rs := [6]) (by kernel_rfl) (by simp) (AllReadyH.cons rfl (fun Kc hK => ?_) AllReadyH.nil)
  go_simp
  refine hK.out _ _ trivial (fun hS => ?_)
  clear hK
  refine wpAnyH_take (i := 7) (v := .int .i64 3) rfl (by kernel_rfl) (by kernel_rfl) (by kernel_rfl) (fun _ _ _ h => h) (Or.inl ⟨by kernel_rfl, fun wx hx => by go_simp⟩) hS ?_
  refine wpAnyH_done (by kernel_rfl) ?_ _
  clear hS
  rw [Hw3.out]
  first | rw [Hq.out] | skip
  go_simp
  go_wp2_with fail
  go_loopg [0, 14] 3 (fun gg s0 s14 wr => ∃ k : Nat, k ≤ 3 ∧ 3 - k ≤ gg ∧ s14 = .int .i64 (k : Int) ∧ (k = 0 → s0 = .slice (some ⟨g, o, none⟩) 128 cap) ∧ (k = 1 → s0 = .slice (some ⟨g, o + 116, none⟩) 12 (cap - 116)) ∧ (k = 2 → s0 = .slice (some ⟨g, o + 116 + 4, none⟩) 8 (cap - 116 - 4)) ∧ Hid (wr.heap[s]? = some (.cells (Dk.pa (part l ([0, 116, 120, 128].getD k 0))) 59 (0, 0))) ∧ Hid (Dk.Chg [s] w3 wr))
  case atStart => exact ⟨0, by decide, by decide, rfl, fun _ => rfl, fun h => by omega, fun h => by omega, HS3, ⟨Dk.Chg.refl _ _⟩⟩
  case round =>
    obtain ⟨k, hk, hgg, rfl, h0, h1x, h2x, HPk, HG⟩ := hrel
    rcases (by omega : k = 0 ∨ k = 1 ∨ k = 2 ∨ k = 3) with rfl | rfl | rfl | rfl
    · clear h1x h2x
      have es := h0 rfl
      subst es
      have HP : Hid (wr.heap[s]? = some (.cells (Dk.pa (part l 0)) 59 (0, 0))) := HPk
      have hce : wr.cell? ⟨q, 0, none⟩ = some (.slice (some ⟨s, 0, none⟩) 116 116) := by rw [cell_of_row _ _ _ _ _ _ (HQ.out _ HG.out)]; rfl
      have hput : (Builtin.copy_ #[23, 23] 3 #[.slice (some ⟨s, 0, none⟩) 116 116, .slice (some ⟨g, o, none⟩) 128 (cap)]).run Tryd.prog wr = .ok (goInt 116) (wr.setRow s (Dk.pa (part l 116))) := by
        have z := run_put wr 3 s 0 116 116 59 (part l 0) (some ⟨g, o, none⟩) 128 (cap) (l.drop 0) HP.out (Hsrc.out _ HG.out 0 (o) (cap) (by decide) (by omega) (by omega)) (by decide) (by rw [part_len Hl.out (by decide)]; decide)
        rw [part_put Hl.out (by decide)] at z
        exact z
      obtain ⟨wz, Hwz⟩ : ∃ x, Hid (wr.setRow s (Dk.pa (part l 116)) = x) := ⟨_, ⟨rfl⟩⟩
      rw [Hwz.out] at hput
      have HPz : Hid (wz.heap[s]? = some (.cells (Dk.pa (part l 116)) 59 (0, 0))) := ⟨by rw [← Hwz.out]; exact setRow_heap _ _ _ _ 59 (0, 0) HP.out⟩
      have HGz : Hid (Dk.Chg [s] w3 wz) := ⟨by rw [← Hwz.out]; exact HG.out.setRow (.inl (by simp)) _⟩
      have hcp : 128 ≤ cap := h1
      go_wp2_with fail
      go_roundg 2
      case measure => omega
      case rel => exact ⟨1, by decide, by decide, by go_num, fun h => by omega, fun _ => rfl, fun h => by omega, HPz, HGz⟩
    · clear h0 h2x
      have es := h1x rfl
      subst es
      have HP : Hid (wr.heap[s]? = some (.cells (Dk.pa (part l 116)) 59 (0, 0))) := HPk
      have hce : wr.cell? ⟨q, 1, none⟩ = some (.slice (some ⟨s, 116, none⟩) 4 4) := by rw [cell_of_row _ _ _ _ _ _ (HQ.out _ HG.out)]; rfl
      have hput : (Builtin.copy_ #[23, 23] 3 #[.slice (some ⟨s, 116, none⟩) 4 4, .slice (some ⟨g, o + 116, none⟩) 12 (cap - 116)]).run Tryd.prog wr = .ok (goInt 4) (wr.setRow s (Dk.pa (part l 120))) := by
        have z := run_put wr 3 s 116 4 4 59 (part l 116) (some ⟨g, o + 116, none⟩) 12 (cap - 116) (l.drop 116) HP.out (Hsrc.out _ HG.out 116 (o + 116) (cap - 116) (by decide) (by omega) (by omega)) (by decide) (by rw [part_len Hl.out (by decide)]; decide)
        rw [part_put Hl.out (by decide)] at z
        exact z
      obtain ⟨wz, Hwz⟩ : ∃ x, Hid (wr.setRow s (Dk.pa (part l 120)) = x) := ⟨_, ⟨rfl⟩⟩
      rw [Hwz.out] at hput
      have HPz : Hid (wz.heap[s]? = some (.cells (Dk.pa (part l 120)) 59 (0, 0))) := ⟨by rw [← Hwz.out]; exact setRow_heap _ _ _ _ 59 (0, 0) HP.out⟩
      have HGz : Hid (Dk.Chg [s] w3 wz) := ⟨by rw [← Hwz.out]; exact HG.out.setRow (.inl (by simp)) _⟩
      have hcp : 128 ≤ cap := h1
      go_wp2_with fail
      go_roundg 1
      case measure => omega
      case rel => exact ⟨2, by decide, by decide, by go_num, fun h => by omega, fun h => by omega, fun _ => rfl, HPz, HGz⟩
    · clear h0 h1x
      have es := h2x rfl
      subst es
      have HP : Hid (wr.heap[s]? = some (.cells (Dk.pa (part l 120)) 59 (0, 0))) := HPk
      have hce : wr.cell? ⟨q, 2, none⟩ = some (.slice (some ⟨s, 120, none⟩) 8 8) := by rw [cell_of_row _ _ _ _ _ _ (HQ.out _ HG.out)]; rfl
      have hput : (Builtin.copy_ #[23, 23] 3 #[.slice (some ⟨s, 120, none⟩) 8 8, .slice (some ⟨g, o + 116 + 4, none⟩) 8 (cap - 116 - 4)]).run Tryd.prog wr = .ok (goInt 8) (wr.setRow s (Dk.pa (part l 128))) := by
        have z := run_put wr 3 s 120 8 8 59 (part l 120) (some ⟨g, o + 116 + 4, none⟩) 8 (cap - 116 - 4) (l.drop 120) HP.out (Hsrc.out _ HG.out 120 (o + 116 + 4) (cap - 116 - 4) (by decide) (by omega) (by omega)) (by decide) (by rw [part_len Hl.out (by decide)]; decide)
        rw [part_put Hl.out (by decide)] at z
        exact z
      obtain ⟨wz, Hwz⟩ : ∃ x, Hid (wr.setRow s (Dk.pa (part l 128)) = x) := ⟨_, ⟨rfl⟩⟩
      rw [Hwz.out] at hput
      have HPz : Hid (wz.heap[s]? = some (.cells (Dk.pa (part l 128)) 59 (0, 0))) := ⟨by rw [← Hwz.out]; exact setRow_heap _ _ _ _ 59 (0, 0) HP.out⟩
      have HGz : Hid (Dk.Chg [s] w3 wz) := ⟨by rw [← Hwz.out]; exact HG.out.setRow (.inl (by simp)) _⟩
      have hcp : 128 ≤ cap := h1
      go_wp2_with fail
      all_goals go_roundg 0
      all_goals first
        | omega
        | exact ⟨3, by decide, by decide, by go_num, fun h => by omega, fun h => by omega, fun h => by omega, HPz, HGz⟩
    · clear h0 h1x h2x
      have HP3 : Hid (wr.heap[s]? = some (.cells (Dk.pa l) 59 (0, 0))) := ⟨by rw [← part_all Hl.out]; exact HPk.out⟩
      have HRr := Dk.Hid.mk (HR3.out _ HG.out)
      have hi59 : (Tryd.prog.info? 59).map (·.size) = some (Dk.pa l).size := by rw [Dk.pa_size, Hl.out]; exact info59
      have HBr : Hid (Below w.heap.size w wr) := ⟨HB03.out.trans (HG.out.below HB03.out.size (by have := Hqs.out; have := Hb.out; simp; omega))⟩
      have HBB : Hid (Below w.heap.size w (wr.setRow b (Dk.pa l))) := ⟨Dk.below_setRow' HBr.out (by rw [Hb.out]; exact Nat.le_refl _) _⟩
      have HRB : Hid ((wr.setRow b (Dk.pa l)).heap[b]? = some (.cells (Dk.pa l) 59 (0, 0))) := ⟨setRow_heap _ _ _ _ 59 (0, 0) HRr.out⟩
      go_wp2_with (first
        | (refine wpList_load_row rfl 59 (.tmp 3) rfl s rfl 59 (Dk.pa l) (0, 0) _ HP3.out Tryd.underlying59 rfl hi59 ?_)
        | (refine wpList_store_row rfl 59 (.tmp 2) (.tmp 24) rfl b (Dk.pa l) rfl rfl 59 (Dk.pa Dk.zp) HRr.out hi59 (by rw [Dk.pa_size, Dk.pa_size, Hl.out]; simp [Dk.zp]) (Dk.pa_one _) ?_; refine wpList_nil ?_; rename_i hcont; refine hcont _ _ (wp_ret ?_); refine bodyPost_ret (v := .agg (Dk.pa l)) (results_cell_row (p := 2) Tryd.results35 _ _ b 59 _ (0, 0) _ (by kernel_rfl) HRB.out Tryd.underlying59 rfl hi59) rfl ?_))
      exact HBB.out
end
end Go.Proofs.YtgjjjkokmgdmjaaDoor
