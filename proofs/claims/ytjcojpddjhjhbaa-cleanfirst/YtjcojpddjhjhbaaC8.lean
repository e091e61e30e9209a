/- The heap's own Push. -/
import Derived.Test.YtjcojpddjhjhbaaC7
import Derived.Test.YtjcojpddjhjhbaaIntsE
namespace Go.Proofs.Ytjcojpddjhjhbaa
open Go.RowKit Go.Lib Go.Shelf

theorem ta27 (W : World) (x1 x2 x3 : Int) : (Instr.typeAssert (.iface 27 (.agg #[.int .i64 x1, .int .i64 x2, .int .i64 x3])) 20 27 true).run Try.prog W = .ok (.tuple #[.agg #[.int .i64 x1, .int .i64 x2, .int .i64 x3], .bool true]) W := by kernel_rfl
set_option maxHeartbeats 8000000 in
set_option maxRecDepth 100000 in
theorem push77 {w : World} {base b : Nat} {sl : Value} {L : List Sh} (h : Box w b base sl L) (hL : L.length ≤ 5864062014800) (hbase : base ≤ w.heap.size) (x1 x2 x3 : Int) :
    Calls Try.prog 77 #[.pointer (some ⟨b, 0, none⟩), .iface 27 (.agg #[.int .i64 x1, .int .i64 x2, .int .i64 x3])] w fun e w' => e = .returned (.tuple #[]) ∧ ∃ sl', Box w' b base sl' (L ++ [(x1, x2, x3)]) ∧ Chg (b :: ob sl) w w' := by
  have HX := Hid.mk h
  obtain ⟨a, c, rfl, hac, _⟩ := (h.own.rd s0).shape
  obtain ⟨n, Hn⟩ : ∃ n, Hid (L.length = n) := ⟨_, ⟨rfl⟩⟩
  rw [Hn.out] at h HX hac ⊢
  have hL' : n ≤ 5864062014800 := by rw [← Hn.out]; exact hL
  have Hnot := Hid.mk h.not
  have HObl : Hid (∀ g ∈ ob (.slice a n c), g < w.heap.size) := ⟨fun g hg => (h.own.lt g hg).2⟩
  have HbL := Hid.mk h.lt
  have hta := ta27 w x1 x2 x3
  clear h
  go_enter Try.func77, Try.ntmps77
  go_upto_region 2 with fail
  obtain ⟨q, Hq⟩ : ∃ x, Hid (w.heap.size = x) := ⟨_, ⟨rfl⟩⟩
  obtain ⟨w2, Hw2⟩ : ∃ x, Hid (w.alloc (.cells #[.int .i64 x1, .int .i64 x2, .int .i64 x3] 27) = x) := ⟨_, ⟨rfl⟩⟩
  have HB02 : Hid (Below w.heap.size w w2) := ⟨by rw [← Hw2.out]; exact (Below.refl _ w).alloc (Nat.le_refl _) _⟩
  have HQ2 : Hid (w2.heap[q]? = some (.cells #[.int .i64 x1, .int .i64 x2, .int .i64 x3] 27 (0, 0))) := ⟨by rw [← Hw2.out, ← Hq.out]; exact heap_alloc_new w _⟩
  have HBx2 : Hid (w2.heap[b]? = some (.cells #[(.slice a n c)] 56 (0, 0))) := ⟨(HB02.out.block b HbL.out).trans HX.out.box⟩
  have HO2 : Hid (OwnE sh3 3 27 w2 base (.slice a n c) L) := ⟨HX.out.own.far (Chg.ofBelow (X := []) HB02.out) (by simp)⟩
  have Hqn : Hid (q ∉ ob (.slice a n c)) := ⟨fun hm => by have := HObl.out q hm; have := Hq.out; omega⟩
  have Hqb : Hid (q ≠ b) := ⟨fun e => by have := HbL.out; have := Hq.out; omega⟩
  obtain ⟨z2, Hz2⟩ : ∃ x, Hid (w2.heap.size = x) := ⟨_, ⟨rfl⟩⟩
  have k2 : w2.drew.cell? ⟨b, 0, none⟩ = some (.slice a n c) := by have h2 : w2.cell? ⟨b, 0, none⟩ = some (.slice a n c) := (by rw [cell_of_row _ _ _ _ _ _ HBx2.out]; rfl); exact h2
  rw [Hw2.out, Hq.out]
  refine wp_region_held_drew (S := fun w' => w'.heap[q]? = some (.cells #[.int .i64 x1, .int .i64 x2, .int .i64 x3] 27 (0, 0))) (by kernel_rfl) HQ2.out (fun hS => ?_)
  refine wpAnyH_take (i := 0) (v := .pointer (some ⟨b, 0, none⟩)) rfl (by kernel_rfl) (by kernel_rfl) (by kernel_rfl) (fun _ _ _ h => h) (Or.inl ⟨by kernel_rfl, fun _ _ => by kernel_rfl⟩) hS ?_
  refine wpAnyH_take (i := 1) (v := .pointer (some ⟨b, 0, none⟩)) rfl (by kernel_rfl) (by kernel_rfl) (by kernel_rfl) (fun _ _ _ h => h) (Or.inl ⟨by kernel_rfl, fun _ _ => by kernel_rfl⟩) hS ?_
  refine wpAnyH_take (i := 2) (v := .pointer (some ⟨b, 0, none⟩)) rfl (by kernel_rfl) (by kernel_rfl) (by kernel_rfl) (fun _ _ _ h => h) (Or.inl ⟨by kernel_rfl, fun wx hx => by go_simp⟩) hS ?_
  refine wpAnyH_take (i := 4) (v := .agg #[.int .i64 x1, .int .i64 x2, .int .i64 x3]) rfl (by kernel_rfl) (by kernel_rfl) (by kernel_rfl) (fun _ _ _ h => h) (Or.inl ⟨by kernel_rfl, fun wx hx => by have c0 : wx.cell? ⟨q, 0, none⟩ = some (.int .i64 x1) := (by rw [cell_of_row _ _ _ _ _ _ hx]; rfl); have c1 : wx.cell? ⟨q, 1, none⟩ = some (.int .i64 x2) := (by rw [cell_of_row _ _ _ _ _ _ hx]; rfl); have c2 : wx.cell? ⟨q, 2, none⟩ = some (.int .i64 x3) := (by rw [cell_of_row _ _ _ _ _ _ hx]; rfl); go_simp⟩) hS ?_
  refine wpAnyH_ready (rs := [3, 5]) (by kernel_rfl) (by simp) (AllReadyH.cons rfl (fun Kc hK => ?_) (AllReadyH.cons rfl (fun Kc hK => ?_) AllReadyH.nil))
  · go_simp
    refine hK.out _ _ hS (fun hS => ?_)
    clear hK
    refine wpAnyH_ready (rs := [5]) (by kernel_rfl) (by simp) (AllReadyH.cons rfl (fun Kc hK => ?_) AllReadyH.nil)
    go_simp
    obtain ⟨W4, HW4⟩ : ∃ x, Hid ((w2.alloc (.cells #[.int .i64 x1, .int .i64 x2, .int .i64 x3] 27)).drew = x) := ⟨_, ⟨rfl⟩⟩
    have HB4 : Hid (Below w2.heap.size w2 W4) := ⟨by rw [← HW4.out]; exact below_drewN ((Below.refl _ w2).alloc (Nat.le_refl _) _) 1⟩
    have HR4 : Hid (RdE sh3 3 s0 W4 (.slice (some ⟨z2, 0, none⟩) 1 1) [(x1, x2, x3)]) := ⟨by rw [← HW4.out, ← Hz2.out]; exact (rde_one w2 ((x1, x2, x3) : Sh) rfl (sh3_one (x1, x2, x3)).2 27).far (X := []) (Chg.refl _ _).drew (by simp)⟩
    have HO4 : Hid (OwnE sh3 3 27 W4 base (.slice a n c) L) := ⟨HO2.out.far (Chg.ofBelow (X := []) HB4.out) (by simp)⟩
    have HBx4 : Hid (W4.heap[b]? = some (.cells #[(.slice a n c)] 56 (0, 0))) := ⟨(HB4.out.block b (Array.getElem?_eq_some_iff.1 HBx2.out).1).trans HBx2.out⟩
    have HQ4 : Hid (W4.heap[q]? = some (.cells #[.int .i64 x1, .int .i64 x2, .int .i64 x3] 27 (0, 0))) := ⟨(HB4.out.block q (Array.getElem?_eq_some_iff.1 HQ2.out).1).trans HQ2.out⟩
    have HC4 : Hid (Chg (b :: ob (.slice a n c)) w W4) := ⟨Chg.ofBelow (HB02.out.trans (HB4.out.mono HB02.out.size))⟩
    have hl1 : (L.length + [((x1, x2, x3) : Sh)].length) * 24 ≤ 140737488355328 := by simp; omega
    have hl2 : L.length + [((x1, x2, x3) : Sh)].length ≤ maxLen := by unfold maxLen; simp; omega
    have hl3 : base ≤ W4.heap.size := Nat.le_trans hbase (Nat.le_trans HB02.out.size HB4.out.size)
    rw [HW4.out, Hz2.out]
    refine hK.out _ _ HQ4.out (fun hS => ?_)
    clear hK k2
    refine wpAnyH_ready (rs := [6]) (by kernel_rfl) (by simp) (AllReadyH.cons rfl (fun Kc hK => ?_) AllReadyH.nil)
    refine rdy_of (by kernel_rfl) ?_
    refine op_appE (f := sh3) (d := s0) eltH (.tmp 15) (.tmp 17) rfl (by kernel_rfl) HO4.out (by kernel_rfl) HR4.out hl1 hl2 hl3 ?_
    intro v5 w5 hO5 hG5 hV5
    have HO5 := Hid.mk hO5
    have HG5 : Hid (Chg (ob (.slice a n c)) W4 w5) := ⟨hG5⟩
    have Hb5 : Hid (w5.heap[b]? = some (.cells #[(.slice a n c)] 56 (0, 0))) := ⟨(HG5.out.block b (Array.getElem?_eq_some_iff.1 HBx4.out).1 Hnot.out).trans HBx4.out⟩
    have Hq5 : Hid (w5.heap[q]? = some (.cells #[.int .i64 x1, .int .i64 x2, .int .i64 x3] 27 (0, 0))) := ⟨(HG5.out.block q (Array.getElem?_eq_some_iff.1 HQ4.out).1 Hqn.out).trans HQ4.out⟩
    obtain ⟨a5, c5, e5, _⟩ := (hO5.rd s0).shape
    subst e5
    obtain ⟨n5, Hn5⟩ : ∃ x, Hid ((L ++ [(x1, x2, x3)]).length = x) := ⟨_, ⟨rfl⟩⟩
    rw [Hn5.out] at HO5 ⊢
    have f5 : w5.frozen? ⟨b, 0, none⟩ = false := frozen_of_row w5 b _ _ 56 Hb5.out
    have k5 : w5.cell? ⟨b, 0, none⟩ = some (.slice a n c) := by rw [cell_of_row _ _ _ _ _ _ Hb5.out]; rfl
    refine hK.out _ _ Hq5.out (fun hS => ?_)
    clear hK hO5 hG5 hV5
    refine wpAnyH_take (i := 7) (v := .pointer (some ⟨b, 0, none⟩)) rfl (by kernel_rfl) (by kernel_rfl) (by kernel_rfl) (fun _ _ _ h => h) (Or.inl ⟨by kernel_rfl, fun wx hx => by go_simp⟩) hS ?_
    refine wpAnyH_ready (rs := [8]) (by kernel_rfl) (by simp) (AllReadyH.cons rfl (fun Kc hK => ?_) AllReadyH.nil)
    go_simp
    obtain ⟨V, HV⟩ : ∃ x, Hid (w5.setCell ⟨b, 0, none⟩ (.slice a5 n5 c5) = x) := ⟨_, ⟨rfl⟩⟩
    have HCV : Hid (Chg [b] w5 V) := ⟨by rw [← HV.out]; exact (Chg.refl [b] w5).setCell (.inl (by simp)) _⟩
    have HbV : Hid (V.heap[b]? = some (.cells #[.slice a5 n5 c5] 56 (0, 0))) := ⟨by rw [← HV.out]; have := heap_setCell_same w5 b 0 _ 56 (.slice a5 n5 c5) Hb5.out; simpa using this⟩
    have HOV : Hid (OwnE sh3 3 27 V base (.slice a5 n5 c5) (L ++ [(x1, x2, x3)])) := ⟨HO5.out.far HCV.out (fun g hg hm => by simp at hm; subst hm; obtain ⟨cs, hcs⟩ := HO5.out.ty _ hg; rw [Hb5.out] at hcs; simp at hcs)⟩
    have HqV : Hid (V.heap[q]? = some (.cells #[.int .i64 x1, .int .i64 x2, .int .i64 x3] 27 (0, 0))) := ⟨(HCV.out.block q (Array.getElem?_eq_some_iff.1 Hq5.out).1 (by simpa using Hqb.out)).trans Hq5.out⟩
    have HGV : Hid (Chg (b :: ob (.slice a n c)) w V) := ⟨(HC4.out.thenNew HG5.out (fun x hx => .inl (by simp [hx]))).thenNew HCV.out (fun x hx => .inl (by simp at hx; simp [hx]))⟩
    rw [HV.out]
    refine hK.out _ _ HqV.out (fun hS => ?_)
    clear hK hS f5 k5
    refine wpAnyH_done (by kernel_rfl) ?_ _
    go_simp
    go_wp2_with fail
    go_end0
    exact ⟨rfl, _, ⟨HbV.out, HOV.out⟩, HGV.out⟩
  · go_simp
    obtain ⟨W4, HW4⟩ : ∃ x, Hid ((w2.alloc (.cells #[.int .i64 x1, .int .i64 x2, .int .i64 x3] 27)).drew = x) := ⟨_, ⟨rfl⟩⟩
    have HB4 : Hid (Below w2.heap.size w2 W4) := ⟨by rw [← HW4.out]; exact below_drewN ((Below.refl _ w2).alloc (Nat.le_refl _) _) 1⟩
    have HR4 : Hid (RdE sh3 3 s0 W4 (.slice (some ⟨z2, 0, none⟩) 1 1) [(x1, x2, x3)]) := ⟨by rw [← HW4.out, ← Hz2.out]; exact (rde_one w2 ((x1, x2, x3) : Sh) rfl (sh3_one (x1, x2, x3)).2 27).far (X := []) (Chg.refl _ _).drew (by simp)⟩
    have HO4 : Hid (OwnE sh3 3 27 W4 base (.slice a n c) L) := ⟨HO2.out.far (Chg.ofBelow (X := []) HB4.out) (by simp)⟩
    have HBx4 : Hid (W4.heap[b]? = some (.cells #[(.slice a n c)] 56 (0, 0))) := ⟨(HB4.out.block b (Array.getElem?_eq_some_iff.1 HBx2.out).1).trans HBx2.out⟩
    have HQ4 : Hid (W4.heap[q]? = some (.cells #[.int .i64 x1, .int .i64 x2, .int .i64 x3] 27 (0, 0))) := ⟨(HB4.out.block q (Array.getElem?_eq_some_iff.1 HQ2.out).1).trans HQ2.out⟩
    have HC4 : Hid (Chg (b :: ob (.slice a n c)) w W4) := ⟨Chg.ofBelow (HB02.out.trans (HB4.out.mono HB02.out.size))⟩
    have hl1 : (L.length + [((x1, x2, x3) : Sh)].length) * 24 ≤ 140737488355328 := by simp; omega
    have hl2 : L.length + [((x1, x2, x3) : Sh)].length ≤ maxLen := by unfold maxLen; simp; omega
    have hl3 : base ≤ W4.heap.size := Nat.le_trans hbase (Nat.le_trans HB02.out.size HB4.out.size)
    have k4 : W4.cell? ⟨b, 0, none⟩ = some (.slice a n c) := by rw [cell_of_row _ _ _ _ _ _ HBx4.out]; rfl
    rw [HW4.out, Hz2.out]
    refine hK.out _ _ HQ4.out (fun hS => ?_)
    clear hK k2
    refine wpAnyH_ready (rs := [3]) (by kernel_rfl) (by simp) (AllReadyH.cons rfl (fun Kc hK => ?_) AllReadyH.nil)
    go_simp
    refine hK.out _ _ hS (fun hS => ?_)
    clear hK k4
    refine wpAnyH_ready (rs := [6]) (by kernel_rfl) (by simp) (AllReadyH.cons rfl (fun Kc hK => ?_) AllReadyH.nil)
    refine rdy_of (by kernel_rfl) ?_
    refine op_appE (f := sh3) (d := s0) eltH (.tmp 15) (.tmp 17) rfl (by kernel_rfl) HO4.out (by kernel_rfl) HR4.out hl1 hl2 hl3 ?_
    intro v5 w5 hO5 hG5 hV5
    have HO5 := Hid.mk hO5
    have HG5 : Hid (Chg (ob (.slice a n c)) W4 w5) := ⟨hG5⟩
    have Hb5 : Hid (w5.heap[b]? = some (.cells #[(.slice a n c)] 56 (0, 0))) := ⟨(HG5.out.block b (Array.getElem?_eq_some_iff.1 HBx4.out).1 Hnot.out).trans HBx4.out⟩
    have Hq5 : Hid (w5.heap[q]? = some (.cells #[.int .i64 x1, .int .i64 x2, .int .i64 x3] 27 (0, 0))) := ⟨(HG5.out.block q (Array.getElem?_eq_some_iff.1 HQ4.out).1 Hqn.out).trans HQ4.out⟩
    obtain ⟨a5, c5, e5, _⟩ := (hO5.rd s0).shape
    subst e5
    obtain ⟨n5, Hn5⟩ : ∃ x, Hid ((L ++ [(x1, x2, x3)]).length = x) := ⟨_, ⟨rfl⟩⟩
    rw [Hn5.out] at HO5 ⊢
    have f5 : w5.frozen? ⟨b, 0, none⟩ = false := frozen_of_row w5 b _ _ 56 Hb5.out
    have k5 : w5.cell? ⟨b, 0, none⟩ = some (.slice a n c) := by rw [cell_of_row _ _ _ _ _ _ Hb5.out]; rfl
    refine hK.out _ _ Hq5.out (fun hS => ?_)
    clear hK hO5 hG5 hV5
    refine wpAnyH_take (i := 7) (v := .pointer (some ⟨b, 0, none⟩)) rfl (by kernel_rfl) (by kernel_rfl) (by kernel_rfl) (fun _ _ _ h => h) (Or.inl ⟨by kernel_rfl, fun wx hx => by go_simp⟩) hS ?_
    refine wpAnyH_ready (rs := [8]) (by kernel_rfl) (by simp) (AllReadyH.cons rfl (fun Kc hK => ?_) AllReadyH.nil)
    go_simp
    obtain ⟨V, HV⟩ : ∃ x, Hid (w5.setCell ⟨b, 0, none⟩ (.slice a5 n5 c5) = x) := ⟨_, ⟨rfl⟩⟩
    have HCV : Hid (Chg [b] w5 V) := ⟨by rw [← HV.out]; exact (Chg.refl [b] w5).setCell (.inl (by simp)) _⟩
    have HbV : Hid (V.heap[b]? = some (.cells #[.slice a5 n5 c5] 56 (0, 0))) := ⟨by rw [← HV.out]; have := heap_setCell_same w5 b 0 _ 56 (.slice a5 n5 c5) Hb5.out; simpa using this⟩
    have HOV : Hid (OwnE sh3 3 27 V base (.slice a5 n5 c5) (L ++ [(x1, x2, x3)])) := ⟨HO5.out.far HCV.out (fun g hg hm => by simp at hm; subst hm; obtain ⟨cs, hcs⟩ := HO5.out.ty _ hg; rw [Hb5.out] at hcs; simp at hcs)⟩
    have HqV : Hid (V.heap[q]? = some (.cells #[.int .i64 x1, .int .i64 x2, .int .i64 x3] 27 (0, 0))) := ⟨(HCV.out.block q (Array.getElem?_eq_some_iff.1 Hq5.out).1 (by simpa using Hqb.out)).trans Hq5.out⟩
    have HGV : Hid (Chg (b :: ob (.slice a n c)) w V) := ⟨(HC4.out.thenNew HG5.out (fun x hx => .inl (by simp [hx]))).thenNew HCV.out (fun x hx => .inl (by simp at hx; simp [hx]))⟩
    rw [HV.out]
    refine hK.out _ _ HqV.out (fun hS => ?_)
    clear hK hS f5 k5
    refine wpAnyH_done (by kernel_rfl) ?_ _
    go_simp
    go_wp2_with fail
    go_end0
    exact ⟨rfl, _, ⟨HbV.out, HOV.out⟩, HGV.out⟩
end Go.Proofs.Ytjcojpddjhjhbaa
