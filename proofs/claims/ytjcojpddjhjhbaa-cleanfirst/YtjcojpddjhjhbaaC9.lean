/- The heap's own Pop; container/heap.Push and Pop. -/
import Derived.Test.YtjcojpddjhjhbaaC6
import Derived.Test.YtjcojpddjhjhbaaC8
namespace Go.Proofs.Ytjcojpddjhjhbaa
open Go.RowKit Go.Lib Go.Shelf

theorem at_app {L : List Sh} {x : Sh} {k : Nat} (h : k < L.length) : At (L ++ [x]) k = At L k := by
  unfold At
  simp only [List.getD]
  rw [List.getElem?_append_left h]
theorem at_take {L : List Sh} {n k : Nat} (h : k < n) : At (L.take n) k = At L k := by
  unfold At
  simp only [List.getD]
  rw [List.getElem?_take, if_pos h]
theorem par_lt {k : Nat} (h : 0 < k) : par k < k := by unfold par; omega
theorem up_last {L : List Sh} {x : Sh} (h : Heap L L.length) : HUp (L ++ [x]) (L.length + 1) L.length := by
  refine ⟨fun k h0 hk hne => ?_, fun k h0 hk hp _ => ?_⟩
  · have := par_lt h0
    rw [at_app (by omega), at_app (by omega)]
    exact h k h0 (by omega)
  · have := par_lt h0
    omega
theorem dn_first {L : List Sh} {n : Nat} (hl : L.length = n + 1) (h : Heap L (n + 1)) : HDn (swp L 0 n) n 0 := by
  refine ⟨fun k h0 hk hp => ?_, fun k h0 hk hp h1 => by omega⟩
  have := par_lt h0
  rw [swp_at (by omega) (by omega), swp_at (by omega) (by omega), if_neg (by omega), if_neg (by omega), if_neg (by omega), if_neg hp]
  exact h k h0 (by omega)
theorem take_last {M : List Sh} {n : Nat} (hl : M.length = n + 1) : M.Perm (At M n :: M.take n) := by
  have e : M = M.take n ++ [At M n] := by
    conv => lhs; rw [← List.take_append_drop n M]
    congr 1
    rw [List.drop_eq_getElem_cons (by omega), List.drop_eq_nil_of_le (by omega)]
    simp [At, List.getD, List.getElem?_eq_getElem (show n < M.length by omega)]
  conv => lhs; rw [e]
  exact List.perm_append_comm
theorem heap_take {M : List Sh} {n : Nat} (h : Heap M n) : Heap (M.take n) n := fun k h0 hk => by
  have := par_lt h0
  rw [at_take hk, at_take (by omega)]
  exact h k h0 hk
section
variable {w : World}
set_option maxHeartbeats 8000000 in
set_option maxRecDepth 100000 in
theorem pop76 {base b g n c : Nat} {L : List Sh} (h : Box w b base (.slice (some ⟨g, 0, none⟩) (n + 1) c) L) (hn : L.length = n + 1) (hc : c ≤ maxLen) (hbg : b ≠ g) :
    Calls Try.prog 76 #[.pointer (some ⟨b, 0, none⟩)] w fun e w' => e = .returned (.iface 27 (.agg #[.int .i64 (At L n).1, .int .i64 (At L n).2.1, .int .i64 (At L n).2.2])) ∧ Box w' b base (.slice (some ⟨g, 0, none⟩) n c) (L.take n) ∧ Chg [b, g] w w' := by
  have hi0 := own_cellE h.own s0 (j := 0) (i := n) (by omega) (by decide)
  have hi1 := own_cellE h.own s0 (j := 1) (i := n) (by omega) (by decide)
  have hi2 := own_cellE h.own s0 (j := 2) (i := n) (by omega) (by decide)
  unfold At
  obtain ⟨⟨x1, x2, x3⟩, Hx⟩ : ∃ x, Hid (L.getD n s0 = x) := ⟨_, ⟨rfl⟩⟩
  rw [Hx.out] at hi0 hi1 hi2 ⊢
  simp [sh3] at hi0 hi1 hi2
  have hcx : c ≤ 9223372036854775807 := hc
  have hnc : n + 1 ≤ c := by have := (h.own.rd s0).shape; obtain ⟨a', c', e', h1, _⟩ := this; simp at e'; omega
  have HX := Hid.mk h
  have Hg : Hid (g < w.heap.size) := ⟨(h.own.lt g (by simp [ob, Value.ownBlock])).2⟩
  have kb := h.cell
  have fb : w.frozen? ⟨b, 0, none⟩ = false := frozen_of_row w b _ _ 56 h.box
  obtain ⟨w2, Hw2⟩ : ∃ x, Hid (w.alloc (.cells #[.int .i64 x1, .int .i64 x2, .int .i64 x3] 27) = x) := ⟨_, ⟨rfl⟩⟩
  have HB2 : Hid (Below w.heap.size w w2) := ⟨by rw [← Hw2.out]; exact (Below.refl _ w).alloc (Nat.le_refl _) _⟩
  have HX2 : Hid (Box w2 b base (.slice (some ⟨g, 0, none⟩) (n + 1) c) L) := ⟨h.far (Chg.ofBelow (X := []) HB2.out) (by simp) (by simp)⟩
  have t3 := delete78 HX2.out.own hn hc
  have HQ2 : Hid (w2.heap[w.heap.size]? = some (.cells #[.int .i64 x1, .int .i64 x2, .int .i64 x3] 27 (0, 0))) := ⟨by rw [← Hw2.out]; exact heap_alloc_new w _⟩
  obtain ⟨m, Hm⟩ : ∃ m, Hid (n + 1 = m) := ⟨_, ⟨rfl⟩⟩
  rw [Hm.out] at t3 HX2 HX kb hnc
  simp only
  have hm1 : (m : Int) - 1 = (n : Int) := by have := Hm.out; omega
  have hm2 : (n : Int) + 1 = (m : Int) := by have := Hm.out; omega
  have hmn : n < m := by have := Hm.out; omega
  have hmz : (n : Int) < (m : Int) := by omega
  have Hbl : Hid (b < w.heap.size) := ⟨h.lt⟩
  have Hbg := Hid.mk hbg
  clear h hn hbg
  go_enter Try.func76, Try.ntmps76
  go_upto_region 3 with fail
  rw [Hw2.out]
  have kb2 := HX2.out.cell
  clear hi0 hi1 hi2 kb fb
  go_wp2_with fail
  refine t3.mono ?_
  rintro e w3 ⟨rfl, hO3, hG3⟩
  have HO3 := Hid.mk hO3
  have HG3 := Hid.mk hG3
  have Hb3 : Hid (w3.heap[b]? = some (.cells #[.slice (some ⟨g, 0, none⟩) m c] 56 (0, 0))) := ⟨(hG3.block b HX2.out.lt (by simpa using Hbg.out)).trans HX2.out.box⟩
  have Hq3 : Hid (w3.heap[w.heap.size]? = some (.cells #[.int .i64 x1, .int .i64 x2, .int .i64 x3] 27 (0, 0))) := ⟨(hG3.block _ (Array.getElem?_eq_some_iff.1 HQ2.out).1 (by have := Hg.out; simp; omega)).trans HQ2.out⟩
  have k3 : w3.cell? ⟨b, 0, none⟩ = some (.slice (some ⟨g, 0, none⟩) m c) := by rw [cell_of_row _ _ _ _ _ _ Hb3.out]; rfl
  have f3 : w3.frozen? ⟨b, 0, none⟩ = false := frozen_of_row w3 b _ _ 56 Hb3.out
  clear hO3 hG3 t3 kb2
  obtain ⟨q, Hq⟩ : ∃ x, Hid (w.heap.size = x) := ⟨_, ⟨rfl⟩⟩
  rw [Hq.out] at Hq3 ⊢
  go_upto_region 4 with fail
  obtain ⟨V, HV⟩ : ∃ x, Hid (w3.setCell ⟨b, 0, none⟩ (.slice (some ⟨g, 0, none⟩) n c) = x) := ⟨_, ⟨rfl⟩⟩
  have HCV : Hid (Chg [b] w3 V) := ⟨by rw [← HV.out]; exact (Chg.refl [b] w3).setCell (.inl (by simp)) _⟩
  have HbV : Hid (V.heap[b]? = some (.cells #[.slice (some ⟨g, 0, none⟩) n c] 56 (0, 0))) := ⟨by rw [← HV.out]; have := heap_setCell_same w3 b 0 _ 56 (.slice (some ⟨g, 0, none⟩) n c) Hb3.out; simpa using this⟩
  have HqV : Hid (V.heap[q]? = some (.cells #[.int .i64 x1, .int .i64 x2, .int .i64 x3] 27 (0, 0))) := ⟨(HCV.out.block q (Array.getElem?_eq_some_iff.1 Hq3.out).1 (by have := Hbl.out; have := Hq.out; simp; omega)).trans Hq3.out⟩
  have c0 : V.cell? ⟨q, 0, none⟩ = some (.int .i64 x1) := by rw [cell_of_row _ _ _ _ _ _ HqV.out]; rfl
  have c1 : V.cell? ⟨q, 1, none⟩ = some (.int .i64 x2) := by rw [cell_of_row _ _ _ _ _ _ HqV.out]; rfl
  have c2 : V.cell? ⟨q, 2, none⟩ = some (.int .i64 x3) := by rw [cell_of_row _ _ _ _ _ _ HqV.out]; rfl
  have HBV : Hid (Box V b base (.slice (some ⟨g, 0, none⟩) n c) (L.take n)) := ⟨⟨HbV.out, HO3.out.far HCV.out (fun x hx hm => by simp [ob, Value.ownBlock] at hx hm; exact Hbg.out (hm.symm.trans hx))⟩⟩
  have HGV : Hid (Chg [b, g] w V) := ⟨((Chg.ofBelow (X := [b, g]) HB2.out).trans (HG3.out.mono (by simp))).trans (HCV.out.mono (by simp))⟩
  rw [HV.out]
  clear k3 f3
  go_wp2_with fail
  go_ret
  exact ⟨rfl, HBV.out, HGV.out⟩
end
end Go.Proofs.Ytjcojpddjhjhbaa
