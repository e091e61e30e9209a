/- Texts joined into one: H7, H8, H9, H10, H11. -/
import Derived.Test.YtfecngncapenjaaGh
import Derived.BigRegion
import Derived.RegionTactic
import Derived.Test.YtfecngncapenjaaIntsE
/- slices.Delete of a row's last share; the heap's own Push and Pop. -/
namespace Go.Proofs.Ytfecngncapenjaa
open Go.RowKit Go.Lib Go.Shelf

/-- So many trees' zeros. -/
def zcl (n : Nat) : List Value := (Builtin.zeroCells (Value.agg #[.int .i64 0, .int .u8 0, .slice none 0 0]).cells n).toList
theorem zcl_len (n : Nat) : (zcl n).length = n * 3 := by simp [zcl, Builtin.zeroCells, Value.cells]
theorem zcl_one (n : Nat) : ∀ u ∈ zcl n, u.oneCell' = true := fun u hu => by
  simp only [zcl, Builtin.zeroCells, Value.cells, Array.toList_map, List.mem_map] at hu
  obtain ⟨i, _, rfl⟩ := hu
  have h : i % 3 = 0 ∨ i % 3 = 1 ∨ i % 3 = 2 := by omega
  rcases h with h | h | h <;> simp [h] <;> rfl
theorem run_clearS (w : World) (ty g o n c : Nat) (C : Array Value) (hg : w.heap[g]? = some (.cells C 46 (0, 0))) (hn : 0 < n) (hfit : o + n * 3 ≤ C.size) :
    (Builtin.clear_ #[43] ty #[.slice (some ⟨g, o, none⟩) n c]).run Try.prog w = .ok (.tuple #[]) (w.setRow g (C.toList.take o ++ zcl n ++ C.toList.drop (o + n * 3)).toArray) := by
  have hst := run_storeCells_at Try.prog g o 46 (zcl n) 0 C w hg (by rw [zcl_len]; simpa using hfit) (fun v hv => zcl_one n v hv)
  simp only [Nat.add_zero, zcl_len] at hst
  have hzc : (Builtin.zeroCells (Value.agg #[.int .i64 0, .int .u8 0, .slice none 0 0]).cells n).toList = zcl n := rfl
  generalize zcl n = Z at hst hzc ⊢
  obtain ⟨m, rfl⟩ : ∃ m, n = m + 1 := ⟨n - 1, by omega⟩
  simp [Builtin.clear_, run_underlying Try.underlying43, Try.zeroValue46, hzc, hst]
section
variable {w : World}
set_option maxHeartbeats 8000000 in
set_option maxRecDepth 100000 in
theorem delete82 {base g n c : Nat} {L : List Sh} (h : OwnE sh3 3 46 w base (.slice (some ⟨g, 0, none⟩) (n + 1) c) L) (hn : L.length = n + 1) (hc : c ≤ maxLen) :
    Calls Try.prog 82 #[.slice (some ⟨g, 0, none⟩) (n + 1) c, .int .i64 (n : Int), .int .i64 ((n + 1 : Nat) : Int)] w fun e w' => e = .returned (.slice (some ⟨g, 0, none⟩) n c) ∧ OwnE sh3 3 46 w' base (.slice (some ⟨g, 0, none⟩) n c) (L.take n) ∧ Chg [g] w w' := by
  have hcx : c ≤ 9223372036854775807 := hc
  have hnc : n + 1 ≤ c := by have := (h.rd s0).shape; obtain ⟨a', c', e', h1, _⟩ := this; simp at e'; omega
  obtain ⟨m, Hm⟩ : ∃ m, Hid (n + 1 = m) := ⟨_, ⟨rfl⟩⟩
  rw [Hm.out] at h hn hnc ⊢
  have H := Hid.mk h
  have hmn : n < m := by have := Hm.out; omega
  have hmz : (n : Int) < (m : Int) := by omega
  have hne : ((n : Int) == (m : Int)) = false := by simp; omega
  have hnez : ¬ (n : Int) = (m : Int) := by omega
  clear h
  by_cases hcm : c = m
  · subst hcm
    have hne' : ¬ c = n := by omega
    go_enter Try.func82, Try.ntmps82
    go_upto_region 5 with fail
    go_region
    obtain ⟨W, HW⟩ : ∃ x, Hid (w.drew = x) := ⟨_, ⟨rfl⟩⟩
    have HC : Hid (Chg [g] w W) := ⟨by rw [← HW.out]; exact (Chg.refl _ w).drew⟩
    have HO : Hid (OwnE sh3 3 46 W base (.slice (some ⟨g, 0, none⟩) c c) L) := ⟨H.out.far (X := []) (by rw [← HW.out]; exact (Chg.refl _ w).drew) (by simp)⟩
    obtain ⟨cur, hrow, hsz, _⟩ := own_rowE HO.out
    have hcl : ∀ ty, (Builtin.clear_ #[43] ty #[.slice (some ⟨g, n * 3, none⟩) (c - n) (c - n)]).run Try.prog W = .ok (.tuple #[]) (W.setRow g (cur.toList.take (n * 3) ++ zcl (c - n) ++ cur.toList.drop (n * 3 + (c - n) * 3)).toArray) := fun ty => run_clearS W ty g (n * 3) (c - n) (c - n) cur hrow (by omega) (by rw [hsz]; omega)
    obtain ⟨D, HD⟩ : ∃ x, Hid ((cur.toList.take (n * 3) ++ zcl (c - n) ++ cur.toList.drop (n * 3 + (c - n) * 3)).toArray = x) := ⟨_, ⟨rfl⟩⟩
    rw [HD.out] at hcl
    have hls : cur.toList.length = c * 3 := by rw [Array.length_toList, hsz]
    have HDs : Hid (D.size = cur.size) := ⟨by rw [← HD.out, hsz]; simp only [List.size_toArray, List.length_append, List.length_take, zcl_len, List.length_drop, hls]; omega⟩
    have HDt : Hid (D.toList.take (n * 3) = cur.toList.take (n * 3)) := ⟨by rw [← HD.out]; simp only [List.append_assoc]; rw [List.take_append_of_le_length (by rw [List.length_take, hls]; omega), List.take_take, Nat.min_self]⟩
    have HOf : Hid (OwnE sh3 3 46 (W.setRow g D) base (.slice (some ⟨g, 0, none⟩) n c) (L.take n)) := ⟨own_behind (own_cut HO.out hn (by omega)) (by rw [List.length_take]; omega) hrow HDs.out HDt.out⟩
    have HCf : Hid (Chg [g] w (W.setRow g D)) := ⟨HC.out.trans ⟨rfl, rfl, rfl, by simp, fun k _ hx => setRow_other _ _ k _ (by simpa using hx)⟩⟩
    rw [HW.out]
    clear hrow hsz hls
    go_wp2_with fail
    go_ret
    exact ⟨rfl, HOf.out, HCf.out⟩
  · have hcm' : ¬ m = c := fun e => hcm e.symm
    go_enter Try.func82, Try.ntmps82
    go_upto_region 5 with fail
    go_region
    obtain ⟨W, HW⟩ : ∃ x, Hid (w.drew = x) := ⟨_, ⟨rfl⟩⟩
    have HC : Hid (Chg [g] w W) := ⟨by rw [← HW.out]; exact (Chg.refl _ w).drew⟩
    have HO : Hid (OwnE sh3 3 46 W base (.slice (some ⟨g, 0, none⟩) m c) L) := ⟨H.out.far (X := []) (by rw [← HW.out]; exact (Chg.refl _ w).drew) (by simp)⟩
    obtain ⟨cur, hrow, hsz, _⟩ := own_rowE HO.out
    have hcl : ∀ ty, (Builtin.clear_ #[43] ty #[.slice (some ⟨g, n * 3, none⟩) (m - n) (c - n)]).run Try.prog W = .ok (.tuple #[]) (W.setRow g (cur.toList.take (n * 3) ++ zcl (m - n) ++ cur.toList.drop (n * 3 + (m - n) * 3)).toArray) := fun ty => run_clearS W ty g (n * 3) (m - n) (c - n) cur hrow (by omega) (by rw [hsz]; omega)
    obtain ⟨D, HD⟩ : ∃ x, Hid ((cur.toList.take (n * 3) ++ zcl (m - n) ++ cur.toList.drop (n * 3 + (m - n) * 3)).toArray = x) := ⟨_, ⟨rfl⟩⟩
    rw [HD.out] at hcl
    have hls : cur.toList.length = c * 3 := by rw [Array.length_toList, hsz]
    have HDs : Hid (D.size = cur.size) := ⟨by rw [← HD.out, hsz]; simp only [List.size_toArray, List.length_append, List.length_take, zcl_len, List.length_drop, hls]; omega⟩
    have HDt : Hid (D.toList.take (n * 3) = cur.toList.take (n * 3)) := ⟨by rw [← HD.out]; simp only [List.append_assoc]; rw [List.take_append_of_le_length (by rw [List.length_take, hls]; omega), List.take_take, Nat.min_self]⟩
    have HOf : Hid (OwnE sh3 3 46 (W.setRow g D) base (.slice (some ⟨g, 0, none⟩) n c) (L.take n)) := ⟨own_behind (own_cut HO.out hn (by omega)) (by rw [List.length_take]; omega) hrow HDs.out HDt.out⟩
    have HCf : Hid (Chg [g] w (W.setRow g D)) := ⟨HC.out.trans ⟨rfl, rfl, rfl, by simp, fun k _ hx => setRow_other _ _ k _ (by simpa using hx)⟩⟩
    rw [HW.out]
    clear hrow hsz hls
    go_wp2_with fail
    go_ret
    exact ⟨rfl, HOf.out, HCf.out⟩
end
end Go.Proofs.Ytfecngncapenjaa

/- The heap's own Push. -/
namespace Go.Proofs.Ytfecngncapenjaa
open Go.RowKit Go.Lib Go.Shelf

theorem ta46 (W : World) (x1 x2 : Int) (xa : Option Addr) (xn xc : Nat) : (Instr.typeAssert (.iface 46 (.agg #[.int .i64 x1, .int .u8 x2, .slice xa xn xc])) 20 46 true).run Try.prog W = .ok (.tuple #[.agg #[.int .i64 x1, .int .u8 x2, .slice xa xn xc], .bool true]) W := by kernel_rfl
set_option maxHeartbeats 8000000 in
set_option maxRecDepth 100000 in
theorem push81 {w : World} {base b : Nat} {sl : Value} {L : List Sh} (h : Box w b base sl L) (hL : L.length ≤ 3000000000000) (hbase : base ≤ w.heap.size) (x1 x2 : Int) (xa : Option Addr) (xn xc : Nat) (xl : List Int) :
    Calls Try.prog 81 #[.pointer (some ⟨b, 0, none⟩), .iface 46 (.agg #[.int .i64 x1, .int .u8 x2, .slice xa xn xc])] w fun e w' => e = .returned (.tuple #[]) ∧ ∃ sl', Box w' b base sl' (L ++ [(x1, x2, (xa, xn, xc, xl))]) ∧ (∀ x ∈ ob sl', x ∈ ob sl ∨ w.heap.size ≤ x) ∧ Chg (b :: ob sl) w w' := by
  have HX := Hid.mk h
  obtain ⟨a, c, rfl, hac, _⟩ := (h.own.rd s0).shape
  obtain ⟨n, Hn⟩ : ∃ n, Hid (L.length = n) := ⟨_, ⟨rfl⟩⟩
  rw [Hn.out] at h HX hac ⊢
  have hL' : n ≤ 3000000000000 := by rw [← Hn.out]; exact hL
  have Hnot := Hid.mk h.not
  have HObl : Hid (∀ g ∈ ob (.slice a n c), g < w.heap.size) := ⟨fun g hg => (h.own.lt g hg).2⟩
  have HbL := Hid.mk h.lt
  have hta := ta46 w x1 x2 xa xn xc
  clear h
  go_enter Try.func81, Try.ntmps81
  go_upto_region 2 with fail
  obtain ⟨q, Hq⟩ : ∃ x, Hid (w.heap.size = x) := ⟨_, ⟨rfl⟩⟩
  obtain ⟨w2, Hw2⟩ : ∃ x, Hid (w.alloc (.cells #[.int .i64 x1, .int .u8 x2, .slice xa xn xc] 46) = x) := ⟨_, ⟨rfl⟩⟩
  have HB02 : Hid (Below w.heap.size w w2) := ⟨by rw [← Hw2.out]; exact (Below.refl _ w).alloc (Nat.le_refl _) _⟩
  have HQ2 : Hid (w2.heap[q]? = some (.cells #[.int .i64 x1, .int .u8 x2, .slice xa xn xc] 46 (0, 0))) := ⟨by rw [← Hw2.out, ← Hq.out]; exact heap_alloc_new w _⟩
  have HBx2 : Hid (w2.heap[b]? = some (.cells #[(.slice a n c)] 43 (0, 0))) := ⟨(HB02.out.block b HbL.out).trans HX.out.box⟩
  have HO2 : Hid (OwnE sh3 3 46 w2 base (.slice a n c) L) := ⟨HX.out.own.far (Chg.ofBelow (X := []) HB02.out) (by simp)⟩
  have Hqn : Hid (q ∉ ob (.slice a n c)) := ⟨fun hm => by have := HObl.out q hm; have := Hq.out; omega⟩
  have Hqb : Hid (q ≠ b) := ⟨fun e => by have := HbL.out; have := Hq.out; omega⟩
  obtain ⟨z2, Hz2⟩ : ∃ x, Hid (w2.heap.size = x) := ⟨_, ⟨rfl⟩⟩
  have k2 : w2.drew.cell? ⟨b, 0, none⟩ = some (.slice a n c) := by have h2 : w2.cell? ⟨b, 0, none⟩ = some (.slice a n c) := (by rw [cell_of_row _ _ _ _ _ _ HBx2.out]; rfl); exact h2
  rw [Hw2.out, Hq.out]
  refine wp_region_held_drew (S := fun w' => w'.heap[q]? = some (.cells #[.int .i64 x1, .int .u8 x2, .slice xa xn xc] 46 (0, 0))) (by kernel_rfl) HQ2.out (fun hS => ?_)
  refine wpAnyH_take (i := 0) (v := .pointer (some ⟨b, 0, none⟩)) rfl (by kernel_rfl) (by kernel_rfl) (by kernel_rfl) (fun _ _ _ h => h) (Or.inl ⟨by kernel_rfl, fun _ _ => by kernel_rfl⟩) hS ?_
  refine wpAnyH_take (i := 1) (v := .pointer (some ⟨b, 0, none⟩)) rfl (by kernel_rfl) (by kernel_rfl) (by kernel_rfl) (fun _ _ _ h => h) (Or.inl ⟨by kernel_rfl, fun _ _ => by kernel_rfl⟩) hS ?_
  refine wpAnyH_take (i := 2) (v := .pointer (some ⟨b, 0, none⟩)) rfl (by kernel_rfl) (by kernel_rfl) (by kernel_rfl) (fun _ _ _ h => h) (Or.inl ⟨by kernel_rfl, fun wx hx => by go_simp⟩) hS ?_
  refine wpAnyH_take (i := 4) (v := .agg #[.int .i64 x1, .int .u8 x2, .slice xa xn xc]) rfl (by kernel_rfl) (by kernel_rfl) (by kernel_rfl) (fun _ _ _ h => h) (Or.inl ⟨by kernel_rfl, fun wx hx => by have c0 : wx.cell? ⟨q, 0, none⟩ = some (.int .i64 x1) := (by rw [cell_of_row _ _ _ _ _ _ hx]; rfl); have c1 : wx.cell? ⟨q, 1, none⟩ = some (.int .u8 x2) := (by rw [cell_of_row _ _ _ _ _ _ hx]; rfl); have c2 : wx.cell? ⟨q, 2, none⟩ = some (.slice xa xn xc) := (by rw [cell_of_row _ _ _ _ _ _ hx]; rfl); go_simp⟩) hS ?_
  refine wpAnyH_ready (rs := [3, 5]) (by kernel_rfl) (by simp) (AllReadyH.cons rfl (fun Kc hK => ?_) (AllReadyH.cons rfl (fun Kc hK => ?_) AllReadyH.nil))
  · go_simp
    refine hK.out _ _ hS (fun hS => ?_)
    clear hK
    refine wpAnyH_ready (rs := [5]) (by kernel_rfl) (by simp) (AllReadyH.cons rfl (fun Kc hK => ?_) AllReadyH.nil)
    go_simp
    obtain ⟨W4, HW4⟩ : ∃ x, Hid ((w2.alloc (.cells #[.int .i64 x1, .int .u8 x2, .slice xa xn xc] 46)).drew = x) := ⟨_, ⟨rfl⟩⟩
    have HB4 : Hid (Below w2.heap.size w2 W4) := ⟨by rw [← HW4.out]; exact below_drewN ((Below.refl _ w2).alloc (Nat.le_refl _) _) 1⟩
    have HR4 : Hid (RdE sh3 3 s0 W4 (.slice (some ⟨z2, 0, none⟩) 1 1) [(x1, x2, (xa, xn, xc, xl))]) := ⟨by rw [← HW4.out, ← Hz2.out]; exact (rde_one w2 ((x1, x2, (xa, xn, xc, xl)) : Sh) rfl (sh3_one (x1, x2, (xa, xn, xc, xl))).2 46).far (X := []) (Chg.refl _ _).drew (by simp)⟩
    have HO4 : Hid (OwnE sh3 3 46 W4 base (.slice a n c) L) := ⟨HO2.out.far (Chg.ofBelow (X := []) HB4.out) (by simp)⟩
    have HBx4 : Hid (W4.heap[b]? = some (.cells #[(.slice a n c)] 43 (0, 0))) := ⟨(HB4.out.block b (Array.getElem?_eq_some_iff.1 HBx2.out).1).trans HBx2.out⟩
    have HQ4 : Hid (W4.heap[q]? = some (.cells #[.int .i64 x1, .int .u8 x2, .slice xa xn xc] 46 (0, 0))) := ⟨(HB4.out.block q (Array.getElem?_eq_some_iff.1 HQ2.out).1).trans HQ2.out⟩
    have HC4 : Hid (Chg (b :: ob (.slice a n c)) w W4) := ⟨Chg.ofBelow (HB02.out.trans (HB4.out.mono HB02.out.size))⟩
    have hl1 : (L.length + [((x1, x2, (xa, xn, xc, xl)) : Sh)].length) * 40 ≤ 140737488355328 := by simp; omega
    have hl2 : L.length + [((x1, x2, (xa, xn, xc, xl)) : Sh)].length ≤ maxLen := by unfold maxLen; simp; omega
    have hl3 : base ≤ W4.heap.size := Nat.le_trans hbase (Nat.le_trans HB02.out.size HB4.out.size)
    rw [HW4.out, Hz2.out]
    refine hK.out _ _ HQ4.out (fun hS => ?_)
    clear hK k2
    refine wpAnyH_ready (rs := [6]) (by kernel_rfl) (by simp) (AllReadyH.cons rfl (fun Kc hK => ?_) AllReadyH.nil)
    refine rdy_of (by kernel_rfl) ?_
    refine op_appE (f := sh3) (d := s0) eltH (.tmp 15) (.tmp 17) rfl (by kernel_rfl) HO4.out (by kernel_rfl) HR4.out hl1 hl2 hl3 ?_
    intro v5 w5 hO5 hG5 hV5
    have HV5 : Hid (∀ x ∈ ob v5, x ∈ ob (.slice a n c) ∨ w.heap.size ≤ x) := ⟨fun x hx => by
      rcases hV5 with e | e
      · exact .inl (mem_ob.2 (by rw [← e]; exact mem_ob.1 hx))
      · have h1 := mem_ob.1 hx
        rw [e] at h1
        have h2 := Option.some.inj h1
        have h3 := HB02.out.size
        have h4 := HB4.out.size
        right; omega⟩
    have HO5 := Hid.mk hO5
    have HG5 : Hid (Chg (ob (.slice a n c)) W4 w5) := ⟨hG5⟩
    have Hb5 : Hid (w5.heap[b]? = some (.cells #[(.slice a n c)] 43 (0, 0))) := ⟨(HG5.out.block b (Array.getElem?_eq_some_iff.1 HBx4.out).1 Hnot.out).trans HBx4.out⟩
    have Hq5 : Hid (w5.heap[q]? = some (.cells #[.int .i64 x1, .int .u8 x2, .slice xa xn xc] 46 (0, 0))) := ⟨(HG5.out.block q (Array.getElem?_eq_some_iff.1 HQ4.out).1 Hqn.out).trans HQ4.out⟩
    obtain ⟨a5, c5, e5, _⟩ := (hO5.rd s0).shape
    subst e5
    obtain ⟨n5, Hn5⟩ : ∃ x, Hid ((L ++ [(x1, x2, (xa, xn, xc, xl))]).length = x) := ⟨_, ⟨rfl⟩⟩
    rw [Hn5.out] at HO5 HV5 ⊢
    have f5 : w5.frozen? ⟨b, 0, none⟩ = false := frozen_of_row w5 b _ _ 43 Hb5.out
    have k5 : w5.cell? ⟨b, 0, none⟩ = some (.slice a n c) := by rw [cell_of_row _ _ _ _ _ _ Hb5.out]; rfl
    refine hK.out _ _ Hq5.out (fun hS => ?_)
    clear hK hO5 hG5 hV5
    refine wpAnyH_take (i := 7) (v := .pointer (some ⟨b, 0, none⟩)) rfl (by kernel_rfl) (by kernel_rfl) (by kernel_rfl) (fun _ _ _ h => h) (Or.inl ⟨by kernel_rfl, fun wx hx => by go_simp⟩) hS ?_
    refine wpAnyH_ready (rs := [8]) (by kernel_rfl) (by simp) (AllReadyH.cons rfl (fun Kc hK => ?_) AllReadyH.nil)
    go_simp
    obtain ⟨V, HV⟩ : ∃ x, Hid (w5.setCell ⟨b, 0, none⟩ (.slice a5 n5 c5) = x) := ⟨_, ⟨rfl⟩⟩
    have HCV : Hid (Chg [b] w5 V) := ⟨by rw [← HV.out]; exact (Chg.refl [b] w5).setCell (.inl (by simp)) _⟩
    have HbV : Hid (V.heap[b]? = some (.cells #[.slice a5 n5 c5] 43 (0, 0))) := ⟨by rw [← HV.out]; have := heap_setCell_same w5 b 0 _ 43 (.slice a5 n5 c5) Hb5.out; simpa using this⟩
    have HOV : Hid (OwnE sh3 3 46 V base (.slice a5 n5 c5) (L ++ [(x1, x2, (xa, xn, xc, xl))])) := ⟨HO5.out.far HCV.out (fun g hg hm => by simp at hm; subst hm; obtain ⟨cs, hcs⟩ := HO5.out.ty _ hg; rw [Hb5.out] at hcs; simp at hcs)⟩
    have HqV : Hid (V.heap[q]? = some (.cells #[.int .i64 x1, .int .u8 x2, .slice xa xn xc] 46 (0, 0))) := ⟨(HCV.out.block q (Array.getElem?_eq_some_iff.1 Hq5.out).1 (by simpa using Hqb.out)).trans Hq5.out⟩
    have HGV : Hid (Chg (b :: ob (.slice a n c)) w V) := ⟨(HC4.out.thenNew HG5.out (fun x hx => .inl (by simp [hx]))).thenNew HCV.out (fun x hx => .inl (by simp at hx; simp [hx]))⟩
    rw [HV.out]
    refine hK.out _ _ HqV.out (fun hS => ?_)
    clear hK hS f5 k5
    refine wpAnyH_done (by kernel_rfl) ?_ _
    go_simp
    go_wp2_with fail
    go_end0
    exact ⟨rfl, _, ⟨HbV.out, HOV.out⟩, HV5.out, HGV.out⟩
  · go_simp
    obtain ⟨W4, HW4⟩ : ∃ x, Hid ((w2.alloc (.cells #[.int .i64 x1, .int .u8 x2, .slice xa xn xc] 46)).drew = x) := ⟨_, ⟨rfl⟩⟩
    have HB4 : Hid (Below w2.heap.size w2 W4) := ⟨by rw [← HW4.out]; exact below_drewN ((Below.refl _ w2).alloc (Nat.le_refl _) _) 1⟩
    have HR4 : Hid (RdE sh3 3 s0 W4 (.slice (some ⟨z2, 0, none⟩) 1 1) [(x1, x2, (xa, xn, xc, xl))]) := ⟨by rw [← HW4.out, ← Hz2.out]; exact (rde_one w2 ((x1, x2, (xa, xn, xc, xl)) : Sh) rfl (sh3_one (x1, x2, (xa, xn, xc, xl))).2 46).far (X := []) (Chg.refl _ _).drew (by simp)⟩
    have HO4 : Hid (OwnE sh3 3 46 W4 base (.slice a n c) L) := ⟨HO2.out.far (Chg.ofBelow (X := []) HB4.out) (by simp)⟩
    have HBx4 : Hid (W4.heap[b]? = some (.cells #[(.slice a n c)] 43 (0, 0))) := ⟨(HB4.out.block b (Array.getElem?_eq_some_iff.1 HBx2.out).1).trans HBx2.out⟩
    have HQ4 : Hid (W4.heap[q]? = some (.cells #[.int .i64 x1, .int .u8 x2, .slice xa xn xc] 46 (0, 0))) := ⟨(HB4.out.block q (Array.getElem?_eq_some_iff.1 HQ2.out).1).trans HQ2.out⟩
    have HC4 : Hid (Chg (b :: ob (.slice a n c)) w W4) := ⟨Chg.ofBelow (HB02.out.trans (HB4.out.mono HB02.out.size))⟩
    have hl1 : (L.length + [((x1, x2, (xa, xn, xc, xl)) : Sh)].length) * 40 ≤ 140737488355328 := by simp; omega
    have hl2 : L.length + [((x1, x2, (xa, xn, xc, xl)) : Sh)].length ≤ maxLen := by unfold maxLen; simp; omega
    have hl3 : base ≤ W4.heap.size := Nat.le_trans hbase (Nat.le_trans HB02.out.size HB4.out.size)
    have k4 : W4.cell? ⟨b, 0, none⟩ = some (.slice a n c) := by rw [cell_of_row _ _ _ _ _ _ HBx4.out]; rfl
    rw [HW4.out, Hz2.out]
    refine hK.out _ _ HQ4.out (fun hS => ?_)
    clear hK k2
    refine wpAnyH_ready (rs := [3]) (by kernel_rfl) (by simp) (AllReadyH.cons rfl (fun Kc hK => ?_) AllReadyH.nil)
    go_simp
    refine hK.out _ _ hS (fun hS => ?_)
    clear hK k4
    refine wpAnyH_ready (rs := [6]) (by kernel_rfl) (by simp) (AllReadyH.cons rfl (fun Kc hK => ?_) AllReadyH.nil)
    refine rdy_of (by kernel_rfl) ?_
    refine op_appE (f := sh3) (d := s0) eltH (.tmp 15) (.tmp 17) rfl (by kernel_rfl) HO4.out (by kernel_rfl) HR4.out hl1 hl2 hl3 ?_
    intro v5 w5 hO5 hG5 hV5
    have HV5 : Hid (∀ x ∈ ob v5, x ∈ ob (.slice a n c) ∨ w.heap.size ≤ x) := ⟨fun x hx => by
      rcases hV5 with e | e
      · exact .inl (mem_ob.2 (by rw [← e]; exact mem_ob.1 hx))
      · have h1 := mem_ob.1 hx
        rw [e] at h1
        have h2 := Option.some.inj h1
        have h3 := HB02.out.size
        have h4 := HB4.out.size
        right; omega⟩
    have HO5 := Hid.mk hO5
    have HG5 : Hid (Chg (ob (.slice a n c)) W4 w5) := ⟨hG5⟩
    have Hb5 : Hid (w5.heap[b]? = some (.cells #[(.slice a n c)] 43 (0, 0))) := ⟨(HG5.out.block b (Array.getElem?_eq_some_iff.1 HBx4.out).1 Hnot.out).trans HBx4.out⟩
    have Hq5 : Hid (w5.heap[q]? = some (.cells #[.int .i64 x1, .int .u8 x2, .slice xa xn xc] 46 (0, 0))) := ⟨(HG5.out.block q (Array.getElem?_eq_some_iff.1 HQ4.out).1 Hqn.out).trans HQ4.out⟩
    obtain ⟨a5, c5, e5, _⟩ := (hO5.rd s0).shape
    subst e5
    obtain ⟨n5, Hn5⟩ : ∃ x, Hid ((L ++ [(x1, x2, (xa, xn, xc, xl))]).length = x) := ⟨_, ⟨rfl⟩⟩
    rw [Hn5.out] at HO5 HV5 ⊢
    have f5 : w5.frozen? ⟨b, 0, none⟩ = false := frozen_of_row w5 b _ _ 43 Hb5.out
    have k5 : w5.cell? ⟨b, 0, none⟩ = some (.slice a n c) := by rw [cell_of_row _ _ _ _ _ _ Hb5.out]; rfl
    refine hK.out _ _ Hq5.out (fun hS => ?_)
    clear hK hO5 hG5 hV5
    refine wpAnyH_take (i := 7) (v := .pointer (some ⟨b, 0, none⟩)) rfl (by kernel_rfl) (by kernel_rfl) (by kernel_rfl) (fun _ _ _ h => h) (Or.inl ⟨by kernel_rfl, fun wx hx => by go_simp⟩) hS ?_
    refine wpAnyH_ready (rs := [8]) (by kernel_rfl) (by simp) (AllReadyH.cons rfl (fun Kc hK => ?_) AllReadyH.nil)
    go_simp
    obtain ⟨V, HV⟩ : ∃ x, Hid (w5.setCell ⟨b, 0, none⟩ (.slice a5 n5 c5) = x) := ⟨_, ⟨rfl⟩⟩
    have HCV : Hid (Chg [b] w5 V) := ⟨by rw [← HV.out]; exact (Chg.refl [b] w5).setCell (.inl (by simp)) _⟩
    have HbV : Hid (V.heap[b]? = some (.cells #[.slice a5 n5 c5] 43 (0, 0))) := ⟨by rw [← HV.out]; have := heap_setCell_same w5 b 0 _ 43 (.slice a5 n5 c5) Hb5.out; simpa using this⟩
    have HOV : Hid (OwnE sh3 3 46 V base (.slice a5 n5 c5) (L ++ [(x1, x2, (xa, xn, xc, xl))])) := ⟨HO5.out.far HCV.out (fun g hg hm => by simp at hm; subst hm; obtain ⟨cs, hcs⟩ := HO5.out.ty _ hg; rw [Hb5.out] at hcs; simp at hcs)⟩
    have HqV : Hid (V.heap[q]? = some (.cells #[.int .i64 x1, .int .u8 x2, .slice xa xn xc] 46 (0, 0))) := ⟨(HCV.out.block q (Array.getElem?_eq_some_iff.1 Hq5.out).1 (by simpa using Hqb.out)).trans Hq5.out⟩
    have HGV : Hid (Chg (b :: ob (.slice a n c)) w V) := ⟨(HC4.out.thenNew HG5.out (fun x hx => .inl (by simp [hx]))).thenNew HCV.out (fun x hx => .inl (by simp at hx; simp [hx]))⟩
    rw [HV.out]
    refine hK.out _ _ HqV.out (fun hS => ?_)
    clear hK hS f5 k5
    refine wpAnyH_done (by kernel_rfl) ?_ _
    go_simp
    go_wp2_with fail
    go_end0
    exact ⟨rfl, _, ⟨HbV.out, HOV.out⟩, HV5.out, HGV.out⟩
end Go.Proofs.Ytfecngncapenjaa

/- The heap's own Pop; container/heap.Push and Pop. -/
namespace Go.Proofs.Ytfecngncapenjaa
open Go.RowKit Go.Lib Go.Shelf

theorem at_app {L : List Sh} {x : Sh} {k : Nat} (h : k < L.length) : At (L ++ [x]) k = At L k := by
  unfold At
  simp only [List.getD]
  rw [List.getElem?_append_left h]
theorem at_take {L : List Sh} {n k : Nat} (h : k < n) : At (L.take n) k = At L k := by
  unfold At
  simp only [List.getD]
  rw [List.getElem?_take, if_pos h]
theorem par_lt {k : Nat} (h : 0 < k) : par k < k := by unfold par; omega
theorem up_last {L : List Sh} {x : Sh} (h : Heap L L.length) : HUp (L ++ [x]) (L.length + 1) L.length := by
  refine ⟨fun k h0 hk hne => ?_, fun k h0 hk hp _ => ?_⟩
  · have := par_lt h0
    rw [at_app (by omega), at_app (by omega)]
    exact h k h0 (by omega)
  · have := par_lt h0
    omega
theorem dn_first {L : List Sh} {n : Nat} (hl : L.length = n + 1) (h : Heap L (n + 1)) : HDn (swp L 0 n) n 0 := by
  refine ⟨fun k h0 hk hp => ?_, fun k h0 hk hp h1 => by omega⟩
  have := par_lt h0
  rw [swp_at (by omega) (by omega), swp_at (by omega) (by omega), if_neg (by omega), if_neg (by omega), if_neg (by omega), if_neg hp]
  exact h k h0 (by omega)
theorem take_last {M : List Sh} {n : Nat} (hl : M.length = n + 1) : M.Perm (At M n :: M.take n) := by
  have e : M = M.take n ++ [At M n] := by
    conv => lhs; rw [← List.take_append_drop n M]
    congr 1
    rw [List.drop_eq_getElem_cons (by omega), List.drop_eq_nil_of_le (by omega)]
    simp [At, List.getD, List.getElem?_eq_getElem (show n < M.length by omega)]
  conv => lhs; rw [e]
  exact List.perm_append_comm
theorem heap_take {M : List Sh} {n : Nat} (h : Heap M n) : Heap (M.take n) n := fun k h0 hk => by
  have := par_lt h0
  rw [at_take hk, at_take (by omega)]
  exact h k h0 hk
section
variable {w : World}
set_option maxHeartbeats 8000000 in
set_option maxRecDepth 100000 in
theorem pop80 {base b g n c : Nat} {L : List Sh} (h : Box w b base (.slice (some ⟨g, 0, none⟩) (n + 1) c) L) (hn : L.length = n + 1) (hc : c ≤ maxLen) (hbg : b ≠ g) :
    Calls Try.prog 80 #[.pointer (some ⟨b, 0, none⟩)] w fun e w' => e = .returned (.iface 46 (.agg #[.int .i64 (At L n).1, .int .u8 (At L n).2.1, sv (At L n).2.2])) ∧ Box w' b base (.slice (some ⟨g, 0, none⟩) n c) (L.take n) ∧ Chg [b, g] w w' := by
  have hi0 := own_cellE h.own s0 (j := 0) (i := n) (by omega) (by decide)
  have hi1 := own_cellE h.own s0 (j := 1) (i := n) (by omega) (by decide)
  have hi2 := own_cellE h.own s0 (j := 2) (i := n) (by omega) (by decide)
  unfold At
  obtain ⟨⟨x1, x2, xa, xn, xc, xl⟩, Hx⟩ : ∃ x, Hid (L.getD n s0 = x) := ⟨_, ⟨rfl⟩⟩
  rw [Hx.out] at hi0 hi1 hi2 ⊢
  simp [sh3, sv] at hi0 hi1 hi2
  have hcx : c ≤ 9223372036854775807 := hc
  have hnc : n + 1 ≤ c := by have := (h.own.rd s0).shape; obtain ⟨a', c', e', h1, _⟩ := this; simp at e'; omega
  have HX := Hid.mk h
  have Hg : Hid (g < w.heap.size) := ⟨(h.own.lt g (by simp [ob, Value.ownBlock])).2⟩
  have kb := h.cell
  have fb : w.frozen? ⟨b, 0, none⟩ = false := frozen_of_row w b _ _ 43 h.box
  obtain ⟨w2, Hw2⟩ : ∃ x, Hid (w.alloc (.cells #[.int .i64 x1, .int .u8 x2, .slice xa xn xc] 46) = x) := ⟨_, ⟨rfl⟩⟩
  have HB2 : Hid (Below w.heap.size w w2) := ⟨by rw [← Hw2.out]; exact (Below.refl _ w).alloc (Nat.le_refl _) _⟩
  have HX2 : Hid (Box w2 b base (.slice (some ⟨g, 0, none⟩) (n + 1) c) L) := ⟨h.far (Chg.ofBelow (X := []) HB2.out) (by simp) (by simp)⟩
  have t3 := delete82 HX2.out.own hn hc
  have HQ2 : Hid (w2.heap[w.heap.size]? = some (.cells #[.int .i64 x1, .int .u8 x2, .slice xa xn xc] 46 (0, 0))) := ⟨by rw [← Hw2.out]; exact heap_alloc_new w _⟩
  obtain ⟨m, Hm⟩ : ∃ m, Hid (n + 1 = m) := ⟨_, ⟨rfl⟩⟩
  rw [Hm.out] at t3 HX2 HX kb hnc
  simp only [sv]
  have hm1 : (m : Int) - 1 = (n : Int) := by have := Hm.out; omega
  have hm2 : (n : Int) + 1 = (m : Int) := by have := Hm.out; omega
  have hmn : n < m := by have := Hm.out; omega
  have hmz : (n : Int) < (m : Int) := by omega
  have Hbl : Hid (b < w.heap.size) := ⟨h.lt⟩
  have Hbg := Hid.mk hbg
  clear h hn hbg
  go_enter Try.func80, Try.ntmps80
  go_upto_region 3 with fail
  rw [Hw2.out]
  have kb2 := HX2.out.cell
  clear hi0 hi1 hi2 kb fb
  go_wp2_with fail
  refine t3.mono ?_
  rintro e w3 ⟨rfl, hO3, hG3⟩
  have HO3 := Hid.mk hO3
  have HG3 := Hid.mk hG3
  have Hb3 : Hid (w3.heap[b]? = some (.cells #[.slice (some ⟨g, 0, none⟩) m c] 43 (0, 0))) := ⟨(hG3.block b HX2.out.lt (by simpa using Hbg.out)).trans HX2.out.box⟩
  have Hq3 : Hid (w3.heap[w.heap.size]? = some (.cells #[.int .i64 x1, .int .u8 x2, .slice xa xn xc] 46 (0, 0))) := ⟨(hG3.block _ (Array.getElem?_eq_some_iff.1 HQ2.out).1 (by have := Hg.out; simp; omega)).trans HQ2.out⟩
  have k3 : w3.cell? ⟨b, 0, none⟩ = some (.slice (some ⟨g, 0, none⟩) m c) := by rw [cell_of_row _ _ _ _ _ _ Hb3.out]; rfl
  have f3 : w3.frozen? ⟨b, 0, none⟩ = false := frozen_of_row w3 b _ _ 43 Hb3.out
  clear hO3 hG3 t3 kb2
  obtain ⟨q, Hq⟩ : ∃ x, Hid (w.heap.size = x) := ⟨_, ⟨rfl⟩⟩
  rw [Hq.out] at Hq3 ⊢
  go_upto_region 4 with fail
  obtain ⟨V, HV⟩ : ∃ x, Hid (w3.setCell ⟨b, 0, none⟩ (.slice (some ⟨g, 0, none⟩) n c) = x) := ⟨_, ⟨rfl⟩⟩
  have HCV : Hid (Chg [b] w3 V) := ⟨by rw [← HV.out]; exact (Chg.refl [b] w3).setCell (.inl (by simp)) _⟩
  have HbV : Hid (V.heap[b]? = some (.cells #[.slice (some ⟨g, 0, none⟩) n c] 43 (0, 0))) := ⟨by rw [← HV.out]; have := heap_setCell_same w3 b 0 _ 43 (.slice (some ⟨g, 0, none⟩) n c) Hb3.out; simpa using this⟩
  have HqV : Hid (V.heap[q]? = some (.cells #[.int .i64 x1, .int .u8 x2, .slice xa xn xc] 46 (0, 0))) := ⟨(HCV.out.block q (Array.getElem?_eq_some_iff.1 Hq3.out).1 (by have := Hbl.out; have := Hq.out; simp; omega)).trans Hq3.out⟩
  have c0 : V.cell? ⟨q, 0, none⟩ = some (.int .i64 x1) := by rw [cell_of_row _ _ _ _ _ _ HqV.out]; rfl
  have c1 : V.cell? ⟨q, 1, none⟩ = some (.int .u8 x2) := by rw [cell_of_row _ _ _ _ _ _ HqV.out]; rfl
  have c2 : V.cell? ⟨q, 2, none⟩ = some (.slice xa xn xc) := by rw [cell_of_row _ _ _ _ _ _ HqV.out]; rfl
  have HBV : Hid (Box V b base (.slice (some ⟨g, 0, none⟩) n c) (L.take n)) := ⟨⟨HbV.out, HO3.out.far HCV.out (fun x hx hm => by simp [ob, Value.ownBlock] at hx hm; exact Hbg.out (hm.symm.trans hx))⟩⟩
  have HGV : Hid (Chg [b, g] w V) := ⟨((Chg.ofBelow (X := [b, g]) HB2.out).trans (HG3.out.mono (by simp))).trans (HCV.out.mono (by simp))⟩
  rw [HV.out]
  clear k3 f3
  go_wp2_with fail
  go_ret
  exact ⟨rfl, HBV.out, HGV.out⟩
end
end Go.Proofs.Ytfecngncapenjaa

/- container/heap.Push, Pop; takeLeast. -/
namespace Go.Proofs.Ytfecngncapenjaa
open Go.RowKit Go.Lib Go.Shelf

theorem box_row {w : World} {b base : Nat} {sl : Value} {L : List Sh} (h : Box w b base sl L) (h0 : 0 < L.length) : ∃ g c, sl = .slice (some ⟨g, 0, none⟩) L.length c ∧ c ≤ maxLen ∧ base ≤ g ∧ b ≠ g := by
  obtain ⟨a, c, rfl, _, hc, _⟩ := (h.own.rd s0).shape
  obtain ⟨g, cur, rfl, hb, _⟩ := own_row h.own.own h0
  exact ⟨g, c, rfl, hc, hb, fun e => h.not (by rw [e]; simp [ob, Value.ownBlock])⟩
section
variable {w : World}
set_option maxHeartbeats 8000000 in
set_option maxRecDepth 100000 in
theorem push25 {base b : Nat} {sl : Value} {L : List Sh} (h : Box w b base sl L) (hL : L.length ≤ 3000000000000) (hbase : base ≤ w.heap.size) (hH : Heap L L.length) (x1 x2 : Int) (xa : Option Addr) (xn xc : Nat) (xl : List Int) :
    Calls Try.prog 25 #[.iface 50 (.pointer (some ⟨b, 0, none⟩)), .iface 46 (.agg #[.int .i64 x1, .int .u8 x2, .slice xa xn xc])] w fun e w' => e = .returned (.tuple #[]) ∧ ∃ sl', ∃ L', Box w' b base sl' L' ∧ L'.Perm (L ++ [(x1, x2, (xa, xn, xc, xl))]) ∧ Heap L' L'.length ∧ (∀ x ∈ ob sl', x ∈ ob sl ∨ w.heap.size ≤ x) ∧ Chg (b :: ob sl) w w' := by
  have e72 := eg72
  have e81 := eg81
  have m1 := finds_push w b
  have t1 := push81 h hL hbase x1 x2 xa xn xc xl
  have HuA := Hid.mk (up_last (x := (x1, x2, (xa, xn, xc, xl))) hH)
  clear h hH hbase
  go_enter Try.func25, Try.ntmps25
  go_wp2_with fail
  refine t1.mono ?_
  rintro e w1 ⟨rfl, sl1, hX1, hO1, hG1⟩
  have HC1 : Hid (Chg (b :: ob sl) w w1) := ⟨hG1⟩
  have HO1 := Hid.mk hO1
  obtain ⟨g, c, rfl, hc, _, hbg⟩ := box_row hX1 (by simp)
  have Hgn : Hid (g ∈ ob sl ∨ w.heap.size ≤ g) := ⟨HO1.out g (by simp [ob, Value.ownBlock])⟩
  obtain ⟨n, Hn⟩ : ∃ n, Hid ((L ++ [(x1, x2, (xa, xn, xc, xl))]).length = n) := ⟨_, ⟨rfl⟩⟩
  have HnL : Hid (L.length + 1 = n) := ⟨by rw [← Hn.out]; simp⟩
  rw [Hn.out] at hX1 HO1
  have HX1 := Hid.mk hX1
  have m2 := finds_len w1 b _ hX1.cell
  have t2 := len72 (w := w1) (some ⟨g, 0, none⟩) n c
  have hn1 : (n : Int) - 1 = ((L.length : Nat) : Int) := by have := HnL.out; omega
  obtain ⟨k, Hk⟩ : ∃ k, Hid (L.length = k) := ⟨_, ⟨rfl⟩⟩
  rw [Hk.out] at hn1
  have hkb : k ≤ 3000000000000 := by rw [← Hk.out]; exact hL
  have hnb : n ≤ 3000000000001 := by have := HnL.out; omega
  have t3 := up43 hX1 Hn.out hc (j := k) (by have := HnL.out; have := Hk.out; omega) (by have := HuA.out; rw [HnL.out, Hk.out] at this; exact this) hbg
  clear t1 m1 hX1 hG1 hO1
  go_wp2_with fail
  refine t2.mono ?_
  rintro e w2 ⟨rfl, rfl⟩
  clear t2 m2
  go_wp2_with fail
  refine t3.mono ?_
  rintro e w3 ⟨rfl, L3, hX3, hP3, hH3, hG3⟩
  have HX3 := Hid.mk hX3
  have HP3 := Hid.mk hP3
  have HH3 := Hid.mk hH3
  have HC3 : Hid (Chg (b :: ob sl) w w3) := ⟨HC1.out.thenNew hG3 (fun x hx => by
    simp at hx
    subst hx
    rcases Hgn.out with h | h
    · exact .inl (List.mem_cons_of_mem _ h)
    · exact .inr h)⟩
  clear t3 hX3 hP3 hH3 hG3
  go_wp2_with fail
  go_end0
  exact ⟨rfl, _, L3, HX3.out, HP3.out, by rw [HP3.out.length_eq, Hn.out]; exact HH3.out, HO1.out, HC3.out⟩
set_option maxHeartbeats 8000000 in
set_option maxRecDepth 100000 in
theorem pop42 {base b n : Nat} {sl : Value} {L : List Sh} (h : Box w b base sl L) (hn : L.length = n + 1) (hL : L.length ≤ 3000000000000) (hH : Heap L L.length) :
    Calls Try.prog 42 #[.iface 50 (.pointer (some ⟨b, 0, none⟩))] w fun e w' => ∃ (x1 x2 : Int) (xa : Option Addr) (xn xc : Nat) (xl : List Int), e = .returned (.iface 46 (.agg #[.int .i64 x1, .int .u8 x2, .slice xa xn xc])) ∧ ∃ sl', ∃ L', Box w' b base sl' L' ∧ L.Perm ((x1, x2, (xa, xn, xc, xl)) :: L') ∧ (∀ s ∈ L, shl s (x1, x2, (xa, xn, xc, xl)) = false) ∧ Heap L' L'.length ∧ (∀ x ∈ ob sl', x ∈ ob sl) ∧ Chg (b :: ob sl) w w' := by
  have e72 := eg72
  have e74 := eg74
  have e80 := eg80
  obtain ⟨g, c, rfl, hc, _, hbg⟩ := box_row h (by omega)
  rw [show ob (.slice (some ⟨g, 0, none⟩) L.length c) = [g] by simp [ob, Value.ownBlock]]
  rw [hn] at h hH hL
  have HX := Hid.mk h
  have m1 := finds_len w b _ h.cell
  have m2 := finds_swap w b _ h.cell
  have t1 := len72 (w := w) (some ⟨g, 0, none⟩) (n + 1) c
  have t2 := swap74 h.own hn hc (i := 0) (j := n) (by omega) (by omega)
  have Hmin : Hid (∀ s ∈ L, shl s (At L 0) = false) := ⟨fun s hs => by
    obtain ⟨k, hk, e⟩ := List.mem_iff_getElem.1 hs
    have := heap_min hH k (by omega)
    simp only [At, List.getD, List.getElem?_eq_getElem hk, Option.getD_some, e] at this
    exact this⟩
  have Hdn := Hid.mk (dn_first hn hH)
  have HpS : Hid ((swp L 0 n).Perm L) := ⟨swp_perm (by omega) (by omega)⟩
  have HlS : Hid ((swp L 0 n).length = n + 1) := ⟨by rw [swp_len, hn]⟩
  have HaS : Hid (At (swp L 0 n) n = At L 0) := ⟨by rw [swp_at (by omega) (by omega), if_pos rfl]⟩
  obtain ⟨⟨x1, x2, xa, xn, xc, xl⟩, Hx⟩ : ∃ x, Hid (At L 0 = x) := ⟨_, ⟨rfl⟩⟩
  rw [Hx.out] at Hmin HaS
  obtain ⟨m, Hm⟩ : ∃ m, Hid (n + 1 = m) := ⟨_, ⟨rfl⟩⟩
  rw [Hm.out] at t1 t2 m1 m2 HlS
  have hm1 : (m : Int) - 1 = (n : Int) := by have := Hm.out; omega
  have hnb : n ≤ 10000000000000 := by omega
  have Hbg := Hid.mk hbg
  clear h hn hL hH hbg
  go_enter Try.func42, Try.ntmps42
  go_wp2_with fail
  refine t1.mono ?_
  rintro e w1 ⟨rfl, rfl⟩
  clear t1 m1
  go_wp2_with fail
  refine t2.mono ?_
  rintro e w2 ⟨rfl, hO2, hG2⟩
  have HX2 : Hid (Box w2 b base (.slice (some ⟨g, 0, none⟩) m c) (swp L 0 n)) := ⟨⟨(hG2.block b HX.out.lt (by simpa using Hbg.out)).trans (by rw [HX.out.box, Hm.out]), hO2⟩⟩
  have HB2 : Hid (Chg [b, g] w w2) := ⟨hG2.mono (by simp)⟩
  have t3 := down51 HX2.out HlS.out hc (n := n) (by have := Hm.out; omega) hnb Hdn.out Hbg.out
  clear t2 m2 hO2 hG2
  go_wp2_with fail
  refine t3.mono ?_
  rintro e w3 ⟨y, rfl, L3, hX3, hP3, hH3, hF3, hG3⟩
  have HB3 : Hid (Chg [b, g] w w3) := ⟨HB2.out.trans (hG3.mono (by simp))⟩
  have Hl3 : Hid (L3.length = n + 1) := ⟨by rw [hP3.length_eq, HlS.out, Hm.out]⟩
  have Ha3 : Hid (At L3 n = (x1, x2, (xa, xn, xc, xl))) := ⟨(hF3 n (Nat.le_refl _)).trans HaS.out⟩
  have HP3 : Hid (L.Perm ((x1, x2, (xa, xn, xc, xl)) :: L3.take n)) := ⟨by have := (HpS.out.symm.trans hP3.symm).trans (take_last Hl3.out); rw [Ha3.out] at this; exact this⟩
  have HH3 : Hid (Heap (L3.take n) n) := ⟨heap_take hH3⟩
  have m4 := finds_pop w3 b
  have t4 := pop80 (n := n) (L := L3) (by rw [Hm.out]; exact hX3) Hl3.out hc Hbg.out
  rw [Ha3.out] at t4
  clear t3 hX3 hP3 hH3 hF3 hG3
  go_wp2_with fail
  refine t4.mono ?_
  rintro e w4 ⟨rfl, hX4, hG4⟩
  have HX4 := Hid.mk hX4
  have HB4 : Hid (Chg [b, g] w w4) := ⟨HB3.out.trans hG4⟩
  clear t4 m4 hX4 hG4
  go_wp2_with fail
  go_ret
  exact ⟨x1, x2, xa, xn, xc, xl, rfl, _, L3.take n, HX4.out, HP3.out, Hmin.out, by rw [List.length_take, Hl3.out, Nat.min_eq_left (by omega)]; exact HH3.out, fun x hx => hx, HB4.out⟩
end
end Go.Proofs.Ytfecngncapenjaa

/- takeLeast. -/
namespace Go.Proofs.Ytfecngncapenjaa
open Go.RowKit Go.Lib Go.Shelf

section
variable {w : World}
set_option maxHeartbeats 8000000 in
set_option maxRecDepth 100000 in
theorem least24 {base b n : Nat} {sl : Value} {L : List Sh} (h : Box w b base sl L) (hn : L.length = n + 1) (hL : L.length ≤ 3000000000000) (hH : Heap L L.length) :
    Calls Try.prog 24 #[.pointer (some ⟨b, 0, none⟩)] w fun e w' => ∃ (x1 x2 : Int) (xa : Option Addr) (xn xc : Nat) (xl : List Int), e = .returned (.agg #[.int .i64 x1, .int .u8 x2, .slice xa xn xc]) ∧ ∃ sl', ∃ L', Box w' b base sl' L' ∧ L.Perm ((x1, x2, (xa, xn, xc, xl)) :: L') ∧ (∀ s ∈ L, shl s (x1, x2, (xa, xn, xc, xl)) = false) ∧ Heap L' L'.length ∧ (∀ x ∈ ob sl', x ∈ ob sl) ∧ Chg (b :: ob sl) w w' := by
  obtain ⟨w1, Hw1⟩ : ∃ x, Hid (w.alloc (.cells #[.int .i64 0, .int .u8 0, .slice none 0 0] 46) = x) := ⟨_, ⟨rfl⟩⟩
  have HB1 : Hid (Below w.heap.size w w1) := ⟨by rw [← Hw1.out]; exact (Below.refl _ w).alloc (Nat.le_refl _) _⟩
  have HQ1 : Hid (w1.heap[w.heap.size]? = some (.cells #[.int .i64 0, .int .u8 0, .slice none 0 0] 46 (0, 0))) := ⟨by rw [← Hw1.out]; exact heap_alloc_new w _⟩
  have t1 := pop42 (w := w1) (h.far (Chg.ofBelow (X := []) HB1.out) (by simp) (by simp)) hn hL hH
  have HObl : Hid (w.heap.size ∉ b :: ob sl) := ⟨fun hm => by
    rcases List.mem_cons.1 hm with e | hm
    · have := h.lt; omega
    · have := (h.own.lt _ hm).2; omega⟩
  clear h hn hL hH
  go_enter Try.func24, Try.ntmps24
  go_upto_region 1 with fail
  rw [Hw1.out]
  go_wp2_with fail
  refine t1.mono ?_
  rintro e w2 ⟨x1, x2, xa, xn, xc, xl, rfl, sl', L', hX2, hP2, hM2, hH2, hI2, hG2⟩
  have HX2 := Hid.mk hX2
  have HP2 := Hid.mk hP2
  have HM2 := Hid.mk hM2
  have HH2 := Hid.mk hH2
  have HG2 := Hid.mk hG2
  have HI2 := Hid.mk hI2
  have HQ2 : Hid (w2.heap[w.heap.size]? = some (.cells #[.int .i64 0, .int .u8 0, .slice none 0 0] 46 (0, 0))) := ⟨(hG2.block _ (Array.getElem?_eq_some_iff.1 HQ1.out).1 HObl.out).trans HQ1.out⟩
  have hta := ta46 w2 x1 x2 xa xn xc
  clear t1 hX2 hP2 hM2 hH2 hI2 hG2
  obtain ⟨q, Hq⟩ : ∃ x, Hid (w.heap.size = x) := ⟨_, ⟨rfl⟩⟩
  rw [Hq.out] at HQ2 ⊢
  obtain ⟨w3, Hw3⟩ : ∃ x, Hid (w2.alloc (.cells #[.int .i64 x1, .int .u8 x2, .slice xa xn xc] 46) = x) := ⟨_, ⟨rfl⟩⟩
  have HB3 : Hid (Below w2.heap.size w2 w3) := ⟨by rw [← Hw3.out]; exact (Below.refl _ w2).alloc (Nat.le_refl _) _⟩
  have HQ3 : Hid (w3.heap[q]? = some (.cells #[.int .i64 0, .int .u8 0, .slice none 0 0] 46 (0, 0))) := ⟨(HB3.out.block q (Array.getElem?_eq_some_iff.1 HQ2.out).1).trans HQ2.out⟩
  have HR3 : Hid (w3.heap[w2.heap.size]? = some (.cells #[.int .i64 x1, .int .u8 x2, .slice xa xn xc] 46 (0, 0))) := ⟨by rw [← Hw3.out]; exact heap_alloc_new w2 _⟩
  go_upto_region 2 with fail
  rw [Hw3.out]
  obtain ⟨r, Hr⟩ : ∃ x, Hid (w2.heap.size = x) := ⟨_, ⟨rfl⟩⟩
  rw [Hr.out] at HR3 ⊢
  have c0 : w3.cell? ⟨q, 0, none⟩ = some (.int .i64 0) := by rw [cell_of_row _ _ _ _ _ _ HQ3.out]; rfl
  have c1 : w3.cell? ⟨q, 1, none⟩ = some (.int .u8 0) := by rw [cell_of_row _ _ _ _ _ _ HQ3.out]; rfl
  have c2 : w3.cell? ⟨q, 2, none⟩ = some (.slice none 0 0) := by rw [cell_of_row _ _ _ _ _ _ HQ3.out]; rfl
  have f0 : w3.frozen? ⟨q, 0, none⟩ = false := frozen_of_row w3 q _ _ 46 HQ3.out
  have f1 : w3.frozen? ⟨q, 1, none⟩ = false := frozen_of_row w3 q _ _ 46 HQ3.out
  have f2 : w3.frozen? ⟨q, 2, none⟩ = false := frozen_of_row w3 q _ _ 46 HQ3.out
  have d0 : w3.cell? ⟨r, 0, none⟩ = some (.int .i64 x1) := by rw [cell_of_row _ _ _ _ _ _ HR3.out]; rfl
  have d1 : w3.cell? ⟨r, 1, none⟩ = some (.int .u8 x2) := by rw [cell_of_row _ _ _ _ _ _ HR3.out]; rfl
  have d2 : w3.cell? ⟨r, 2, none⟩ = some (.slice xa xn xc) := by rw [cell_of_row _ _ _ _ _ _ HR3.out]; rfl
  clear hta
  go_wp2_with fail
  obtain ⟨V, HV⟩ : ∃ x, Hid (((w3.setCell ⟨q, 0, none⟩ (.int .i64 x1)).setCell ⟨q, 1, none⟩ (.int .u8 x2)).setCell ⟨q, 2, none⟩ (.slice xa xn xc) = x) := ⟨_, ⟨rfl⟩⟩
  have HCV : Hid (Chg [q] w3 V) := ⟨by rw [← HV.out]; exact (((Chg.refl [q] w3).setCell (.inl (by simp)) _).setCell (.inl (by simp)) _).setCell (.inl (by simp)) _⟩
  have HQV : Hid (V.heap[q]? = some (.cells #[.int .i64 x1, .int .u8 x2, .slice xa xn xc] 46 (0, 0))) := ⟨by
    rw [← HV.out]
    have h1 := heap_setCell_same w3 q 0 _ 46 (.int .i64 x1) HQ3.out
    have h2 := heap_setCell_same _ q 1 _ 46 (.int .u8 x2) h1
    have h3 := heap_setCell_same _ q 2 _ 46 (.slice xa xn xc) h2
    simpa using h3⟩
  have v0 : V.cell? ⟨q, 0, none⟩ = some (.int .i64 x1) := by rw [cell_of_row _ _ _ _ _ _ HQV.out]; rfl
  have v1 : V.cell? ⟨q, 1, none⟩ = some (.int .u8 x2) := by rw [cell_of_row _ _ _ _ _ _ HQV.out]; rfl
  have v2 : V.cell? ⟨q, 2, none⟩ = some (.slice xa xn xc) := by rw [cell_of_row _ _ _ _ _ _ HQV.out]; rfl
  have Hq2 : Hid (q ∉ b :: ob sl) := ⟨by rw [← Hq.out]; exact HObl.out⟩
  have HXV : Hid (Box V b base sl' L') := ⟨(HX2.out.far (Chg.ofBelow (X := []) HB3.out) (by simp) (by simp)).far HCV.out (by have := HX2.out.lt; intro hm; simp at hm; subst hm; have h5 := HX2.out.box; rw [HQ2.out] at h5; simp at h5) (fun g hg hm => by simp at hm; subst hm; exact Hq2.out (List.mem_cons_of_mem _ (HI2.out _ hg)))⟩
  have HGV : Hid (Chg (b :: ob sl) w V) := ⟨(((Chg.ofBelow HB1.out).trans HG2.out).trans (Chg.ofBelow HB3.out)).thenNew HCV.out (fun x hx => .inr (by simp at hx; rw [hx, ← Hq.out]; exact Nat.le_refl _))⟩
  rw [HV.out]
  clear c0 c1 c2 f0 f1 f2 d0 d1 d2
  refine bodyPost_ret (v := .agg #[.int .i64 x1, .int .u8 x2, .slice xa xn xc]) (by simp [results, Try.results24, go_sem, v0, v1, v2]) rfl ⟨x1, x2, xa, xn, xc, xl, rfl, sl', L', HXV.out, HP2.out, HM2.out, HH2.out, HI2.out, HGV.out⟩
end
end Go.Proofs.Ytfecngncapenjaa
