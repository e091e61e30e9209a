/- Two trees become one: joined. -/
import Derived.Test.YtfecngncapenjaaGj
import Derived.Test.YtfecngncapenjaaH12
import Derived.Test.YtfecngncapenjaaC12
namespace Go.Proofs.Ytfecngncapenjaa
open Go.RowKit Oct Go.Lib

theorem OwnY.far' {w w' : World} {base : Nat} {v : Value} {l : List Int} (h : OwnY w base v l) (hb : Below w.heap.size w w') : OwnY w' base v l := own_far h (Chg.ofBelow (X := []) hb) (fun _ _ => by simp)
theorem parts_two {w : World} {z : Nat} {v u : Value} {l m : List Int} (hz : w.heap[z]? = some (.cells #[v, u] 33 (0, 0))) (hv : Bs w v l) (hu : Bs w u m) : Parts w z [(v, l), (u, m)] :=
  ⟨fun i hi => by
    have h : i = 0 ∨ i = 1 := by simp at hi; omega
    rw [cell_of_row _ _ _ _ _ _ hz]
    rcases h with rfl | rfl <;> rfl, fun i hi => by
    have h : i = 0 ∨ i = 1 := by simp at hi; omega
    rcases h with rfl | rfl
    · exact hv
    · exact hu⟩
section
variable {w : World}
set_option maxHeartbeats 8000000 in
set_option maxRecDepth 100000 in
theorem joined23 (x1 x2 y1 y2 : Int) (xa ya : Option Addr) (xn xc yn yc : Nat) (xl yl : List Int) (hX : OwnY w 0 (.slice xa xn xc) xl) (hY : OwnY w 0 (.slice ya yn yc) yl) (hl : xl.length + yl.length ≤ 1000) (h0 : 0 < xl.length) (hx1 : 0 ≤ x1 ∧ x1 ≤ 1000000000) (hy1 : 0 ≤ y1 ∧ y1 ≤ 1000000000) :
    Calls Try.prog 23 #[.agg #[.int .i64 x1, .int .u8 x2, .slice xa xn xc], .agg #[.int .i64 y1, .int .u8 y2, .slice ya yn yc]] w fun e w' => ∃ za zn zc, e = .returned (.agg #[.int .i64 (x1 + y1), .int .u8 (min x2 y2), .slice za zn zc]) ∧ OwnY w' w.heap.size (.slice za zn zc) (xl ++ yl) ∧ Below w.heap.size w w' := by
  obtain ⟨mn, Hmn⟩ : ∃ m, Hid (min x2 y2 = m) := ⟨_, ⟨rfl⟩⟩
  rw [Hmn.out]
  obtain ⟨q, Hq⟩ : ∃ q, Hid (w.heap.size = q) := ⟨_, ⟨rfl⟩⟩
  obtain ⟨w1, Hw1⟩ : ∃ x, Hid (w.alloc (.cells #[.int .i64 x1, .int .u8 x2, .slice xa xn xc] 46) = x) := ⟨_, ⟨rfl⟩⟩
  have HS1 : Hid (w1.heap.size = q + 1) := ⟨by rw [← Hw1.out, ← Hq.out]; exact Array.size_push _⟩
  have HB1 : Hid (Below w.heap.size w w1) := ⟨by rw [← Hw1.out]; exact (Below.refl _ w).alloc (Nat.le_refl _) _⟩
  have HX1 : Hid (w1.heap[q]? = some (.cells #[.int .i64 x1, .int .u8 x2, .slice xa xn xc] 46 (0, 0))) := ⟨by rw [← Hw1.out, ← Hq.out]; exact heap_alloc_new w _⟩
  obtain ⟨r, Hr⟩ : ∃ r, Hid (q + 1 = r) := ⟨_, ⟨rfl⟩⟩
  obtain ⟨w2, Hw2⟩ : ∃ x, Hid (w1.alloc (.cells #[.int .i64 y1, .int .u8 y2, .slice ya yn yc] 46) = x) := ⟨_, ⟨rfl⟩⟩
  have HB2 : Hid (Below w1.heap.size w1 w2) := ⟨by rw [← Hw2.out]; exact (Below.refl _ w1).alloc (Nat.le_refl _) _⟩
  have HS2 : Hid (w2.heap.size = r + 1) := ⟨by rw [← Hr.out, ← HS1.out, ← Hw2.out]; exact Array.size_push _⟩
  have HY2 : Hid (w2.heap[r]? = some (.cells #[.int .i64 y1, .int .u8 y2, .slice ya yn yc] 46 (0, 0))) := ⟨by rw [← Hw2.out, ← Hr.out, ← HS1.out]; exact heap_alloc_new w1 _⟩
  have HX2 := Hid.mk (below_at HB2.out HX1.out)
  obtain ⟨p, Hp'⟩ : ∃ p, Hid (r + 1 = p) := ⟨_, ⟨rfl⟩⟩
  obtain ⟨W, HW⟩ : ∃ x, Hid (w2.alloc (.cells #[.int .i64 0, .int .u8 0, .slice none 0 0] 46) = x) := ⟨_, ⟨rfl⟩⟩
  have HB3 : Hid (Below w2.heap.size w2 W) := ⟨by rw [← HW.out]; exact (Below.refl _ w2).alloc (Nat.le_refl _) _⟩
  have HQ : Hid (W.heap[p]? = some (.cells #[.int .i64 0, .int .u8 0, .slice none 0 0] 46 (0, 0))) := ⟨by rw [← HW.out, ← Hp'.out, ← HS2.out]; exact heap_alloc_new w2 _⟩
  have HXW := Hid.mk (below_at HB3.out HX2.out)
  have HYW := Hid.mk (below_at HB3.out HY2.out)
  have HB : Hid (Below w.heap.size w W) := ⟨(HB1.out.trans (HB2.out.mono HB1.out.size)).trans (HB3.out.mono (Nat.le_trans HB1.out.size HB2.out.size))⟩
  have Hp : Hid (w.heap.size ≤ p) := ⟨by have := Hq.out; have := Hr.out; have := Hp'.out; omega⟩
  have HX : Hid (OwnY W 0 (.slice xa xn xc) xl) := ⟨hX.far' HB.out⟩
  have HY : Hid (OwnY W 0 (.slice ya yn yc) yl) := ⟨hY.far' HB.out⟩
  obtain ⟨z, Hz⟩ : ∃ x, Hid (W.heap.size = x) := ⟨_, ⟨rfl⟩⟩
  have hqp : q ≠ p := by have := Hr.out; have := Hp'.out; omega
  have hrp : r ≠ p := by have := Hp'.out; omega
  have HK : Hid (∀ w' : World, (∀ k, k < W.heap.size → k ≠ p → w'.heap[k]? = W.heap[k]?) → w'.cell? ⟨q, 0, none⟩ = some (.int .i64 x1) ∧ w'.cell? ⟨q, 1, none⟩ = some (.int .u8 x2) ∧ w'.cell? ⟨q, 2, none⟩ = some (.slice xa xn xc) ∧ w'.cell? ⟨r, 0, none⟩ = some (.int .i64 y1) ∧ w'.cell? ⟨r, 1, none⟩ = some (.int .u8 y2) ∧ w'.cell? ⟨r, 2, none⟩ = some (.slice ya yn yc)) := ⟨fun w' h => by
    have h1 := (h q (Array.getElem?_eq_some_iff.1 HXW.out).1 hqp).trans HXW.out
    have h2 := (h r (Array.getElem?_eq_some_iff.1 HYW.out).1 hrp).trans HYW.out
    refine ⟨?_, ?_, ?_, ?_, ?_, ?_⟩
    · rw [cell_of_row _ _ _ _ _ _ h1]; rfl
    · rw [cell_of_row _ _ _ _ _ _ h1]; rfl
    · rw [cell_of_row _ _ _ _ _ _ h1]; rfl
    · rw [cell_of_row _ _ _ _ _ _ h2]; rfl
    · rw [cell_of_row _ _ _ _ _ _ h2]; rfl
    · rw [cell_of_row _ _ _ _ _ _ h2]; rfl⟩
  have hwp : IntKind.i64.wrap (x1 + y1) = x1 + y1 := IntWalk.i64_in _ ⟨by omega, by omega⟩
  clear hX hY hqp hrp
  go_enter Try.func23, Try.ntmps23
  go_upto_region 1 with fail
  rw [Hw1.out, Hw2.out, HW.out]
  (try rw [HS2.out]); (try rw [HS1.out]); (try rw [Hq.out]); (try rw [Hr.out]); (try rw [Hp'.out])
  refine wp_region_held_drew (S := fun w' => ∀ k, k < W.heap.size → k ≠ p → w'.heap[k]? = W.heap[k]?) (by kernel_rfl) (fun _ _ _ => rfl) (fun hS => ?_)
  refine wpAnyH_take (i := 0) (v := .pointer (some ⟨q, 0, none⟩)) rfl (by kernel_rfl) (by kernel_rfl) (by kernel_rfl) (fun _ _ _ h => h) (Or.inl ⟨by kernel_rfl, fun wx hx => by go_simp⟩) hS ?_
  refine wpAnyH_take (i := 1) (v := .int .i64 x1) rfl (by kernel_rfl) (by kernel_rfl) (by kernel_rfl) (fun _ _ _ h => h) (Or.inl ⟨by kernel_rfl, fun wx hx => by obtain ⟨hx1, hx2, hx3, hx4, hx5, hx6⟩ := HK.out wx hx; go_simp⟩) hS ?_
  refine wpAnyH_take (i := 2) (v := .pointer (some ⟨r, 0, none⟩)) rfl (by kernel_rfl) (by kernel_rfl) (by kernel_rfl) (fun _ _ _ h => h) (Or.inl ⟨by kernel_rfl, fun wx hx => by go_simp⟩) hS ?_
  refine wpAnyH_take (i := 3) (v := .int .i64 y1) rfl (by kernel_rfl) (by kernel_rfl) (by kernel_rfl) (fun _ _ _ h => h) (Or.inl ⟨by kernel_rfl, fun wx hx => by obtain ⟨hx1, hx2, hx3, hx4, hx5, hx6⟩ := HK.out wx hx; go_simp⟩) hS ?_
  refine wpAnyH_take (i := 4) (v := .int .i64 (x1 + y1)) rfl (by kernel_rfl) (by kernel_rfl) (by kernel_rfl) (fun _ _ _ h => h) (Or.inl ⟨by kernel_rfl, fun wx hx => by go_simp⟩) hS ?_
  refine wpAnyH_take (i := 5) (v := .pointer (some ⟨q, 1, none⟩)) rfl (by kernel_rfl) (by kernel_rfl) (by kernel_rfl) (fun _ _ _ h => h) (Or.inl ⟨by kernel_rfl, fun wx hx => by go_simp⟩) hS ?_
  refine wpAnyH_take (i := 6) (v := .int .u8 x2) rfl (by kernel_rfl) (by kernel_rfl) (by kernel_rfl) (fun _ _ _ h => h) (Or.inl ⟨by kernel_rfl, fun wx hx => by obtain ⟨hx1, hx2, hx3, hx4, hx5, hx6⟩ := HK.out wx hx; go_simp⟩) hS ?_
  refine wpAnyH_take (i := 7) (v := .pointer (some ⟨r, 1, none⟩)) rfl (by kernel_rfl) (by kernel_rfl) (by kernel_rfl) (fun _ _ _ h => h) (Or.inl ⟨by kernel_rfl, fun wx hx => by go_simp⟩) hS ?_
  refine wpAnyH_take (i := 8) (v := .int .u8 y2) rfl (by kernel_rfl) (by kernel_rfl) (by kernel_rfl) (fun _ _ _ h => h) (Or.inl ⟨by kernel_rfl, fun wx hx => by obtain ⟨hx1, hx2, hx3, hx4, hx5, hx6⟩ := HK.out wx hx; go_simp⟩) hS ?_
  refine wpAnyH_take (i := 9) (v := .int .u8 mn) rfl (by kernel_rfl) (by kernel_rfl) (by kernel_rfl) (fun _ _ _ h => h) (Or.inl ⟨by kernel_rfl, fun wx hx => by have := Hmn.out; go_simp⟩) hS ?_
  refine wpAnyH_take (i := 10) (v := .pointer (some ⟨q, 2, none⟩)) rfl (by kernel_rfl) (by kernel_rfl) (by kernel_rfl) (fun _ _ _ h => h) (Or.inl ⟨by kernel_rfl, fun wx hx => by go_simp⟩) hS ?_
  refine wpAnyH_take (i := 11) (v := .slice xa xn xc) rfl (by kernel_rfl) (by kernel_rfl) (by kernel_rfl) (fun _ _ _ h => h) (Or.inl ⟨by kernel_rfl, fun wx hx => by obtain ⟨hx1, hx2, hx3, hx4, hx5, hx6⟩ := HK.out wx hx; go_simp⟩) hS ?_
  refine wpAnyH_take (i := 12) (v := .pointer (some ⟨r, 2, none⟩)) rfl (by kernel_rfl) (by kernel_rfl) (by kernel_rfl) (fun _ _ _ h => h) (Or.inl ⟨by kernel_rfl, fun wx hx => by go_simp⟩) hS ?_
  refine wpAnyH_take (i := 13) (v := .slice ya yn yc) rfl (by kernel_rfl) (by kernel_rfl) (by kernel_rfl) (fun _ _ _ h => h) (Or.inl ⟨by kernel_rfl, fun wx hx => by obtain ⟨hx1, hx2, hx3, hx4, hx5, hx6⟩ := HK.out wx hx; go_simp⟩) hS ?_
  refine wpAnyH_ready (rs := [14]) (by kernel_rfl) (by simp) (AllReadyH.cons rfl (fun Kc hK => ?_) AllReadyH.nil)
  go_simp
  obtain ⟨V, HV⟩ : ∃ x, Hid ((W.alloc (.cells #[.slice xa xn xc, .slice ya yn yc] 33)).drew = x) := ⟨_, ⟨rfl⟩⟩
  have HBV : Hid (Below W.heap.size W V) := ⟨by rw [← HV.out]; exact ((Below.refl _ W).alloc (Nat.le_refl _) _).drew⟩
  have HVr : Hid (V.heap[z]? = some (.cells #[.slice xa xn xc, .slice ya yn yc] 33 (0, 0))) := ⟨by rw [← HV.out, ← Hz.out]; exact heap_alloc_new W _⟩
  rw [HV.out, Hz.out]
  have HP : Hid (Parts V z [(.slice xa xn xc, xl), (.slice ya yn yc, yl)]) := ⟨parts_two HVr.out (rdy_bs (OwnY.rd (HX.out.far' HBV.out))) (rdy_bs (OwnY.rd (HY.out.far' HBV.out)))⟩
  have t1 := concat41 (w := V) z 2 2 [(.slice xa xn xc, xl), (.slice ya yn yc, yl)] rfl HP.out (by simp [flat]; omega) (by simp [flat]; omega) (by omega)
  refine hK.out _ _ (fun k hk _ => HBV.out.block k hk) (fun hS => ?_)
  clear hK
  refine wpAnyH_ready (rs := [15]) (by kernel_rfl) (by simp) (AllReadyH.cons rfl (fun Kc hK => ?_) AllReadyH.nil)
  go_simp
  refine t1.mono ?_
  rintro e w5 ⟨v5, rfl, hO5, hB5⟩
  have HS5 : Hid (Below W.heap.size W w5) := ⟨HBV.out.trans (hB5.mono HBV.out.size)⟩
  have HO5 : Hid (OwnY w5 W.heap.size v5 (xl ++ yl)) := ⟨by have := OwnB.mono hO5 HBV.out.size; simp only [flat, List.map_cons, List.map_nil, List.flatten_cons, List.flatten_nil, List.append_nil] at this; exact this⟩
  clear t1 hO5 hB5
  obtain ⟨za, zc, rfl, _⟩ := HO5.out.shape
  obtain ⟨zn, Hzn⟩ : ∃ x, Hid ((xl ++ yl).length = x) := ⟨_, ⟨rfl⟩⟩
  rw [Hzn.out] at HO5 ⊢
  refine hK.out _ _ (fun k hk _ => HS5.out.block k hk) (fun hS => ?_)
  clear hK
  refine wpAnyH_take (i := 16) (v := .agg #[.int .i64 (x1 + y1), .int .u8 mn, .slice za zn zc]) rfl (by kernel_rfl) (by kernel_rfl) (by kernel_rfl) (fun _ _ _ h => h) (Or.inl ⟨by kernel_rfl, fun wx hx => by go_simp⟩) hS ?_
  have HQ5 : Hid (w5.heap[p]? = some (.cells #[.int .i64 0, .int .u8 0, .slice none 0 0] 46 (0, 0))) := ⟨below_at HS5.out HQ.out⟩
  have c0 : w5.cell? ⟨p, 0, none⟩ = some (.int .i64 0) := by rw [cell_of_row _ _ _ _ _ _ HQ5.out]; rfl
  have c1 : w5.cell? ⟨p, 1, none⟩ = some (.int .u8 0) := by rw [cell_of_row _ _ _ _ _ _ HQ5.out]; rfl
  have c2 : w5.cell? ⟨p, 2, none⟩ = some (.slice none 0 0) := by rw [cell_of_row _ _ _ _ _ _ HQ5.out]; rfl
  have f0 : w5.frozen? ⟨p, 0, none⟩ = false := frozen_of_row w5 p _ _ 46 HQ5.out
  have f1 : w5.frozen? ⟨p, 1, none⟩ = false := frozen_of_row w5 p _ _ 46 HQ5.out
  have f2 : w5.frozen? ⟨p, 2, none⟩ = false := frozen_of_row w5 p _ _ 46 HQ5.out
  refine wpAnyH_ready (rs := [17]) (by kernel_rfl) (by simp) (AllReadyH.cons rfl (fun Kc hK => ?_) AllReadyH.nil)
  go_simp
  obtain ⟨U, HU⟩ : ∃ x, Hid (((w5.setCell ⟨p, 0, none⟩ (.int .i64 (x1 + y1))).setCell ⟨p, 1, none⟩ (.int .u8 mn)).setCell ⟨p, 2, none⟩ (.slice za zn zc) = x) := ⟨_, ⟨rfl⟩⟩
  rw [HU.out]
  have HQU : Hid (U.heap[p]? = some (.cells #[.int .i64 (x1 + y1), .int .u8 mn, .slice za zn zc] 46 (0, 0))) := ⟨by
    rw [← HU.out]
    have h1 := heap_setCell_same w5 p 0 _ 46 (.int .i64 (x1 + y1)) HQ5.out
    have h2 := heap_setCell_same _ p 1 _ 46 (.int .u8 mn) h1
    have h3 := heap_setCell_same _ p 2 _ 46 (.slice za zn zc) h2
    simpa using h3⟩
  have HCU : Hid (Chg [p] w5 U) := ⟨by rw [← HU.out]; exact (((Chg.refl [p] w5).setCell (.inl (by simp)) _).setCell (.inl (by simp)) _).setCell (.inl (by simp)) _⟩
  have HBU : Hid (Below w.heap.size w U) := ⟨(HB.out.trans (HS5.out.mono HB.out.size)).trans (HCU.out.below (Nat.le_trans HB.out.size HS5.out.size) (fun x hx => by simp at hx; rw [hx]; exact Hp.out))⟩
  have HOU : Hid (OwnY U w.heap.size (.slice za zn zc) (xl ++ yl)) := ⟨own_base (own_far HO5.out HCU.out (fun g hg hm => by
    have h1 := (World.ownsRow.lt HO5.out g hg).1
    have h2 := (Array.getElem?_eq_some_iff.1 HQ.out).1
    simp at hm
    omega)) (fun g hg => Nat.le_trans HB.out.size (World.ownsRow.lt HO5.out g hg).1)⟩
  refine hK.out _ _ (fun k hk hkp => (HCU.out.block k (Nat.lt_of_lt_of_le hk HS5.out.size) (by simpa using hkp)).trans (HS5.out.block k hk)) (fun hS => ?_)
  clear hK c0 c1 c2 f0 f1 f2
  have v0 : U.cell? ⟨p, 0, none⟩ = some (.int .i64 (x1 + y1)) := by rw [cell_of_row _ _ _ _ _ _ HQU.out]; rfl
  have v1 : U.cell? ⟨p, 1, none⟩ = some (.int .u8 mn) := by rw [cell_of_row _ _ _ _ _ _ HQU.out]; rfl
  have v2 : U.cell? ⟨p, 2, none⟩ = some (.slice za zn zc) := by rw [cell_of_row _ _ _ _ _ _ HQU.out]; rfl
  refine wpAnyH_done (by kernel_rfl) ?_ _
  go_simp
  go_wp2_with fail
  refine bodyPost_ret (v := .agg #[.int .i64 (x1 + y1), .int .u8 mn, .slice za zn zc]) (by simp [results, Try.results23, go_sem, v0, v1, v2]) rfl ⟨za, zn, zc, rfl, HOU.out, HBU.out⟩
end
end Go.Proofs.Ytfecngncapenjaa
