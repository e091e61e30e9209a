/- A part's bytes. -/
import Derived.Test.YthohpbppfihoiaaU3
import Derived.Deep.RegionWith
namespace Go.Proofs.Ythohpbppfihoiaa
open Go.RowKit

section
variable {w : World}
theorem concat2 {W : World} (q : Nat) (v1 v2 : Value) (l1 l2 : List Int) (hr : W.heap[q]? = some (.cells #[v1, v2] 25 (0, 0))) (h1 : Oct.Bs W v1 l1) (h2 : Oct.Bs W v2 l2) (h0 : 0 < l1.length) (hl : l1.length + l2.length ≤ 1000) :
    Calls Try.prog 27 #[.slice (some ⟨q, 0, none⟩) 2 2] W fun e w' => ∃ v, e = .returned v ∧ OwnC w' W.heap.size v (l1 ++ l2) ∧ Below W.heap.size W w' := by
  have hf : flat [(v1, l1), (v2, l2)] = l1 ++ l2 := by simp [flat]
  have hP : Parts W q [(v1, l1), (v2, l2)] := by
    refine ⟨fun i hi => ?_, fun i hi => ?_⟩
    · have : i = 0 ∨ i = 1 := by simp at hi; omega
      rcases this with rfl | rfl
      · rw [cell_of_row _ _ _ _ _ _ hr]; rfl
      · rw [cell_of_row _ _ _ _ _ _ hr]; rfl
    · have : i = 0 ∨ i = 1 := by simp at hi; omega
      rcases this with rfl | rfl
      · exact h1
      · exact h2
  refine (concat_any q 2 2 [(v1, l1), (v2, l2)] rfl hP (by rw [hf, List.length_append]; omega) (by rw [hf, List.length_append]; omega) (by decide)).mono ?_
  rintro e w' ⟨v, rfl, hO, hB⟩
  rw [hf] at hO
  exact ⟨v, rfl, hO, hB⟩
theorem below_via {w W w' : World} (o : Obj) (h : Below W.heap.size W w') (h1 : W.os = w.os) (h2 : W.tape = w.tape) (h3 : W.output = w.output) (h4 : W.heap = w.heap.push o) : Below w.heap.size w w' := by
  have b : Below w.heap.size w W := ⟨h1, h2, h3, by rw [h4, Array.size_push]; omega, fun k hk => by rw [h4, Array.getElem?_push, if_neg (by omega)]⟩
  exact b.trans (h.mono b.size)
theorem arr_bs {W : World} {q : Nat} {l : List Int} {n : Int} {fr : Nat × Nat} (hl : l.length = 32) (h : W.heap[q]? = some (.cells (pe (l, n)).toArray 49 fr)) : Oct.Bs W (.slice (some ⟨q, 0, none⟩) 32 32) l := by
  refine ⟨some ⟨q, 0, none⟩, 32, by rw [hl], by omega, by decide, by simp, fun z hz i hi => ?_⟩
  cases hz
  rw [Oct.add_plain, Nat.zero_add, cell_of_row _ _ _ _ _ _ h, List.getElem?_toArray]
  unfold pe
  rw [List.getElem?_append_left (by simpa using hi)]
  simp [hi]
set_option maxHeartbeats 4000000 in
set_option maxRecDepth 100000 in
theorem part26 (x : Pt) (hx : x.1.length = 32) (n : Nat) (hn : x.2 = (n : Int)) (hn2 : n ≤ 9007199254740991) :
    Calls Try.prog 26 #[.agg (pe x).toArray] w fun e w' => ∃ v, e = .returned v ∧ OwnY w' w.heap.size v (x.1 ++ Oct.numB n) ∧ Below w.heap.size w w' := by
  obtain ⟨l, y⟩ := x
  simp only at hx hn
  subst hn
  obtain ⟨q, Hq⟩ : ∃ q, Hid (w.heap.size = q) := ⟨_, ⟨rfl⟩⟩
  obtain ⟨A, HA⟩ : ∃ A, Hid ((pe (l, (n : Int))).toArray = A) := ⟨_, ⟨rfl⟩⟩
  obtain ⟨w1, Hw1⟩ : ∃ x, Hid (w.alloc (.cells A 49) = x) := ⟨_, ⟨rfl⟩⟩
  have HB1 : Hid (Below w.heap.size w w1) := ⟨by rw [← Hw1.out]; exact (Below.refl _ w).alloc (Nat.le_refl _) _⟩
  have HX1 : Hid (w1.heap[q]? = some (.cells A 49 (0, 0))) := ⟨by rw [← Hw1.out, ← Hq.out]; exact heap_alloc_new w _⟩
  have c32 : w1.cell? ⟨q, 32, none⟩ = some (.int .i64 (n : Int)) := by
    rw [cell_of_row _ _ _ _ _ _ HX1.out, ← HA.out, List.getElem?_toArray]
    unfold pe
    rw [List.getElem?_append_right (by simp [hx])]
    simp [hx]
  have hq : q < w1.heap.size := (Array.getElem?_eq_some_iff.1 HX1.out).1
  have hl8 := Oct.numB_len8 n hn2
  obtain ⟨N, HN⟩ : ∃ N, Hid (Oct.numB n = N) := ⟨_, ⟨rfl⟩⟩
  rw [HN.out] at hl8
  rw [HN.out]
  rw [HA.out]
  go_enter Try.func26, Try.ntmps26
  go_upto_region 1 with (refine wp_box rfl 49 (.tmp 0) rfl A rfl ?_; rw [Hw1.out, Hq.out])
  go_region_with (first
    | (go_at_call 21; refine Calls.mono (nums1 n hn2 w1.heap.size (by exact heap_alloc_new w1 _)) ?_; rintro e w3 ⟨v3, rfl, hO3, hB3⟩; rw [HN.out] at hO3; have hb3 := below_via (w := w1) (.cells #[.int .i64 (n : Int)] 3) hB3 (by rfl) (by rfl) (by rfl) (by rfl); have hq3 := (hb3.block q hq).trans HX1.out; obtain ⟨a3, cc3, rfl, _⟩ := OwnY.shape hO3)
    | (go_at_call 27; refine Calls.mono (concat2 w3.heap.size _ (.slice a3 N.length cc3) l N (by exact heap_alloc_new w3 _) (arr_bs hx (n := (n : Int)) (fr := (0, 0)) (by rw [HA.out]; exact (((Below.refl _ w3).alloc (Nat.le_refl _) _).block q (Nat.lt_of_lt_of_le hq hb3.size)).trans hq3)) (by exact (Oct.OwnB.bs hO3).alloc _) (by omega) (by omega)) ?_; rintro e w5 ⟨v5, rfl, hO5, hB5⟩; have hb5 := below_via (w := w3) _ hB5 (by rfl) (by rfl) (by rfl) (by rfl)))
  all_goals go_wp2_with fail
  all_goals go_ret
  all_goals exact ⟨_, rfl, Oct.OwnB.mono hO5 (Nat.le_trans HB1.out.size (Nat.le_trans hb3.size (Nat.le_trans (Nat.le_succ _) (Nat.le_of_eq (Array.size_push _).symm)))), HB1.out.trans ((hb3.trans (hb5.mono hb3.size)).mono HB1.out.size)⟩
end
end Go.Proofs.Ythohpbppfihoiaa
