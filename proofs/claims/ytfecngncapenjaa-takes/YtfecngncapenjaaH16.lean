/- Lengths. -/
import Derived.Test.YtfecngncapenjaaHA
namespace Go.Proofs.Ytfecngncapenjaa
open Go.RowKit Oct Go.Lib

theorem two_fine {a b : AT} {r : List AT} (h : FineA (a :: b :: r)) : 1 ≤ a.1 ∧ 1 ≤ b.1 ∧ a.1 + b.1 ≤ 2097152 ∧ a.2.2.length + b.2.2.length ≤ 256 ∧ 0 < a.2.2.length ∧ OneA (joinA a b) := by
  have h1 := (h.each a (by simp)).pos
  have h2 := (h.each b (by simp)).pos
  have h3 := h.sumC
  have h4 := h.sumB
  have h5 := sC_pos (F := r) (fun t ht => h.each t (by simp [ht]))
  have h6 := List.length_pos_of_mem (h.each a (by simp)).mem
  simp only [sC, sB] at h3 h4
  exact ⟨h1, h2, by omega, by omega, h6, h.join.each _ (by simp)⟩
theorem z0_all (i : Nat) : z0.getD i 0 = 0 := z0_get i
theorem RunA.small {F0 F : List AT} {g : List Int} (h0 : FineA F0) (h : RunA F0 F g) (i : Nat) : 0 ≤ g.getD i 0 ∧ g.getD i 0 + (F.length : Int) ≤ (F0.length : Int) := by
  induction h with
  | init F p => rw [z0_all, p.length_eq]; omega
  | step F G rest x y g h1 p hx hy q ih =>
    have hj := (two_fine ((h1.fine h0).perm p)).2.2.2.2.2
    rw [bump_get h1.len hj.by' hj.nodup]
    have h2 := p.length_eq
    have h3 := q.length_eq
    simp only [List.length_cons] at h2 h3
    by_cases hi : (i : Int) ∈ (joinA x y).2.2
    · rw [if_pos hi]; omega
    · rw [if_neg hi]; omega
/-- No block of these is a row of lengths. -/
def Not22 (w : World) (X : List Nat) : Prop := ∀ x ∈ X, x < w.heap.size → ∃ e, Ty w e x ∧ e ≠ 22
theorem Box.not22 {w : World} {b base : Nat} {sl : Value} {L : List Sh} (h : Box w b base sl L) : Not22 w (b :: ob sl) := fun x hx _ => by
  rcases List.mem_cons.1 hx with rfl | hx
  · exact ⟨43, ⟨_, h.box⟩, by decide⟩
  · exact ⟨46, h.own.ty x hx, by decide⟩
theorem row22_far {w w' : World} {r : Nat} {cs : Array Value} {X : List Nat} (h : w.heap[r]? = some (.cells cs 22 (0, 0))) (hc : Chg X w w') (hX : Not22 w X) : w'.heap[r]? = some (.cells cs 22 (0, 0)) := by
  have hl : r < w.heap.size := (Array.getElem?_eq_some_iff.1 h).1
  refine (hc.block r hl (fun hm => ?_)).trans h
  obtain ⟨e, h2, h3⟩ := hX r hm hl
  exact Ty.ne (f := e) ⟨cs, h⟩ h2 (fun e' => h3 e'.symm) rfl
theorem Box.ge {w : World} {b base : Nat} {sl : Value} {L : List Sh} (h : Box w b base sl L) (hb : base ≤ b) : ∀ x ∈ b :: ob sl, base ≤ x := fun x hx => by
  rcases List.mem_cons.1 hx with rfl | hx
  · exact hb
  · exact (h.own.lt x hx).1
theorem By.take {l : List Int} (h : By l) (k : Nat) : By (l.take k) := fun x hx => h x (List.mem_of_mem_take hx)
section
variable {w : World}
set_option maxHeartbeats 8000000 in
set_option maxRecDepth 100000 in
theorem lengths9_no (f : List Int) (hf : f.length = 256) (hb : f.any bad = true) : Calls Try.prog 9 #[.agg (ia f)] w fun e w' => e = .returned (.tuple #[.agg (ia z0), .int .i64 2]) ∧ Below w.heap.size w w' := by
  obtain ⟨q, Hq⟩ : ∃ q, Hid (w.heap.size = q) := ⟨_, ⟨rfl⟩⟩
  obtain ⟨w1, Hw1⟩ : ∃ x, Hid (w.alloc (.cells (ia f) 22) = x) := ⟨_, ⟨rfl⟩⟩
  have HB1 : Hid (Below w.heap.size w w1) := ⟨by rw [← Hw1.out]; exact (Below.refl _ w).alloc (Nat.le_refl _) _⟩
  have HX1 : Hid (w1.heap[q]? = some (.cells (ia f) 22 (0, 0))) := ⟨by rw [← Hw1.out, ← Hq.out]; exact heap_alloc_new w _⟩
  have HS1 : Hid (w1.heap.size = q + 1) := ⟨by rw [← Hw1.out, ← Hq.out]; exact Array.size_push _⟩
  obtain ⟨w2, Hw2⟩ : ∃ x, Hid (w1.alloc (.cells (ia z0) 22) = x) := ⟨_, ⟨rfl⟩⟩
  have HB2 : Hid (Below w.heap.size w w2) := ⟨by rw [← Hw2.out]; exact HB1.out.alloc HB1.out.size _⟩
  have HX2 : Hid (w2.heap[q]? = some (.cells (ia f) 22 (0, 0))) := ⟨by rw [← Hw2.out]; rw [heap_alloc_old (h := by rw [HS1.out]; omega)]; exact HX1.out⟩
  have HY2 : Hid (w2.heap[q + 1]? = some (.cells (ia z0) 22 (0, 0))) := ⟨by rw [← Hw2.out, ← HS1.out]; exact heap_alloc_new w1 _⟩
  have t1 := any20 q f hf HX2.out
  rw [hb] at t1
  obtain ⟨A, HA⟩ : ∃ A, Hid (ia f = A) := ⟨_, ⟨rfl⟩⟩
  rw [HA.out] at Hw1
  rw [HA.out]
  clear hf hb
  go_enter Try.func9, Try.ntmps9
  go_upto_region 1 with (first | (refine wp_box rfl 22 (.tmp 0) rfl A rfl ?_; rw [Hw1.out]) | (refine wp_new22 rfl rfl ?_; rw [Hw2.out]))
  rw [HS1.out, Hq.out]
  go_upto_region 2 with (go_at_call 20; refine t1.mono ?_; rintro e w3 ⟨rfl, rfl⟩; clear t1)
  go_wp2_with (first | (refine wp_zero22 rfl rfl ?_) | (refine wp_put22 (f := z0) (g := z0) rfl (.tmp 2) (.tmp 11) rfl rfl rfl z0_len z0_len HY2.out ?_))
  (try simp only [Exit.inBlock, Exit.then])
  refine bodyPost_ret (results_ct rfl _ _ rfl (load22 z0_len (setRow_heap w2 (q + 1) (ia z0) _ 22 (0, 0) HY2.out))) rfl ?_
  exact ⟨rfl, below_setRow HB2.out (by rw [Hq.out]; exact Nat.le_succ q) _⟩
end
end Go.Proofs.Ytfecngncapenjaa
