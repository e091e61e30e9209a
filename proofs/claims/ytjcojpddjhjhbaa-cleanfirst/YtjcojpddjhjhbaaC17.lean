/- What lives, whatever is asked. -/
import Derived.Test.YtjcojpddjhjhbaaC12
import Derived.Test.YtjcojpddjhjhbaaC16
namespace Go.Proofs.Ytjcojpddjhjhbaa
open Go.RowKit Go.Lib Go.Shelf

theorem u27 : Try.prog.underlying 27 = some (.struct (Try.prog.fieldsOf 27)) := by kernel_rfl
theorem p27 : Try.prog.stoodInHeld 27 = false := by kernel_rfl
theorem f27 : (Try.prog.fieldsOf 27).toList.map (fun f => (f.type, f.offset, f.name == "_")) = [(3, 0, false), (3, 1, false), (3, 2, false)] := by kernel_rfl
theorem three {fs : List Field} {a b c : TypeId × Nat × Bool} (h : fs.map (fun f => (f.type, f.offset, f.name == "_")) = [a, b, c]) : ∃ f0 f1 f2 : Field, fs = [f0, f1, f2] ∧ (f0.type, f0.offset, f0.name == "_") = a ∧ (f1.type, f1.offset, f1.name == "_") = b ∧ (f2.type, f2.offset, f2.name == "_") = c := by
  match fs, h with
  | [f0, f1, f2], h =>
    simp only [List.map_cons, List.map_nil, List.cons.injEq, and_true] at h
    exact ⟨f0, f1, f2, rfl, h⟩
theorem eqIn27 (w : World) (a b c : Int) (d : Nat) : (Op.equalIn (d + 3) 27 (.agg #[.int .i64 a, .int .i64 b, .int .i64 c]) (.agg #[.int .i64 a, .int .i64 b, .int .i64 c])).run Try.prog w = .ok true w := by
  have hI : ∀ z : Int, (Op.equalIn (d + 2) 3 (.int .i64 z) (.int .i64 z)).run Try.prog w = .ok true w := fun z => by
    rw [run_equalIn_int w (d + 1) 3 .i64 .i64 z z Try.underlying3]
    simp
  rw [run_equalIn_struct w (d + 2) 27 _ _ u27 p27]
  have hq := f27
  generalize (Try.prog.fieldsOf 27).toList = fs at hq
  obtain ⟨f0, f1, f2, rfl, e0, e1, e2⟩ := three hq
  simp only [Prod.mk.injEq] at e0 e1 e2
  rw [eqf_cons w (d + 2) _ _ f0 _ e0.2.2 e0.1 e0.2.1 (partI w _ 0 a rfl) (partI w _ 0 a rfl) (hI _),
    eqf_cons w (d + 2) _ _ f1 _ e1.2.2 e1.1 e1.2.1 (partI w _ 1 b rfl) (partI w _ 1 b rfl) (hI _),
    eqf_cons w (d + 2) _ _ f2 _ e2.2.2 e2.1 e2.2.1 (partI w _ 2 c rfl) (partI w _ 2 c rfl) (hI _)]
  rfl
theorem eq27 (w : World) (a b c : Int) : (binOp .eql 27 (.agg #[.int .i64 a, .int .i64 b, .int .i64 c]) (.agg #[.int .i64 a, .int .i64 b, .int .i64 c])).run Try.prog w = .ok (.bool true) w := by
  rw [run_eql_struct, eqIn27 w a b c 9997]
  rfl
theorem ne27 (w : World) (a b c : Int) : (binOp .neq 27 (.agg #[.int .i64 a, .int .i64 b, .int .i64 c]) (.agg #[.int .i64 a, .int .i64 b, .int .i64 c])).run Try.prog w = .ok (.bool false) w := by
  rw [run_neq_struct, eqIn27 w a b c 9997]
  rfl
theorem guard27 (w : World) (op : BinOp) (x y : Operand) (xs ys : Array Value) : (eqGuard op 27 x y (.agg xs) (.agg ys)).run Try.prog w = .ok () w := run_eqGuard_agg w op 27 x y xs ys (by kernel_rfl)
theorem rde_all {α : Type} {f : α → List Value} {k : Nat} {d : α} (w : World) (M : List α) (hM : ∀ x ∈ M, (f x).length = k ∧ ∀ u ∈ f x, u.oneCell' = true) (hl : M.length ≤ maxLen) (fr : TypeId) : RdE f k d (w.alloc (.cells (fl f M).toArray fr)) (.slice (some ⟨w.heap.size, 0, none⟩) M.length M.length) M := by
  refine ⟨⟨_, _, rfl, Nat.le_refl _, hl, by simp⟩, fun i hi => ⟨_, _, _, rfl, fun j hj => ?_⟩, hM⟩
  rw [cell_of_row _ _ _ _ _ _ (heap_alloc_new w _), Nat.zero_add, List.getElem?_toArray]
  exact fl_get f k d M (fun x hx => (hM x hx).1) i j hi hj
def lvL : List Sh := [(1, 10, 4), (2, 10, 1), (3, 10, 10)]
theorem lv_rt : AllRt lvL := fun s hs => by
  simp [lvL] at hs
  rcases hs with rfl | rfl | rfl <;> exact ⟨by decide, by decide, by decide⟩
theorem lv_low : lvL.filter (low 50) = [(1, 10, 4), (2, 10, 1)] := by decide
theorem lv_one {S : List Sh} (h : S.Perm (lvL.filter (low 50))) (ho : Ord S) : S.map (·.1) = [2, 1] := by
  rw [lv_low] at h
  have h2 : ([(1, 10, 4), (2, 10, 1)] : List Sh).Perm [(2, 10, 1), (1, 10, 4)] := List.Perm.swap _ _ _
  have hr : AllRt S := fun s hs => by
    have := h.mem_iff.1 hs
    simp at this
    rcases this with rfl | rfl <;> exact ⟨by decide, by decide, by decide⟩
  have := sorted_one hr (h.trans h2) ho (by simp; decide)
  rw [this]
  rfl
section
variable {w : World}
set_option maxHeartbeats 4000000 in
set_option maxRecDepth 100000 in
theorem live_any : Calls Try.prog 10 #[] w fun e w' => e = .returned (.bool true) ∧ Below w.heap.size w w' := by
  have hq := eq27
  have hg := guard27
  obtain ⟨w1, Hw1⟩ : ∃ x, Hid (w.alloc (.cells #[.int .i64 1, .int .i64 10, .int .i64 4, .int .i64 2, .int .i64 10, .int .i64 1, .int .i64 3, .int .i64 10, .int .i64 10] 27) = x) := ⟨_, ⟨rfl⟩⟩
  have HB1 : Hid (Below w.heap.size w w1) := ⟨by rw [← Hw1.out]; exact (Below.refl _ w).alloc (Nat.le_refl _) _⟩
  have t1 := choose_yes (w := w1) (.slice (some ⟨w.heap.size, 0, none⟩) 3 3) lvL (by rw [← Hw1.out]; exact rde_all w lvL (fun x _ => sh3_one x) (by decide) 27) (by decide) 50 9 ⟨by decide, by decide⟩ (by decide) lv_rt
  go_enter Try.func10, Try.ntmps10
  go_wp2_with fail
  rw [Hw1.out]
  refine t1.mono ?_
  rintro e w2 ⟨x2, rfl, S, hP2, hO2, hR2, hB2⟩
  have HB2 : Hid (Below w.heap.size w w2) := ⟨HB1.out.trans (hB2.mono HB1.out.size)⟩
  rw [lv_one hP2 hO2] at hR2
  have HR2 : Hid (RdI w2 x2 [2, 1]) := ⟨hR2⟩
  clear t1 hP2 hO2 hB2 hR2 Hw1
  obtain ⟨w5, Hw5⟩ : ∃ x, Hid (((w2.alloc (.cells #[.int .i64 3, .int .i64 4] 3)).alloc (.cells #[.int .i64 1, .slice (some ⟨w2.heap.size, 0, none⟩) 2 2] 39)).alloc (.cells #[.int .i64 1, .int .i64 1] 46) = x) := ⟨_, ⟨rfl⟩⟩
  have HB5 : Hid (Below w2.heap.size w2 w5) := ⟨by rw [← Hw5.out]; exact (((Below.refl _ w2).alloc (Nat.le_refl _) _).alloc (by simp) _).alloc (by simp; omega) _⟩
  have HB05 : Hid (Below w.heap.size w w5) := ⟨HB2.out.trans (HB5.out.mono HB2.out.size)⟩
  have hF : RdF w5 (.slice (some ⟨w2.heap.size + 1, 0, none⟩) 1 1) [(1, [3, 4])] := by
    have h1 := heap_alloc_new w2 (.cells #[.int .i64 3, .int .i64 4] 3)
    have h1' : w5.heap[w2.heap.size]? = some (.cells #[.int .i64 3, .int .i64 4] 3 (0, 0)) := by
      rw [← Hw5.out]
      exact ((((Below.refl _ (w2.alloc (.cells #[.int .i64 3, .int .i64 4] 3))).alloc (Nat.le_refl _) _).alloc (by simp) _).block w2.heap.size (by simp)).trans h1
    have h2 := heap_alloc_new (w2.alloc (.cells #[.int .i64 3, .int .i64 4] 3)) (.cells #[.int .i64 1, .slice (some ⟨w2.heap.size, 0, none⟩) 2 2] 39)
    have h2' : w5.heap[w2.heap.size + 1]? = some (.cells #[.int .i64 1, .slice (some ⟨w2.heap.size, 0, none⟩) 2 2] 39 (0, 0)) := by
      rw [← Hw5.out]
      refine (((Below.refl _ _).alloc (Nat.le_refl _) _).block (w2.heap.size + 1) (by simp)).trans ?_
      simpa using h2
    refine ⟨⟨_, _, rfl, Nat.le_refl _, by decide, by simp⟩, fun i hi => ?_⟩
    simp at hi
    subst hi
    refine ⟨_, _, _, .slice (some ⟨w2.heap.size, 0, none⟩) 2 2, rfl, ?_, ?_, ?_⟩
    · rw [cell_of_row _ _ _ _ _ _ h2']; rfl
    · rw [cell_of_row _ _ _ _ _ _ h2']; rfl
    · refine ⟨_, _, rfl, by decide, by decide, by simp, fun x hx i hi => ?_⟩
      simp at hx
      subst hx
      have hi' : i < 2 := hi
      rw [add_plain, cell_of_row _ _ _ _ _ _ h1']
      rcases (show i = 0 ∨ i = 1 by omega) with rfl | rfl <;> rfl
  have hU : RdE sp2 2 q0 w5 (.slice (some ⟨w2.heap.size + 1 + 1, 0, none⟩) 1 1) [(1, 1)] := by
    rw [← Hw5.out]
    have := rde_one (f := sp2) (k := 2) (d := q0) ((w2.alloc (.cells #[.int .i64 3, .int .i64 4] 3)).alloc (.cells #[.int .i64 1, .slice (some ⟨w2.heap.size, 0, none⟩) 2 2] 39)) ((1, 1) : Sp) rfl (sp2_one (1, 1)).2 46
    rw [show ((w2.alloc (.cells #[.int .i64 3, .int .i64 4] 3)).alloc (.cells #[.int .i64 1, .slice (some ⟨w2.heap.size, 0, none⟩) 2 2] 39)).heap.size = w2.heap.size + 1 + 1 by simp] at this
    exact this
  have t3 := shares8 (w := w5) _ _ _ _ hF (by decide) hU (by decide)
  rw [show ([(1, [3, 4])] : List Fl).map (shr [(1, 1)]) = [(1, 7, 4)] by decide] at t3
  clear hF hU
  obtain ⟨a2, c2, e2, _⟩ := HR2.out.shape
  simp at e2
  subst e2
  go_wp2_with fail
  rw [Hw5.out]
  refine t3.mono ?_
  rintro e w6 ⟨x6, rfl, hO6, hB6⟩
  have HO6 := Hid.mk hO6
  have HB6 : Hid (Below w5.heap.size w5 w6) := ⟨hB6⟩
  clear t3 hO6 hB6
  have HB06 : Hid (Below w.heap.size w w6) := ⟨HB05.out.trans (HB6.out.mono HB05.out.size)⟩
  have hR6 : RdI w6 (.slice a2 2 c2) [2, 1] := HR2.out.far (Chg.ofBelow (X := []) (HB5.out.trans (HB6.out.mono HB5.out.size))) (by simp)
  obtain ⟨g, off, cap, e, _, hc⟩ := hR6.at (i := 0) (by decide)
  simp at e
  obtain ⟨rfl, rfl⟩ := e
  have c0 := hc 0 (by decide)
  have c1 := hc 1 (by decide)
  clear hc
  simp at c0 c1
  obtain ⟨a6, c6, e6, _⟩ := (HO6.out.rd s0).shape
  simp at e6
  subst e6
  obtain ⟨g6, off6, cap6, e, hc⟩ := (HO6.out.rd s0).at' 0 (by decide)
  simp at e
  obtain ⟨rfl, rfl⟩ := e
  have d0 := hc 0 (by decide)
  have d1 := hc 1 (by decide)
  have d2 := hc 2 (by decide)
  clear hc
  simp [sh3] at d0 d1 d2
  obtain ⟨w7, Hw7⟩ : ∃ x, Hid (w6.alloc (.cells #[.int .i64 1, .int .i64 1] 46) = x) := ⟨_, ⟨rfl⟩⟩
  have HB7 : Hid (Below w.heap.size w w7) := ⟨by rw [← Hw7.out]; exact HB06.out.alloc HB06.out.size _⟩
  have t8 := copies16 (w := w7) 1 (.slice (some ⟨w6.heap.size, 0, none⟩) 1 1) [(1, 1)] (by rw [← Hw7.out]; exact rde_one w6 ((1, 1) : Sp) rfl (sp2_one (1, 1)).2 46) (by decide)
  clear HR2 hR6 HO6 HB5 HB6 HB05 HB06 Hw5
  go_wp2_with fail
  rw [Hw7.out]
  refine t8.mono ?_
  rintro e w8 ⟨x8, rfl, M8, hO8, hU8, hM8, hL8, hB8⟩
  have HB8 : Hid (Below w.heap.size w w8) := ⟨HB7.out.trans (hB8.mono HB7.out.size)⟩
  obtain ⟨a8, c8, e8, _⟩ := hO8.shape
  subst e8
  have hm8 : M8.length = 1 := by
    have h1 : (1 : Int) ∈ M8 := (hM8 1).2 (by simp)
    have h2 := List.length_pos_of_mem h1
    simp at hL8
    omega
  rw [hm8]
  clear t8 hO8 hU8 hM8 hL8 hB8
  go_wp2_with fail
  go_ret
  exact ⟨rfl, HB8.out⟩
end
end Go.Proofs.Ytjcojpddjhjhbaa
