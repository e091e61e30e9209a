/- The walk of CodeLengths. -/
import Derived.Test.YtfecngncapenjaaL5
import Derived.Test.YtfecngncapenjaaH17
import Derived.Test.YtfecngncapenjaaV3
namespace Go.Proofs.Ytfecngncapenjaa
open Go.RowKit Oct

/-- There is a least tree. -/
theorem least_ex : ∀ F : List AT, F ≠ [] → ∃ x rest, F.Perm (x :: rest) ∧ ∀ t ∈ rest, ltA t x = false
  | [], h => absurd rfl h
  | [a], _ => ⟨a, [], List.Perm.refl _, fun t ht => by cases ht⟩
  | a :: b :: r, _ => by
    obtain ⟨x, rest, hp, hx⟩ := least_ex (b :: r) (by simp)
    cases hax : ltA a x with
    | true =>
      refine ⟨a, x :: rest, hp.cons a, fun t ht => ?_⟩
      have h1 : ltA x a = false := by
        unfold ltA at *
        have := of_decide_eq_true hax
        exact decide_eq_false (by omega)
      rcases List.mem_cons.1 ht with rfl | ht
      · exact h1
      · have h2 := hx t ht
        unfold ltA at *
        have h3 := of_decide_eq_true hax
        have h4 := of_decide_eq_false h2
        exact decide_eq_false (by omega)
    | false =>
      refine ⟨x, a :: rest, (hp.cons a).trans (List.Perm.swap _ _ _), fun t ht => ?_⟩
      rcases List.mem_cons.1 ht with rfl | ht
      · exact hax
      · exact hx t ht
theorem run_ex {F0 : List AT} : ∀ (n : Nat) (F : List AT) (g : List Int), F.length ≤ n → RunA F0 F g → ∃ G k, RunA F0 G k ∧ G.length ≤ 1
  | 0, F, g, hn, h => ⟨F, g, h, by omega⟩
  | n + 1, F, g, hn, h => by
    by_cases h1 : F.length ≤ 1
    · exact ⟨F, g, h, h1⟩
    · obtain ⟨x, r1, p1, m1⟩ := least_ex F (fun e => by subst e; exact h1 (by simp))
      have l1 := p1.length_eq
      simp only [List.length_cons] at l1
      obtain ⟨y, r2, p2, m2⟩ := least_ex r1 (fun e => by subst e; simp at l1; omega)
      have l2 := p2.length_eq
      simp only [List.length_cons] at l2
      have hs := RunA.step F (joinA x y :: r2) r2 x y g h (p1.trans (p2.cons x)) (fun t ht => m1 t (p2.mem_iff.2 ht)) m2 (List.Perm.refl _)
      exact run_ex n _ _ (by simp only [List.length_cons]; omega) hs
theorem lens_some (f : List Int) : ∃ g, LenS f g := by
  by_cases h : (T0 f 256).length = 1
  · obtain ⟨t, ht⟩ := List.length_eq_one_iff.1 h
    exact ⟨_, .inl ⟨h, t, ht, rfl⟩⟩
  · obtain ⟨G, k, hr, hl⟩ := run_ex _ _ _ (Nat.le_refl _) (RunA.init (F0 := T0 f 256) _ (List.Perm.refl _))
    exact ⟨k, .inr ⟨h, G, hr, hl⟩⟩
section
variable {w : World}
/-- Both Lengths answer the same. -/
theorem lengths_one (f : List Int) (hf : f.length = 256) : ∃ g, ∃ z : Int, g.length = 256 ∧ (∀ W : World, Calls Try.prog 9 #[.agg (ia f)] W fun e w' => e = .returned (.tuple #[.agg (ia g), .int .i64 z]) ∧ Below W.heap.size W w') ∧ ∀ W : World, Calls Try.prog 10 #[.agg (ia f)] W fun e w' => e = .returned (.tuple #[.agg (ia g), .int .i64 z]) ∧ Below W.heap.size W w' := by
  cases hb : f.any bad with
  | true =>
    refine ⟨z0, 2, z0_len, fun W => lengths9_no f hf hb, fun W => (lengths10 f hf).mono ?_⟩
    rintro e w' ⟨g, z, rfl, h1, _, h3⟩
    obtain ⟨rfl, rfl⟩ := h1 hb
    exact ⟨rfl, h3⟩
  | false =>
    have h0 := T0_fine hf hb
    obtain ⟨g, hg⟩ := lens_some f
    refine ⟨g, 0, hg.len, fun W => (lengths9_ok f hf hb).mono ?_, fun W => (lengths10 f hf).mono ?_⟩
    · rintro e w' ⟨k, rfl, hk, h3⟩
      rw [hk.det h0 hg]
      exact ⟨rfl, h3⟩
    · rintro e w' ⟨k, z, rfl, _, h2, h3⟩
      obtain ⟨rfl, hk⟩ := h2 hb
      rw [hk.det h0 hg]
      exact ⟨rfl, h3⟩
set_option maxHeartbeats 16000000 in
set_option maxRecDepth 100000 in
theorem lengths_core (f : List Int) (hf : f.length = 256) : Calls Try.prog 3 #[.agg (ia f)] w fun e w' => e = .returned (.bool true) ∧ Below w.heap.size w w' := by
  obtain ⟨q, Hq⟩ : ∃ q, Hid (w.heap.size = q) := ⟨_, ⟨rfl⟩⟩
  obtain ⟨g, z, hg, hA9, hA10⟩ := lengths_one f hf
  obtain ⟨w1, Hw1, HX1, HB1, HS1⟩ := bx22 w f
  rw [Hq.out] at HX1 HS1
  obtain ⟨A, HA⟩ : ∃ A, Hid (ia f = A) := ⟨_, ⟨rfl⟩⟩
  have HI : Hid ((Try.prog.info? 22).map (·.size) = some A.size) := ⟨by rw [← HA.out]; exact info22f hf⟩
  have tl := fun W : World => live11 (w := W)
  rw [HA.out] at Hw1 HX1 hA9 hA10
  rw [HA.out]
  have T9 := Hid.mk hA9
  have T10 := Hid.mk hA10
  have Tl := Hid.mk tl
  have Hgl := Hid.mk hg
  clear hf hA9 hA10 tl hg
  go_enter Try.func3, Try.ntmps3
  go_upto_region 1 with (refine wp_box rfl 22 (.tmp 0) rfl A rfl ?_; rw [Hw1.out])
  rw [Hq.out]
  go_wp2_with (refine wp_load rfl 22 (.tmp 1) rfl q rfl A 22 (0, 0) _ HX1.out Try.underlying22 rfl HI.out ?_)
  refine (T9.out w1).mono ?_
  rintro e w3 ⟨rfl, hB3⟩
  have HB3 : Hid (Below w.heap.size w w3) := ⟨HB1.out.trans (hB3.mono HB1.out.size)⟩
  have HX3 := Hid.mk (below_at hB3 HX1.out)
  obtain ⟨r, Hr⟩ : ∃ q, Hid (w3.heap.size = q) := ⟨_, ⟨rfl⟩⟩
  obtain ⟨w4, Hw4, HL4, HB4⟩ := al22 w3 g
  rw [Hr.out] at Hw4 HL4
  have HB4q : Hid (Below w.heap.size w w4) := ⟨HB3.out.trans (HB4.out.mono HB3.out.size)⟩
  have HX4 := Hid.mk (below_at HB4.out HX3.out)
  clear hB3
  go_upto_region 2 with (first | (refine wp_new22 rfl rfl ?_; rw [Hr.out]) | (refine wp_put22 (f := z0) (g := g) rfl (.tmp 3) (.tmp 10) rfl rfl rfl z0_len Hgl.out (by rw [← Hr.out]; exact heap_alloc_new w3 _) ?_; rw [Hw4.out]))
  go_wp2_with (refine wp_load rfl 22 (.tmp 1) rfl q rfl A 22 (0, 0) _ HX4.out Try.underlying22 rfl HI.out ?_)
  refine (T10.out w4).mono ?_
  rintro e w5 ⟨rfl, hB5⟩
  have HB5 : Hid (Below w.heap.size w w5) := ⟨HB4q.out.trans (hB5.mono HB4q.out.size)⟩
  have HL5 := Hid.mk (below_at hB5 HL4.out)
  obtain ⟨s, Hs⟩ : ∃ q, Hid (w5.heap.size = q) := ⟨_, ⟨rfl⟩⟩
  obtain ⟨w6, Hw6, HM6, HB6⟩ := al22 w5 g
  rw [Hs.out] at Hw6 HM6
  have HB6q : Hid (Below w.heap.size w w6) := ⟨HB5.out.trans (HB6.out.mono HB5.out.size)⟩
  have HL6 := Hid.mk (below_at HB6.out HL5.out)
  clear hB5
  go_upto_region 3 with (first | (refine wp_new22 rfl rfl ?_; rw [Hs.out]) | (refine wp_put22 (f := z0) (g := g) rfl (.tmp 5) (.tmp 15) rfl rfl rfl z0_len Hgl.out (by rw [← Hs.out]; exact heap_alloc_new w5 _) ?_; rw [Hw6.out]))
  go_wp2_with fail
  refine (Tl.out _).mono ?_
  rintro e wl ⟨rfl, hBl⟩
  have HBl : Hid (Below w.heap.size w wl) := ⟨HB6q.out.trans (hBl.mono HB6q.out.size)⟩
  have hl1 := load22 Hgl.out (below_at hBl HL6.out)
  have hl2 := load22 Hgl.out (below_at hBl HM6.out)
  have heq := eq22 wl Hgl.out Hgl.out 9998
  rw [beq_self_eq_true] at heq
  obtain ⟨Z, HZ⟩ : ∃ Z, Hid (ia g = Z) := ⟨_, ⟨rfl⟩⟩
  rw [HZ.out] at hl1 hl2 heq ⊢
  have hzz : (z == z) = true := beq_self_eq_true z
  clear hBl
  go_wp2_with fail
  refine op_load 22 (.tmp 3) rfl r rfl hl1 ?_
  go_wp2_with fail
  refine op_load 22 (.tmp 5) rfl s rfl hl2 ?_
  go_wp2_with fail
  go_ret
  exact ⟨rfl, HBl.out⟩
end
theorem walk_codeLengths (v0 : Value) (b0 : List Int) (W : World) (h0 : v0 = .agg (ia b0) ∧ b0.length = 256) : Calls Try.prog 3 #[v0] W fun e w' => e = .returned (.bool true) ∧ Below W.heap.size W w' := by
  obtain ⟨rfl, hf⟩ := h0
  exact lengths_core b0 hf
end Go.Proofs.Ytfecngncapenjaa
