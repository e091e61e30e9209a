/- The walk of OctetFixedBack. -/
import Derived.Test.YthfikoghbnicoaaL3
import Derived.Test.YthfikoghbnicoaaPure4
namespace Go.Proofs.Ythfikoghbnicoaa
open Go.RowKit

set_option maxHeartbeats 2000000 in
set_option maxRecDepth 1000000 in
theorem walk_octetFixedBack (m n W : Int) (v : Value) (bs : List Int) (w : World) (_w0 : (Lit.int .i64 m).wf = true) (_w1 : (Lit.int .i64 n).wf = true) (_w2 : (Lit.int .i64 W).wf = true) (hb : Bs w v bs) (by1 : ∀ x ∈ bs, 0 ≤ x ∧ x < 256) (l1 : bs.length ≤ 140737488351232) :
    Calls Try.prog 6 #[.int .i64 m, .int .i64 n, .int .i64 W, v] w fun e w' => e = .returned (.bool true) ∧ Below w.heap.size w w' := by
  obtain ⟨a, cap, rfl⟩ : ∃ a cap, v = .slice a bs.length cap := by obtain ⟨a, cap, h, _⟩ := hb; exact ⟨a, cap, h⟩
  obtain ⟨ms, r, h1, _, hc1⟩ := fixed_any m W
  obtain ⟨ns, q, h2, _, hc2⟩ := fixed_any n W
  have H1 : Hid _ := h1
  have H2 : Hid _ := h2
  clear h1 h2
  rcases hc1 with ⟨hr, rfl⟩ | ⟨rfl, M, K, rfl, rfl, hM, hK1, hK8, hMz, rfl⟩
  · have hr' : (r != 0) = true := by simpa using hr
    go_enter Try.func6, Try.ntmps6
    go_wp2_with fail
    refine Calls.mono (H1.out w) ?_
    rintro e w1 ⟨v1, rfl, hown1, hb1⟩
    go_wp2_with fail
    refine Calls.mono (H2.out w1) ?_
    rintro e w2 ⟨v2, rfl, hown2, hb2⟩
    go_wp2_with fail
    refine (live_any w2).mono ?_
    rintro e w3 ⟨rfl, hb3⟩
    have bw3 : Below w.heap.size w w3 := (hb1.trans (hb2.mono hb1.size)).trans (hb3.mono (Nat.le_trans hb1.size hb2.size))
    go_wp2
    go_ret
    exact ⟨rfl, bw3⟩
  rcases hc2 with ⟨hq, rfl⟩ | ⟨rfl, M2, K2, rfl, hKK, hM2, _, _, hMz2, rfl⟩
  · have hq' : (q != 0) = true := by simpa using hq
    go_enter Try.func6, Try.ntmps6
    go_wp2_with fail
    refine Calls.mono (H1.out w) ?_
    rintro e w1 ⟨v1, rfl, hown1, hb1⟩
    go_wp2_with fail
    refine Calls.mono (H2.out w1) ?_
    rintro e w2 ⟨v2, rfl, hown2, hb2⟩
    go_wp2_with fail
    refine (live_any w2).mono ?_
    rintro e w3 ⟨rfl, hb3⟩
    have bw3 : Below w.heap.size w w3 := (hb1.trans (hb2.mono hb1.size)).trans (hb3.mono (Nat.le_trans hb1.size hb2.size))
    go_wp2
    go_ret
    exact ⟨rfl, bw3⟩
  have hKK' : K = K2 := by omega
  subst hKK'
  have hless := str_less M M2 K hMz hMz2
  have HLs : Hid _ := hless
  have F1 : Hid ((fixB M K).length = K) := fixB_length M K
  have F2 : Hid ((fixB M2 K).length = K) := fixB_length M2 K
  have FB1 := fixB_byte M K
  have FB2 := fixB_byte M2 K
  clear hless hKK
  go_enter Try.func6, Try.ntmps6
  go_wp2_with fail
  refine Calls.mono (H1.out w) ?_
  rintro e w1 ⟨v1, rfl, hown1, hb1⟩
  go_wp2_with fail
  refine Calls.mono (H2.out w1) ?_
  rintro e w2 ⟨v2, rfl, hown2, hb2⟩
  have bw2 : Below w.heap.size w w2 := hb1.trans (hb2.mono hb1.size)
  have hbs2 := hb.below bw2
  have ho : OwnB (w2.alloc (.cells #[] 5)) w2.heap.size 5 (.slice (some ⟨w2.heap.size, 0, none⟩) 0 0) [] := own_lit w2 5 w2.heap.size [] #[] rfl (Nat.le_refl _) (Nat.zero_le _)
  have hB1 : Bs w2 v1 (fixB M K) := hown1.bs.below hb2
  have hB2 : Bs w2 v2 (fixB M2 K) := hown2.bs
  have z2 := bw2.size
  go_wp2_with (at_builtin; refine wp_appS Try.bt rfl (.tmp 36) (.tmp 37) rfl rfl ho rfl (hbs2.alloc _) (by simp; omega) (by simp) ?_)
  intro v3 w3 hown3 hb3
  have hb23 : Below w2.heap.size w2 w3 := ((Below.refl _ w2).alloc (Nat.le_refl _) _).trans hb3
  have z3 := hb23.size
  go_wp2_with (at_builtin; refine wp_appS Try.bt rfl (.tmp 38) (.tmp 39) rfl rfl hown3 rfl (hB1.below hb23) (by rw [F1.out]; omega) (by omega) ?_)
  intro v4 w4 hown4 hb4
  have hb24 := hb23.trans hb4
  have z4 := hb24.size
  go_wp2_with (at_builtin; refine wp_appS Try.bt rfl (.tmp 40) (.tmp 41) rfl rfl hown4 rfl (hB2.below hb24) (by rw [List.length_append, F1.out, F2.out]; omega) (by omega) ?_)
  intro v5 w5 hown5 hb5
  have hb25 := hb24.trans hb5
  have hall : ∀ x ∈ bs ++ (fixB M K ++ fixB M2 K), 0 ≤ x ∧ x < 256 := by
    intro x hx
    simp only [List.mem_append] at hx
    rcases hx with hx | hx | hx
    · exact by1 x hx
    · exact FB1 x hx
    · exact FB2 x hx
  have hbs5 : Bs w5 v5 (bs ++ (fixB M K ++ fixB M2 K)) := by have := hown5.bs; simpa using this
  have bw5 := bw2.trans (hb25.mono z2)
  have hB15 := hB1.below hb25
  have hB25 := hB2.below hb25
  go_wp2_with fail
  refine (takeFixed_any v5 _ bs.length K w5 hbs5 hall).mono ?_
  rintro e w6 ⟨rfl, rfl⟩
  rw [tkFix_fixB bs _ M K hK1 hK8 hM hMz]
  clear hall hbs5 hown1 hown2 hown3 hown4 hown5 hb3 hb4 hb5 hb23 hb24 hb25 ho hbs2 hb hB1 hB2 H1 H2 FB1 FB2 hb1 hb2 z2 z3 z4 bw2
  go_wp2_with fail
  refine (live_any w5).mono ?_
  rintro e w6 ⟨rfl, hb6⟩
  have s1 := run_str Try.bt (hB15.below hb6) 9 Try.underlying9
  have s2 := run_str Try.bt (hB25.below hb6) 9 Try.underlying9
  have bw6 := bw5.trans (hb6.mono bw5.size)
  clear hB15 hB25 hb6 bw5
  have hless := HLs.out
  by_cases hlt : (M : Int) < M2
  · rw [decide_eq_true hlt] at hless
    go_wp2
    go_ret
    exact ⟨by simp, bw6⟩
  · rw [decide_eq_false hlt] at hless
    go_wp2
    go_ret
    exact ⟨ret_bool (by simp; omega), bw6⟩
end Go.Proofs.Ythfikoghbnicoaa
