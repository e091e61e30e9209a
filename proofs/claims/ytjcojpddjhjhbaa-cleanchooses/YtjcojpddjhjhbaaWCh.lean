/- The law CleanChooses. -/
import Derived.Test.YtjcojpddjhjhbaaD4
import Derived.Test.YtjcojpddjhjhbaaC17
import Derived.Test.YtjcojpddjhjhbaaIntsS
namespace Go.Proofs.Ytjcojpddjhjhbaa
open Go.RowKit Go.Lib

section
variable {w : World}
set_option maxHeartbeats 8000000 in
set_option maxRecDepth 100000 in
theorem rchoose_no (v : Value) (L : List Sh) (h : RdE sh3 3 s0 w v L) (p most : Int) (hbad : p < 0 ∨ 100 < p ∨ most < 0) :
    Calls Try.prog 14 #[v, .int .i64 p, .int .i64 most] w fun e w' => e = .returned (.tuple #[.slice none 0 0, .int .i64 2]) ∧ Below w.heap.size w w' := by
  obtain ⟨a, c, rfl, h1, h2, h3⟩ := h.shape
  clear h
  by_cases p0 : p < 0
  · go_enter Try.func14, Try.ntmps14
    go_wp2_with fail
    go_ret2
    exact ⟨rfl, Below.refl _ _⟩
  · by_cases p1 : 100 < p
    · go_enter Try.func14, Try.ntmps14
      go_wp2_with fail
      go_ret2
      exact ⟨rfl, Below.refl _ _⟩
    · have p2 : most < 0 := by omega
      go_enter Try.func14, Try.ntmps14
      go_wp2_with fail
      go_ret2
      exact ⟨rfl, Below.refl _ _⟩
/-- Both choose alike. -/
theorem choose_both (v : Value) (L : List Sh) (h : RdE sh3 3 s0 w v L) (hL : L.length ≤ 5864062014700) (p most : Int) :
    ∃ R : List Int, ∃ n : Int, R.length ≤ 5864062014700 ∧ (Calls Try.prog 13 #[v, .int .i64 p, .int .i64 most] w fun e w' => ∃ x, e = .returned (.tuple #[x, .int .i64 n]) ∧ RdI w' x R ∧ Below w.heap.size w w') ∧
      ∀ W, Below w.heap.size w W → Calls Try.prog 14 #[v, .int .i64 p, .int .i64 most] W fun e w' => ∃ x, e = .returned (.tuple #[x, .int .i64 n]) ∧ RdI w' x R ∧ Below W.heap.size W w' := by
  have hnil : ∀ W : World, RdI W (.slice none 0 0) [] := fun W => (owni_nil W 0).rd
  have hfar : ∀ W, Below w.heap.size w W → RdE sh3 3 s0 W v L := fun W hb => h.far (Chg.ofBelow (X := []) hb) (by simp)
  by_cases hb : p < 0 ∨ 100 < p ∨ most < 0
  · refine ⟨[], 2, by simp, (choose_no v L h hL p most (by omega)).mono ?_, fun W hW => (rchoose_no v L (hfar W hW) p most hb).mono ?_⟩
    · rintro e w' ⟨rfl, hb'⟩
      exact ⟨_, rfl, hnil _, hb'⟩
    · rintro e w' ⟨rfl, hb'⟩
      exact ⟨_, rfl, hnil _, hb'⟩
  · by_cases hw : L.any shw = true
    · refine ⟨[], 2, by simp, (choose_no v L h hL p most (.inr (.inr (.inr hw)))).mono ?_, fun W hW => (rchoose14 v L (hfar W hW) hL p most (by omega) (by omega)).mono ?_⟩
      · rintro e w' ⟨rfl, hb'⟩
        exact ⟨_, rfl, hnil _, hb'⟩
      · rintro e w' ⟨x, n, rfl, hb', ⟨_, rfl, rfl⟩ | ⟨hr, _⟩⟩
        · exact ⟨_, rfl, hnil _, hb'⟩
        · obtain ⟨s, hs, hsw⟩ := List.any_eq_true.1 hw
          have := (shw_rt s).2 (hr s hs)
          rw [this] at hsw
          cases hsw
    · have hr : AllRt L := fun s hs => (shw_rt s).1 (by
        rw [← Bool.not_eq_true]
        intro h1
        exact hw (List.any_eq_true.2 ⟨s, hs, h1⟩))
      have hrF : ∀ S : List Sh, S.Perm (L.filter (low p)) → AllRt S := fun S hS s hs => hr s (List.mem_filter.1 (hS.mem_iff.1 hs)).1
      obtain ⟨T, hT1, hT2⟩ := ord_ex (T := L.filter (low p)) (fun s hs => hr s (List.mem_filter.1 hs).1)
      have hone : ∀ S, S.Perm (L.filter (low p)) → Ord S → (S.map (·.1)).take most.toNat = (T.map (·.1)).take most.toNat := fun S h1 h2 => by
        rw [sorted_one (hrF S h1) (h1.trans hT1.symm) h2 hT2]
      refine ⟨(T.map (·.1)).take most.toNat, 0, ?_, (choose_yes v L h hL p most (by omega) (by omega) hr).mono ?_, fun W hW => (rchoose14 v L (hfar W hW) hL p most (by omega) (by omega)).mono ?_⟩
      · rw [List.length_take, List.length_map, hT1.length_eq]
        have := List.length_filter_le (low p) L
        omega
      · rintro e w' ⟨x, rfl, S, h1, h2, h3, h4⟩
        rw [hone S h1 h2] at h3
        exact ⟨x, rfl, h3, h4⟩
      · rintro e w' ⟨x, n, rfl, hb', ⟨ha, _⟩ | ⟨_, rfl, S, h1, h2, h3⟩⟩
        · exact absurd (show L.any shw = true from ha) hw
        · rw [hone S h1 h2] at h3
          exact ⟨x, rfl, h3, hb'⟩
set_option maxHeartbeats 8000000 in
set_option maxRecDepth 100000 in
theorem cleanChooses_any (v : Value) (L : List Sh) (p most : Int) (h : RdE sh3 3 s0 w v L) (hL : L.length ≤ 5864062014700) : Calls Try.prog 4 #[v, .int .i64 p, .int .i64 most] w fun e w' => e = .returned (.bool true) ∧ Below w.heap.size w w' := by
  obtain ⟨R, n, hRl, t1, T2⟩ := choose_both v L h hL p most
  have HT2 := Hid.mk T2
  obtain ⟨a, c, rfl, _⟩ := h.shape
  clear h T2
  go_enter Try.func4, Try.ntmps4
  go_wp2_with fail
  refine t1.mono ?_
  rintro e w1 ⟨x1, rfl, hR1, hB1⟩
  have HR1 := Hid.mk hR1
  have HB1 := Hid.mk hB1
  have t2 := HT2.out w1 hB1
  obtain ⟨a1, c1, e1, _⟩ := hR1.shape
  subst e1
  clear t1 hR1 hB1
  go_wp2_with fail
  refine t2.mono ?_
  rintro e w2 ⟨x2, rfl, hR2, hB2⟩
  have HR2 := Hid.mk hR2
  have HR1' : Hid (RdI w2 (.slice a1 R.length c1) R) := ⟨HR1.out.far (Chg.ofBelow (X := []) hB2) (by simp)⟩
  have HB2 : Hid (Below w.heap.size w w2) := ⟨HB1.out.trans (hB2.mono HB1.out.size)⟩
  obtain ⟨a2, c2, e2, _⟩ := hR2.shape
  subst e2
  clear t2 hR2 hB2 HR1
  go_wp2_with fail
  refine (live_any (w := w2)).mono ?_
  rintro e w3 ⟨rfl, hB3⟩
  have HB3 : Hid (Below w.heap.size w w3) := ⟨HB2.out.trans (hB3.mono HB2.out.size)⟩
  have t4 := ints_same (w := w3) _ _ R (HR1'.out.far (Chg.ofBelow (X := []) hB3) (by simp)) (HR2.out.far (Chg.ofBelow (X := []) hB3) (by simp)) (by omega)
  clear hB3 HR1' HR2
  go_wp2_with fail
  refine t4.mono ?_
  rintro e w4 ⟨rfl, hB4⟩
  have HB4 : Hid (Below w.heap.size w w4) := ⟨HB3.out.trans (hB4.mono HB3.out.size)⟩
  clear t4 hB4
  go_wp2_with fail
  go_ret
  exact ⟨rfl, HB4.out⟩
end
end Go.Proofs.Ytjcojpddjhjhbaa
