/- The walk of OctetNums. -/
import Derived.Test.YthfikoghbnicoaaW7
namespace Go.Proofs.Ythfikoghbnicoaa
open Go.RowKit

/-- What both Nums tell: bytes and error. -/
theorem num_any (n : Int) (w : World) :
    ∃ (bs : List Int) (r : Int), (Calls Try.prog 9 #[.int .i64 n] w fun e w' => ∃ v, e = .returned (.tuple #[v, .int .i64 r]) ∧ OwnB w' w.heap.size 5 v bs ∧ Below w.heap.size w w') ∧
      (∀ w, Calls Try.prog 10 #[.int .i64 n] w fun e w' => ∃ v, e = .returned (.tuple #[v, .int .i64 r]) ∧ OwnB w' w.heap.size 5 v bs ∧ Below w.heap.size w w') := by
  by_cases h : n < 0 ∨ 9007199254740991 < n
  · refine ⟨[], 6, (num_bad n w h).mono ?_, fun w => (rnum_bad n w h).mono ?_⟩
    all_goals
      rintro e w' ⟨rfl, rfl⟩
      exact ⟨_, rfl, OwnB.nil _ _ _, Below.refl _ _⟩
  · obtain ⟨k, rfl⟩ := Int.eq_ofNat_of_zero_le (show 0 ≤ n by omega)
    exact ⟨numB k, 0, num_good k w (by omega), fun w => rnum_good k w (by omega)⟩

set_option maxHeartbeats 1000000 in
set_option maxRecDepth 1000000 in
theorem walk_octetNums (n : Int) (v : Value) (bs : List Int) (i : Int) (w : World) (_w0 : (Lit.int .i64 n).wf = true) (hb : Bs w v bs) (by1 : ∀ x ∈ bs, 0 ≤ x ∧ x < 256) (_l1 : bs.length ≤ 140737488351232) (_w2 : (Lit.int .i64 i).wf = true) :
    Calls Try.prog 3 #[.int .i64 n, v, .int .i64 i] w fun e w' => e = .returned (.bool true) ∧ Below w.heap.size w w' := by
  obtain ⟨ns, r, h1, h2⟩ := num_any n w
  have H1 : Hid _ := h1
  have H2 : Hid _ := h2
  clear h1 h2
  go_enter Try.func3, Try.ntmps3
  go_wp2_with fail
  refine Calls.mono H1.out ?_
  rintro e w1 ⟨v1, rfl, hown1, hb1⟩
  go_wp2_with fail
  refine Calls.mono (H2.out w1) ?_
  rintro e w2 ⟨v2, rfl, hown2, hb2⟩
  have bw2 : Below w.heap.size w w2 := hb1.trans (hb2.mono hb1.size)
  go_wp2_with fail
  refine (takeNum_any v bs i w2 (hb.below bw2) by1).mono ?_
  rintro e w3 ⟨rfl, rfl⟩
  go_wp2_with fail
  refine (rtakeNum_any v bs i w2 (hb.below bw2) by1).mono ?_
  rintro e w3 ⟨rfl, rfl⟩
  generalize tkNum bs i = T
  go_wp2_with fail
  refine (live_any w2).mono ?_
  rintro e w3 ⟨rfl, hb3⟩
  have s1 := run_str Try.bt (hown1.bs.below (hb2.trans (hb3.mono hb2.size))) 9 Try.underlying9
  have s2 := run_str Try.bt (hown2.bs.below hb3) 9 Try.underlying9
  have bw3 : Below w.heap.size w w3 := bw2.trans (hb3.mono bw2.size)
  clear H1 H2 hown1 hown2 hb1 hb2 hb3 hb bw2
  go_wp2
  go_ret
  exact ⟨by simp, bw3⟩
end Go.Proofs.Ythfikoghbnicoaa
