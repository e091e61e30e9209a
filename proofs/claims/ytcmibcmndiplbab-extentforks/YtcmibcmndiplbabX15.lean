/- The law ExtentNew, walked. -/
import Derived.Test.YtcmibcmndiplbabX14
namespace Go.Proofs.Ytcmibcmndiplbab
open Go.RowKit Go.Lib Go.Shelf

set_option maxHeartbeats 2000000 in
theorem walk_bad (f t : Int) (w : World) (h : f < 0 ∨ t < f ∨ 4096 < t) : Calls Try.prog 3 #[.int .i64 f, .int .i64 t] w fun e w' => e = .returned (.bool true) ∧ Below w.heap.size w w' := by
  have hnew := new_bad f t w h
  go_enter Try.func3, Try.ntmps3
  by_cases h1 : f < 0
  · go_wp2_with (first | (go_at_call 8; refine hnew.mono ?_; rintro e w1 ⟨rfl, rfl⟩; clear hnew) | (go_at_call 9; refine (live_any _).mono ?_; rintro e w2 ⟨rfl, hb2⟩))
    go_ret
    exact ⟨rfl, hb2⟩
  · by_cases h2 : t < f
    · go_wp2_with (first | (go_at_call 8; refine hnew.mono ?_; rintro e w1 ⟨rfl, rfl⟩; clear hnew) | (go_at_call 9; refine (live_any _).mono ?_; rintro e w2 ⟨rfl, hb2⟩))
      go_ret
      exact ⟨rfl, hb2⟩
    · have h3 : 4096 < t := by omega
      go_wp2_with (first | (go_at_call 8; refine hnew.mono ?_; rintro e w1 ⟨rfl, rfl⟩; clear hnew) | (go_at_call 9; refine (live_any _).mono ?_; rintro e w2 ⟨rfl, hb2⟩))
      go_ret
      exact ⟨rfl, hb2⟩

theorem new_any (f t : Int) (w : World) (h0 : 0 ≤ f) (h1 : f ≤ t) (h2 : t ≤ 4096) : Calls Try.prog 8 #[.int .i64 f, .int .i64 t] w fun e w' => ∃ p b l, e = .returned (.tuple #[.pointer (some ⟨p, 0, none⟩), .int .i64 0]) ∧ MapAt w' p f t w.heap.size b 1 l ∧ Fine l ∧ sumI (l.map siz) = t - f ∧ maxI (l.map siz) = t - f ∧ Below w.heap.size w w' := by
  rcases Int.lt_or_eq_of_le h1 with h | h
  · refine (new_n f t w h0 h h2).mono ?_
    rintro e w' ⟨p, b, rfl, hM, hb⟩
    refine ⟨p, b, _, rfl, hM, ?_, ?_, ?_, hb⟩
    · intro x hx; simp at hx; subst hx; exact ⟨h0, h1, h2⟩
    · simp [sumI, siz]
    · simp [maxI, siz]; omega
  · subst h
    refine (new_e f w h0 h2).mono ?_
    rintro e w' ⟨p, b, rfl, hM, hb⟩
    refine ⟨p, b, _, rfl, hM, ?_, ?_, ?_, hb⟩
    · intro x hx; simp at hx
    · simp [sumI]
    · simp [maxI]

set_option maxHeartbeats 2000000 in
theorem walk_good (f t : Int) (w : World) (h0 : 0 ≤ f) (h1 : f ≤ t) (h2 : t ≤ 4096) : Calls Try.prog 3 #[.int .i64 f, .int .i64 t] w fun e w' => e = .returned (.bool true) ∧ Below w.heap.size w w' := by
  have n1 : ¬ f < 0 := by omega
  have n2 : ¬ t < f := by omega
  have n3 : ¬ 4096 < t := by omega
  have hw : wrap64 (t - f) = t - f := IntWalk.wrap64_in _ ⟨by omega, by omega⟩
  go_enter Try.func3, Try.ntmps3
  go_wp2_with (first
    | (go_at_call 8; refine (new_any f t w h0 h1 h2).mono ?_; rintro e w1 ⟨p, b, l, rfl, hM, hF, hs, hm, hb1⟩)
    | (go_at_call 9; refine (live_any _).mono ?_; rintro e w2 ⟨rfl, hb2⟩; have hM2 := hM.below hb2; have hb12 := hb1.trans (hb2.mono hb1.size); clear hM hb1 hb2)
    | (go_at_call 10; refine (free_any hM2 hF).mono ?_; rw [hs]; rintro e w3 ⟨rfl, hb3⟩; have hM3 := hM2.below hb3; have hb13 := hb12.trans (hb3.mono hb12.size); clear hM2 hb12 hb3)
    | (go_at_call 11; refine (most_any hM3 hF).mono ?_; rw [hm]; rintro e w4 ⟨rfl, hb4⟩; have hb14 := hb13.trans (hb4.mono hb13.size); clear hM3 hb13 hb4))
  go_ret
  exact ⟨rfl, hb14⟩

theorem walk_extentNew (f t : Int) (w : World) (_ : (Lit.int .i64 f).wf = true) (_ : (Lit.int .i64 t).wf = true) : Calls Try.prog 3 #[.int .i64 f, .int .i64 t] w fun e w' => e = .returned (.bool true) ∧ Below w.heap.size w w' := by
  by_cases h : f < 0 ∨ t < f ∨ 4096 < t
  · exact walk_bad f t w h
  · exact walk_good f t w (by omega) (by omega) (by omega)
end Go.Proofs.Ytcmibcmndiplbab
