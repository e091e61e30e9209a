/- The law's live. -/
import Derived.Test.YtcmibcmndiplbabX13
import Derived.Laws.StructEq
namespace Go.Proofs.Ytcmibcmndiplbab
open Go.RowKit Go.Lib Go.Shelf

theorem Own2.shape1 {w : World} {base : Nat} {e : TypeId} {v : Value} {x : Int × Int} (h : Own2 w base e v [x]) : ∃ g cap, v = .slice (some ⟨g, 0, none⟩) 1 cap ∧ w.cell? ⟨g, 0, none⟩ = some (.int .i64 x.1) ∧ w.cell? ⟨g, 1, none⟩ = some (.int .i64 x.2) := by
  rcases h.2 with ⟨_, h'⟩ | ⟨g, cap, cur, rfl, hb, hh, h1, h2, h3, h4⟩
  · simp at h'
  · refine ⟨g, cap, rfl, ?_⟩
    have e1 : ∀ i, i < 2 → w.cell? ⟨g, i, none⟩ = (flat2 [x])[i]? := by
      intro i hi
      have e2 : (cur.toList.take (1 * 2))[i]? = (flat2 [x])[i]? := by rw [← h4]; rfl
      rw [List.getElem?_take, if_pos hi] at e2
      simp [World.cell?, hh] at e2 ⊢
      exact e2
    exact ⟨e1 0 (by decide), e1 1 (by decide)⟩

theorem eq43 (x y : Int × Int) (w : World) : (binOp .eql 43 (sp x) (sp y)).run Try.prog w = .ok (.bool (x.1 == y.1 && x.2 == y.2)) w := by
  have u3 := Try.underlying3
  have a3 := Try.isAgg3
  have z3 := Try.sizeOf3
  have hS : Try.prog.underlying 43 = some (.struct (Try.prog.fieldsOf 43)) := by kernel_rfl
  have hp : Try.prog.stoodInHeld 43 = false := by kernel_rfl
  simp only [sp]
  rw [run_eql_struct, show (10000 : Nat) = 9999 + 1 from rfl, run_equalIn_agg w 9999 43 _ _ hS hp]
  simp only [Program.fieldsOf, Try.underlying43]
  go_simp
  by_cases h1 : x.fst = y.fst <;> by_cases h2 : x.snd = y.snd <;> simp [h1, h2]

set_option maxHeartbeats 2000000 in
theorem live_any (w : World) : Calls Try.prog 9 #[] w fun e w' => e = .returned (.bool true) ∧ Below w.heap.size w w' := by
  go_enter Try.func9, Try.ntmps9
  go_wp2_with (go_at_call 8; refine (new_n 2 6 w (by decide) (by decide) (by decide)).mono ?_; rintro e w1 ⟨p, b, rfl, hM1, hb1⟩)
  refine (take_1 2 6 2 6 2 p b w.heap.size w1 hM1 hb1.size (by decide) (by decide) (by decide) (by decide)).mono ?_
  rintro e w2 ⟨rfl, hM2, hb2⟩
  have hb12 := hb1.trans hb2
  clear hM1 hb1 hb2
  go_wp2_with fail
  refine (claim_1 2 6 4 5 1 p b w.heap.size w2 hM2 hb12.size (by decide) (by decide) (by decide) (by decide) (by decide) (by decide)).mono ?_
  rintro e w3 ⟨rfl, hM3, hb3⟩
  have hb13 := hb12.trans hb3
  clear hM2 hb12 hb3
  go_wp2_with fail
  refine (take_none hM3 2 (by decide) (idx_none _ _ (fun j hj => by
    obtain rfl : j = 0 := by simp at hj; omega
    have e : wrap64 (((5 : Int)) - 4) = 5 - 4 := IntWalk.wrap64_in _ ⟨by decide, by decide⟩
    show decide (2 ≤ wrap64 ((5 : Int) - 4)) = false
    rw [e]
    rfl))).mono ?_
  rintro e w4 ⟨rfl, hb4⟩
  have hb14 := hb13.trans (hb4.mono hb13.size)
  have hM4 := hM3.below hb4
  clear hM3 hb13 hb4
  go_wp2_with fail
  refine (runs_any hM4 (by intro x hx; simp at hx; subst hx; decide)).mono ?_
  rintro e w5 ⟨v, rfl, hv, hb5⟩
  have hb15 := hb14.trans (hb5.mono hb14.size)
  obtain ⟨g, cap, rfl, g0, g1⟩ := Own2.shape1 hv
  have e0 : w5.cell? ⟨g, 0, none⟩ = some (.int .i64 4) := g0
  have e1 : w5.cell? ⟨g, 1, none⟩ = some (.int .i64 1) := g1
  have he := eq43 (4, 1) (4, 1) w5
  simp only [sp] at he
  clear hM4 hb14 hb5 hv g0 g1
  go_wp2
  go_ret
  exact ⟨rfl, hb15⟩
end Go.Proofs.Ytcmibcmndiplbab
