/- Package gear's All. -/
import Derived.Test.YtngeefipeghjiaaK4
import Derived.Deep.CutRange
namespace Go.Proofs.Ytngeefipeghjiaa
open Go.RowKit

/-- A text's chunks. -/
def allL (E : List Int → Bool) (ps : List Int) : List (List Int) := more (feed E [] ps).1 (feed E [] ps).2
theorem info24 : (Try.prog.info? 24).map (·.size) = some 3 := by kernel_rfl
section
variable {w : World} {mn av mx : Int}
set_option maxHeartbeats 1000000 in
set_option maxRecDepth 100000 in
theorem all_bad (h : ¬ okC mn av mx) (ta : Array Value) (hta : ta.size = 256) (pv : Value) : Calls Try.prog 15 #[.agg #[.int .i64 mn, .int .i64 av, .int .i64 mx], .agg ta, pv] w fun e w' => e = .returned (.tuple #[.slice none 0 0, .int .i64 2]) ∧ Below w.heap.size w w' := by
  obtain ⟨w1, HW1⟩ : ∃ w1, Hid ((w.alloc (.cells #[.int .i64 mn, .int .i64 av, .int .i64 mx] 24)).alloc (.cells ta 27) = w1) := ⟨_, ⟨rfl⟩⟩
  have Hb : Hid (Below w.heap.size w w1) := ⟨by rw [← HW1.out]; exact ((Below.refl _ w).alloc (Nat.le_refl _) _).alloc (by simp) _⟩
  have hx : w1.heap[w.heap.size]? = some (.cells #[.int .i64 mn, .int .i64 av, .int .i64 mx] 24 (0, 0)) := by
    rw [← HW1.out, Below.heap_alloc _ _ _ (by simp)]; exact heap_alloc_new w _
  have hx1 : w1.heap[w.heap.size + 1]? = some (.cells ta 27 (0, 0)) := by
    rw [← HW1.out]
    have := heap_alloc_new (w.alloc (.cells #[.int .i64 mn, .int .i64 av, .int .i64 mx] 24)) (.cells ta 27)
    rw [show (w.alloc (.cells #[.int .i64 mn, .int .i64 av, .int .i64 mx] 24)).heap.size = w.heap.size + 1 by simp] at this
    exact this
  have c0 : w1.cell? ⟨w.heap.size, 0, none⟩ = some (.int .i64 mn) := by rw [cell_of_row _ _ _ _ _ _ hx]; rfl
  have c1 : w1.cell? ⟨w.heap.size, 1, none⟩ = some (.int .i64 av) := by rw [cell_of_row _ _ _ _ _ _ hx]; rfl
  have c2 : w1.cell? ⟨w.heap.size, 2, none⟩ = some (.int .i64 mx) := by rw [cell_of_row _ _ _ _ _ _ hx]; rfl
  have hpl : (Try.prog.info? 27).map (·.size) = some ta.size := by rw [hta]; exact info27
  have t := new_bad h ta w1
  go_enter Try.func15, Try.ntmps15
  go_upto_region 1 with (refine wpl_box27 rfl (.tmp 1) ta rfl rfl ?_)
  rw [HW1.out]
  go_wp2_with (first | (refine wpList_load_row rfl 27 (.tmp 4) rfl (w.heap.size + 1) rfl 27 ta (0, 0) _ hx1 Try.underlying27 rfl hpl ?_) | (go_at_call 18; refine t.mono ?_; rintro e w' ⟨rfl, hw⟩))
  go_ret2
  exact ⟨rfl, Hb.out.trans (hw.mono Hb.out.size)⟩
set_option maxHeartbeats 1000000 in
set_option maxRecDepth 100000 in
theorem all_any (h : okC mn av mx) (ta : Array Value) (T : Nat → Int) (hT : Tab ta T) (pv : Value) (ps : List Int) (hp : Bs w pv ps) (hps : ps.length ≤ 1000000000000) : Calls Try.prog 15 #[.agg #[.int .i64 mn, .int .i64 av, .int .i64 mx], .agg ta, pv] w fun e w' => ∃ rv, e = .returned (.tuple #[rv, .int .i64 0]) ∧ OwnR w' (fun k => w.heap.size ≤ k) 0 rv (allL (endB mn av mx T) ps) ∧ (∀ k ∈ ob rv, w.heap.size ≤ k) ∧ Below w.heap.size w w' := by
  obtain ⟨w1, HW1⟩ : ∃ w1, Hid ((w.alloc (.cells #[.int .i64 mn, .int .i64 av, .int .i64 mx] 24)).alloc (.cells ta 27) = w1) := ⟨_, ⟨rfl⟩⟩
  have Hb : Hid (Below w.heap.size w w1) := ⟨by rw [← HW1.out]; exact ((Below.refl _ w).alloc (Nat.le_refl _) _).alloc (by simp) _⟩
  have hx : w1.heap[w.heap.size]? = some (.cells #[.int .i64 mn, .int .i64 av, .int .i64 mx] 24 (0, 0)) := by
    rw [← HW1.out, Below.heap_alloc _ _ _ (by simp)]; exact heap_alloc_new w _
  have hx1 : w1.heap[w.heap.size + 1]? = some (.cells ta 27 (0, 0)) := by
    rw [← HW1.out]
    have := heap_alloc_new (w.alloc (.cells #[.int .i64 mn, .int .i64 av, .int .i64 mx] 24)) (.cells ta 27)
    rw [show (w.alloc (.cells #[.int .i64 mn, .int .i64 av, .int .i64 mx] 24)).heap.size = w.heap.size + 1 by simp] at this
    exact this
  have c0 : w1.cell? ⟨w.heap.size, 0, none⟩ = some (.int .i64 mn) := by rw [cell_of_row _ _ _ _ _ _ hx]; rfl
  have c1 : w1.cell? ⟨w.heap.size, 1, none⟩ = some (.int .i64 av) := by rw [cell_of_row _ _ _ _ _ _ hx]; rfl
  have c2 : w1.cell? ⟨w.heap.size, 2, none⟩ = some (.int .i64 mx) := by rw [cell_of_row _ _ _ _ _ _ hx]; rfl
  have hpl : (Try.prog.info? 27).map (·.size) = some ta.size := by rw [hT.1]; exact info27
  have t := new_any h ta T hT w1
  have HP : Hid (Bs w1 pv ps) := ⟨hp.below Hb.out⟩
  have Hok : Hid (okC mn av mx) := ⟨h⟩
  clear hx hp h hT
  go_enter Try.func15, Try.ntmps15
  go_upto_region 1 with (refine wpl_box27 rfl (.tmp 1) ta rfl rfl ?_)
  rw [HW1.out]
  go_wp2_with (first | (refine wpList_load_row rfl 27 (.tmp 4) rfl (w.heap.size + 1) rfl 27 ta (0, 0) _ hx1 Try.underlying27 rfl hpl ?_) |  (go_at_call 18; refine t.mono ?_; rintro e w2 ⟨p, cs, rfl, hp1, hC, hw⟩))
  have HP2 : Hid (Bs w2 pv ps) := ⟨HP.out.below hw⟩
  have HC : Hid (CutAt w2 p 0 mn mx (4294967296 / av) T cs (.slice none 0 0) [] 0 false) := ⟨hC⟩
  have hps2 : ∀ k, pv.ownBlock = some k → 0 < ps.length → k < w1.heap.size := fun k hk hpos => by
    rcases HP.out.cases with ⟨e, _⟩ | ⟨_, b, off, cap, rfl, _, _, hb, _⟩
    · rw [e] at hpos; simp at hpos
    · simp [Value.ownBlock] at hk; omega
  have t2 := write_any (l := []) HC.out Hok.out.2.2.1 (by simp) (fun y hy => by cases hy) pv ps HP2.out (fun hpos k hk hm => by
    have := hps2 k hk hpos
    simp [ob, Value.ownBlock] at hm
    omega) hps
  obtain ⟨R, HR⟩ : ∃ R, Hid (feed (endL mn mx (4294967296 / av) T) [] ps = R) := ⟨_, ⟨rfl⟩⟩
  have HA : Hid (allL (endB mn av mx T) ps = more R.1 R.2) := ⟨by unfold allL; rw [← HR.out]; rfl⟩
  have hRl : R.1.length ≤ 1000000000000 := by have := feed_len (endL mn mx (4294967296 / av) T) ps []; rw [HR.out] at this; omega
  have hRy : Byt R.2 := by have := byt_feed (E := endL mn mx (4294967296 / av) T) ps (l := []) (fun y hy => by cases hy) (by obtain ⟨_, _, _, _, _, _, _, hy⟩ := HP2.out; exact hy); rw [HR.out] at this; exact this
  rw [HR.out] at t2
  have Hw1 : Hid (w.heap.size ≤ w1.heap.size ∧ w.heap.size ≤ p ∧ w.heap.size ≤ w2.heap.size ∧ Below w.heap.size w w2) := ⟨Hb.out.size, Nat.le_trans Hb.out.size hp1, Nat.le_trans Hb.out.size hw.size, Hb.out.trans (hw.mono Hb.out.size)⟩
  clear hC t c0 c1 c2 hx1 hw hp1
  refine t2.mono ?_
  rintro e w3 ⟨rv, cs3, v3, rfl, hO, hOB, hC3, hG3, hV3⟩
  have t3 := end_any hC3
  have HO : Hid (OwnR w3 (Ck (.slice none 0 0) w2.heap.size v3) 0 rv R.1) := ⟨hO⟩
  have HC3 : Hid (CutAt w3 p 0 mn mx (4294967296 / av) T cs3 v3 R.2 (hsh T R.2) false) := ⟨hC3⟩
  obtain ⟨ar, cr, rfl, hmr⟩ : ∃ ar cr, rv = .slice ar R.1.length cr ∧ True := by
    obtain ⟨vs, h1, h2⟩ := hO
    obtain ⟨a, c, e, _⟩ := own_rd h1
    exact ⟨a, c, by rw [e, h2.1], trivial⟩
  obtain ⟨a3, c3, rfl, hm3⟩ := OwnB.mine hC3.own
  have hg3 : Below w.heap.size w2 w3 := hG3.below Hw1.out.2.2.1 (fun x hx => by
    simp [ob, Value.ownBlock] at hx
    subst hx
    exact Hw1.out.2.1)
  clear hO hC3 hG3 t2 hmr hm3
  go_wp2_with (go_at_call 22; refine t3.mono ?_; rintro e w4 ⟨cs4, rfl, hC4, hB4, hG4⟩)
  have hS4 : OwnR w4 (fun k => w.heap.size ≤ k) 0 (.slice ar R.1.length cr) R.1 := by
    refine (HO.out.mono (S' := fun k => w.heap.size ≤ k) (fun k _ hk => ?_)).far hG4 (fun k hk _ hm => ?_) (fun k hk _ hm => ?_)
    · rcases hk.1 with q | q
      · simp [ob, Value.ownBlock] at q
      · have := Hw1.out.2.2.1; omega
    · simp at hm; subst hm; exact (Ty.ne hk HC3.out.ty (by decide)) rfl
    · simp at hm; subst hm; exact (Ty.ne hk HC3.out.ty (by decide)) rfl
  have hB5 : Bo w4 (fun k => w.heap.size ≤ k) (.slice a3 R.2.length c3) R.2 := OwnB.bo hB4 hRy (fun k hk => by
    rcases hV3 k (mem_ob.2 hk) with q | q
    · simp [ob, Value.ownBlock] at q
    · have := Hw1.out.2.2.1; omega)
  have t4 := grown_any hS4 hB5 hRl
  have Hw4 : Hid (Below w.heap.size w w4) := ⟨(Hw1.out.2.2.2.trans hg3).trans (hG4.below (Nat.le_trans Hw1.out.2.2.1 hg3.size) (fun x hx => by simp at hx; subst hx; exact Hw1.out.2.1))⟩
  clear hC4 hB4 hG4 hS4 hB5 t3
  refine t4.mono ?_
  rintro e w5 ⟨rv5, rfl, hO5, hG5, hV5⟩
  have HO5 : Hid (OwnR w5 (fun k => w.heap.size ≤ k) 0 rv5 (more R.1 R.2)) := ⟨hO5⟩
  obtain ⟨a5, c5, n5, rfl⟩ : ∃ a c n, rv5 = .slice a n c := by
    obtain ⟨vs, h1, h2⟩ := hO5
    obtain ⟨a, c, e, _⟩ := own_rd h1
    exact ⟨a, c, _, e⟩
  clear hO5
  go_wp2
  go_ret2
  refine ⟨_, rfl, by rw [HA.out]; exact HO5.out, fun k hk => ?_, Hw4.out.trans (hG5.below Hw4.out.size (by simp))⟩
  rcases hV5 k hk with q | q
  · have := hOB k q
    have := Hw1.out.2.2.1
    omega
  · have := Hw4.out.size
    omega
end
end Go.Proofs.Ytngeefipeghjiaa
