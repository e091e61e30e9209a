/- The document's All. -/
import Derived.Test.YtngeefipeghjiaaR4
namespace Go.Proofs.Ytngeefipeghjiaa
open Go.RowKit

theorem feed_total (E : List Int → Bool) (ps : List Int) : (feed E [] ps).1.length ≤ ps.length := feed_len E ps []
section
variable {w : World} {mn av mx : Int}
set_option maxHeartbeats 1000000 in
set_option maxRecDepth 100000 in
theorem rall_bad (h : ¬ okC mn av mx) (ta : Array Value) (pv : Value) : Calls Try.prog 16 #[.agg #[.int .i64 mn, .int .i64 av, .int .i64 mx], .agg ta, pv] w fun e w' => e = .returned (.tuple #[.slice none 0 0, .int .i64 2]) ∧ Below w.heap.size w w' := by
  obtain ⟨w1, HW1⟩ : ∃ w1, Hid ((w.alloc (.cells #[.int .i64 mn, .int .i64 av, .int .i64 mx] 24)).alloc (.cells ta 27) = w1) := ⟨_, ⟨rfl⟩⟩
  have Hb : Hid (Below w.heap.size w w1) := ⟨by rw [← HW1.out]; exact ((Below.refl _ w).alloc (Nat.le_refl _) _).alloc (by simp) _⟩
  have hx : w1.heap[w.heap.size]? = some (.cells #[.int .i64 mn, .int .i64 av, .int .i64 mx] 24 (0, 0)) := by
    rw [← HW1.out, Below.heap_alloc _ _ _ (by simp)]; exact heap_alloc_new w _
  have c0 : w1.cell? ⟨w.heap.size, 0, none⟩ = some (.int .i64 mn) := by rw [cell_of_row _ _ _ _ _ _ hx]; rfl
  have c1 : w1.cell? ⟨w.heap.size, 1, none⟩ = some (.int .i64 av) := by rw [cell_of_row _ _ _ _ _ _ hx]; rfl
  have c2 : w1.cell? ⟨w.heap.size, 2, none⟩ = some (.int .i64 mx) := by rw [cell_of_row _ _ _ _ _ _ hx]; rfl
  have t := rcheck_any mn av mx w1
  rw [chk_no h] at t
  clear hx
  go_enter Try.func16, Try.ntmps16
  go_upto_region 1 with (refine wpl_box27 rfl (.tmp 1) ta rfl rfl ?_)
  rw [HW1.out]
  go_wp2_with (go_at_call 13; refine t.mono ?_; rintro e w' ⟨rfl, hw⟩)
  go_ret2
  exact ⟨rfl, Hb.out.trans (hw.mono Hb.out.size)⟩
set_option maxHeartbeats 1000000 in
set_option maxRecDepth 100000 in
theorem rall_any (h : okC mn av mx) (ta : Array Value) (T : Nat → Int) (hT : Tab ta T) (pv : Value) (ps : List Int) (hp : Bs w pv ps) (hps : ps.length ≤ 1000000000000) : Calls Try.prog 16 #[.agg #[.int .i64 mn, .int .i64 av, .int .i64 mx], .agg ta, pv] w fun e w' => ∃ rv, e = .returned (.tuple #[rv, .int .i64 0]) ∧ OwnR w' (fun k => w.heap.size ≤ k) 0 rv (allL (endB mn av mx T) ps) ∧ (∀ k ∈ ob rv, w.heap.size ≤ k) ∧ Below w.heap.size w w' := by
  obtain ⟨w1, HW1⟩ : ∃ w1, Hid ((w.alloc (.cells #[.int .i64 mn, .int .i64 av, .int .i64 mx] 24)).alloc (.cells ta 27) = w1) := ⟨_, ⟨rfl⟩⟩
  have Hb : Hid (Below w.heap.size w w1) := ⟨by rw [← HW1.out]; exact ((Below.refl _ w).alloc (Nat.le_refl _) _).alloc (by simp) _⟩
  have hx : w1.heap[w.heap.size]? = some (.cells #[.int .i64 mn, .int .i64 av, .int .i64 mx] 24 (0, 0)) := by
    rw [← HW1.out, Below.heap_alloc _ _ _ (by simp)]; exact heap_alloc_new w _
  have hx1 : w1.heap[w.heap.size + 1]? = some (.cells ta 27 (0, 0)) := by
    rw [← HW1.out]
    have := heap_alloc_new (w.alloc (.cells #[.int .i64 mn, .int .i64 av, .int .i64 mx] 24)) (.cells ta 27)
    rw [show (w.alloc (.cells #[.int .i64 mn, .int .i64 av, .int .i64 mx] 24)).heap.size = w.heap.size + 1 by simp] at this
    exact this
  have hsz : w1.heap.size = w.heap.size + 2 := by rw [← HW1.out]; simp
  have HX : Hid (w1.heap[w.heap.size]? = some (.cells #[.int .i64 mn, .int .i64 av, .int .i64 mx] 24 (0, 0)) ∧ w1.heap[w.heap.size + 1]? = some (.cells ta 27 (0, 0)) ∧ w1.heap.size = w.heap.size + 2) := ⟨hx, hx1, hsz⟩
  have hpl : (Try.prog.info? 27).map (·.size) = some ta.size := by rw [hT.1]; exact info27
  have t := rcheck_any mn av mx w1
  rw [chk_ok h] at t
  have HP : Hid (Bs w1 pv ps) := ⟨hp.below Hb.out⟩
  have Hok : Hid (okC mn av mx) := ⟨h⟩
  have HT : Hid (Tab ta T) := ⟨hT⟩
  clear hp h hT hx1 hsz
  go_enter Try.func16, Try.ntmps16
  go_upto_region 1 with (refine wpl_box27 rfl (.tmp 1) ta rfl rfl ?_)
  rw [HW1.out]
  go_upto_region 4 with (first | (refine wpList_load_row rfl 24 (.tmp 3) rfl w.heap.size rfl 24 #[.int .i64 mn, .int .i64 av, .int .i64 mx] (0, 0) _ hx Try.underlying24 rfl info24 ?_) | (go_at_call 13; refine t.mono ?_; rintro e w2 ⟨rfl, hw⟩))
  have hy := (hw.block w.heap.size (by rw [HX.out.2.2]; omega)).trans HX.out.1
  have hy1 := (hw.block (w.heap.size + 1) (by rw [HX.out.2.2]; omega)).trans HX.out.2.1
  have t2 := split_any Hok.out ta T HT.out pv ps (HP.out.below hw) hps
  obtain ⟨R, HR⟩ : ∃ R, Hid (feed (endB mn av mx T) [] ps = R) := ⟨_, ⟨rfl⟩⟩
  have HA : Hid (allL (endB mn av mx T) ps = more R.1 R.2) := ⟨by unfold allL; rw [← HR.out]⟩
  have hRl : R.1.length ≤ 1000000000000 := by have := feed_total (endB mn av mx T) ps; rw [HR.out] at this; omega
  rw [HR.out] at t2
  have Hw : Hid (Below w.heap.size w w2) := ⟨Hb.out.trans (hw.mono Hb.out.size)⟩
  clear hw hx t
  go_upto_region 5 with (first | (refine wpList_load_row rfl 24 (.tmp 3) rfl w.heap.size rfl 24 #[.int .i64 mn, .int .i64 av, .int .i64 mx] (0, 0) _ hy Try.underlying24 rfl info24 ?_) | (refine wpList_load_row rfl 27 (.tmp 4) rfl (w.heap.size + 1) rfl 27 ta (0, 0) _ hy1 Try.underlying27 rfl hpl ?_) | (go_at_call 20; refine t2.mono ?_; rintro e w3 ⟨ov, rv, rfl, hO, hOB, hR, hb3⟩; obtain ⟨ar, cr, rfl, _⟩ := hR.bs; obtain ⟨ao, co, rfl, _⟩ := hO.rows.shape))
  have HO : Hid (OwnR w3 (fun k => w.heap.size ≤ k) 0 (.slice ao R.1.length co) R.1) := ⟨hO.mono (fun k _ hk => Nat.le_trans Hw.out.size hk)⟩
  have HRr : Hid (Bo w3 (fun k => w.heap.size ≤ k) (.slice ar R.2.length cr) R.2) := ⟨hR.mono (fun k _ hk => Nat.le_trans Hw.out.size hk)⟩
  have Hw3 : Hid (Below w.heap.size w w3 ∧ ∀ k ∈ ob (.slice ao R.1.length co), w.heap.size ≤ k) := ⟨Hw.out.trans (hb3.mono Hw.out.size), fun k hk => Nat.le_trans Hw.out.size (hOB k hk)⟩
  clear hO hR hb3 hOB hy hy1 t2
  by_cases hz : R.2.length = 0
  · have HM : Hid (more R.1 R.2 = R.1) := ⟨if_pos hz⟩
    go_wp2
    go_ret2
    exact ⟨_, rfl, by rw [HA.out, HM.out]; exact HO.out, Hw3.out.2, Hw3.out.1⟩
  · have HM : Hid (more R.1 R.2 = R.1 ++ [R.2]) := ⟨if_neg hz⟩
    have hzz : (0 : Int) < (R.2.length : Int) := by omega
    go_wp2_with (at_builtin; refine wp_appR1 rfl (.tmp 26) (.tmp 28) rfl rfl HO.out HRr.out rfl hRl (Nat.zero_le _) ?_; intro o4 w4 hO4 hG4 hV4; replace hG4 : Chg (ob (.slice ao R.1.length co)) w3 w4 := hG4; replace hV4 : o4.ownBlock = Value.ownBlock (.slice ao R.1.length co) ∨ o4.ownBlock = some (w3.heap.size + 1) := hV4)
    go_ret2
    refine ⟨o4, rfl, by rw [HA.out, HM.out]; exact hO4, fun k hk => ?_, Hw3.out.1.trans (hG4.below Hw3.out.1.size Hw3.out.2)⟩
    rcases hV4 with q | q
    · exact Hw3.out.2 k (mem_ob.2 (by rw [← q]; exact mem_ob.1 hk))
    · have := mem_ob.1 hk
      rw [q] at this
      cases this
      have := Hw3.out.1.size
      omega
end
end Go.Proofs.Ytngeefipeghjiaa
