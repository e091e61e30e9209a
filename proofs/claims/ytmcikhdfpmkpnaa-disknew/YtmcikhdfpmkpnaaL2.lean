/- DiskNew's walk. -/
import Derived.Test.YtmcikhdfpmkpnaaL1
namespace Go.Proofs.Ytmcikhdfpmkpnaa
open Go.RowKit Go.Maps Go.Sort Go.Shelf

set_option maxHeartbeats 2000000 in
theorem walk_diskNew (n : Int) (w : World) (_hn : (Lit.int .i64 n).wf = true) : Calls Try.prog 3 #[.int .i64 n] w fun e w' => e = .returned (.bool true) ∧ Below w.heap.size w w' := by
  by_cases hb : n < 1 ∨ 4096 < n
  · have t1 := newdisk_bad n w hb
    have t2 := live_any w
    by_cases h1 : n < 1
    · go_enter Try.func3, Try.ntmps3
      go_wp2_with (first
        | (go_at_call 9; refine t1.mono ?_; rintro e w1 ⟨rfl, rfl⟩; clear t1)
        | (go_at_call 10; refine t2.mono ?_; rintro e w2 ⟨rfl, hb2⟩; clear t2))
      go_ret
      exact ⟨rfl, hb2⟩
    · have h2 : 4096 < n := by omega
      go_enter Try.func3, Try.ntmps3
      go_wp2_with (first
        | (go_at_call 9; refine t1.mono ?_; rintro e w1 ⟨rfl, rfl⟩; clear t1)
        | (go_at_call 10; refine t2.mono ?_; rintro e w2 ⟨rfl, hb2⟩; clear t2))
      go_ret
      exact ⟨rfl, hb2⟩
  · obtain ⟨m, rfl⟩ : ∃ m : Nat, n = m := ⟨n.toNat, by omega⟩
    have h1 : ¬ (m : Int) < 1 := by omega
    have h2 : ¬ (4096 : Int) < (m : Int) := by omega
    have t1 := newdisk_any m w (by omega) (by omega)
    have e1 : (newD m).S.length = m := by simp [newD]
    have e4 : (dlI (newD m).S).length = 0 := by simp [newD, dlI, dl_new]
    clear hb
    go_enter Try.func3, Try.ntmps3
    go_wp2_with (first
      | (go_at_call 9; refine t1.mono ?_; rintro e w1 hN; obtain ⟨p, g, bm, rfl, hA1, hb1⟩ := hN; clear t1; have t2 := live_any w1)
      | (go_at_call 10; refine t2.mono ?_; rintro e w2 ⟨rfl, hb2⟩; clear t2; have hA2 := hA1.below hb2; have t3 := sectors_any hA2; rw [e1] at t3; have t4 := life_any hA2; have t5 := down_any hA2; have t6 := dirty_any hA2)
      | (go_at_call 11; refine t3.mono ?_; rintro e w3 ⟨rfl, rfl⟩; clear t3)
      | (go_at_call 12; refine t4.mono ?_; rintro e w4 ⟨rfl, rfl⟩; clear t4; rw [show (newD m).life = 0 from rfl])
      | (go_at_call 13; refine t5.mono ?_; rintro e w5 ⟨rfl, rfl⟩; clear t5; rw [show (newD m).down = false from rfl])
      | (go_at_call 14; refine t6.mono ?_; rintro e w6 ⟨v6, rfl, hv6, hb6⟩; clear t6; obtain ⟨ao6, cp6, rfl, _⟩ := hv6.shape; clear hv6; rw [e4]))
    go_ret
    exact ⟨rfl, (hb1.trans (hb2.mono hb1.size)).trans (hb6.mono (Nat.le_trans hb1.size hb2.size))⟩
end Go.Proofs.Ytmcikhdfpmkpnaa
