/- The document's Hash. -/
import Derived.Test.YtngeefipeghjiaaK5
namespace Go.Proofs.Ytngeefipeghjiaa
open Go.RowKit

section
variable {w : World}
set_option maxHeartbeats 1000000 in
set_option maxRecDepth 100000 in
theorem hash_any (ta : Array Value) (T : Nat → Int) (hT : Tab ta T) (pv : Value) (ps : List Int) (hp : Bs w pv ps) (hps : ps.length ≤ 1000000000000) : Calls Try.prog 32 #[.agg ta, pv] w fun e w' => e = .returned (.int .u32 (hsh T ps)) ∧ Below w.heap.size w w' := by
  obtain ⟨w1, HW1⟩ : ∃ w1, Hid (w.alloc (.cells ta 27) = w1) := ⟨_, ⟨rfl⟩⟩
  have Hb : Hid (Below w.heap.size w w1) := ⟨by rw [← HW1.out]; exact (Below.refl _ w).alloc (Nat.le_refl _) _⟩
  have Hx : Hid (w1.heap[w.heap.size]? = some (.cells ta 27 (0, 0))) := ⟨by rw [← HW1.out]; exact heap_alloc_new w _⟩
  have HP : Hid (Bs w1 pv ps) := ⟨hp.below Hb.out⟩
  obtain ⟨ao, cap, rfl, hpl, hpm, hpn, hpc, hpy⟩ := hp
  have HY : Hid (Byt ps) := ⟨hpy⟩
  have HT : Hid (Tab ta T) := ⟨hT⟩
  obtain ⟨N, HN⟩ : ∃ N, Hid (ps.length = N) := ⟨_, ⟨rfl⟩⟩
  rw [HN.out] at hps
  clear hpc hpy hT hpl hpn
  go_enter Try.func32, Try.ntmps32
  rw [HN.out]
  go_wp2_with (refine wpl_box27 rfl (.tmp 0) ta rfl rfl ?_)
  rw [HW1.out]
  go_loopg [5, 6] N (fun gg s5 s6 wr => ∃ kk : Nat, kk ≤ N ∧ N - kk ≤ gg ∧ s6 = .int .i64 (kk : Int) ∧ s5 = .int .u32 (hsh T (ps.take kk)) ∧ w1 = wr)
  case atStart => exact ⟨0, Nat.zero_le _, by omega, rfl, rfl, rfl⟩
  case round =>
    obtain ⟨kk, hkk, hgg, rfl, rfl, rfl⟩ := hrel
    by_cases hlt : kk < N
    · have hltz : (kk : Int) < (N : Int) := by omega
      have hlt' : kk < ps.length := by rw [HN.out]; exact hlt
      rcases HP.out.cases with ⟨e0, _⟩ | ⟨_, b, off, cap2, e1, _, _, _, hcell⟩
      · rw [e0] at hlt'; simp at hlt'
      · simp at e1
        obtain ⟨rfl, rfl⟩ := e1
        obtain ⟨k, hk, hkx⟩ := byte_nat HY.out hlt'
        have hc := hcell kk hlt'
        rw [hkx] at hc
        have hkz : (k : Int) < 256 := by omega
        have ht : w1.cell? ⟨w.heap.size, k, none⟩ = some (.int .u32 (T k)) := (cell_of_row w1 _ k ta 27 _ Hx.out).trans (HT.out.2 k hk)
        have HS : Hid (hsh T (ps.take (kk + 1)) = (2 * hsh T (ps.take kk) + T k) % 4294967296) := ⟨by rw [take_snoc' ps hlt', hkx, hsh_snoc, Int.toNat_natCast]⟩
        have hr := hsh_rng T (ps.take kk)
        generalize hsh T (ps.take kk) = h0 at HS hr ⊢
        clear hcell
        go_wp2
        go_roundg (N - (kk + 1))
        case measure => omega
        case rel => exact ⟨kk + 1, by omega, by omega, by go_num, by rw [HS.out]; congr 1; omega, rfl⟩
    · obtain rfl : kk = N := by omega
      have Hf : Hid (ps.take kk = ps) := ⟨List.take_of_length_le (by rw [HN.out]; exact Nat.le_refl _)⟩
      go_wp2
      go_ret
      exact ⟨by show Ending.returned (.int .u32 (hsh T (ps.take kk))) = _; rw [Hf.out], Hb.out⟩
end
end Go.Proofs.Ytngeefipeghjiaa
