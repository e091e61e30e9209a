/- The document's New. -/
import Derived.Test.YtmcikhdfpmkpnaaR7
namespace Go.Proofs.Ytmcikhdfpmkpnaa
open Go.RowKit Go.Maps Go.Sort Go.Shelf

def RNew (w : World) (n : Nat) (e : Ending) (w' : World) : Prop := ∃ q, e = .returned (.tuple #[.pointer (some ⟨q, 0, none⟩), .int .i64 0]) ∧ Rf w' q w.heap.size (newD n) ∧ Below w.heap.size w w'

set_option maxHeartbeats 2000000 in
set_option maxRecDepth 100000 in
theorem rnew_any (n : Nat) (w : World) (h0 : 1 ≤ n) (h1 : n ≤ 4096) : Calls Try.prog 29 #[.int .i64 (n : Int)] w (RNew w n) := by
  have a1 : ¬ (n : Int) < 1 := by omega
  have a2 : ¬ (4096 : Int) < (n : Int) := by omega
  obtain ⟨q, Hq⟩ : ∃ q, Hid (q = w.heap.size) := ⟨_, ⟨rfl⟩⟩
  have hrow0 : (w.alloc (.cells #[.slice none 0 0, .int .i64 0, .bool false, .int .i64 0] 52)).heap[q]? = some (.cells #[.slice none 0 0, .int .i64 0, .bool false, .int .i64 0] 52 (0, 0)) := by rw [Hq.out]; exact heap_alloc_new w _
  have hb0 : Below w.heap.size w (w.alloc (.cells #[.slice none 0 0, .int .i64 0, .bool false, .int .i64 0] 52)) := (Below.refl _ w).alloc (Nat.le_refl _) _
  have hown0 : OwnP (w.alloc (.cells #[.slice none 0 0, .int .i64 0, .bool false, .int .i64 0] 52)) (q + 1) (.slice none 0 0) (List.replicate 0 (zp, none)) := World.ownsRow_nil _ _ _ _
  have hs0 : q + 1 ≤ (w.alloc (.cells #[.slice none 0 0, .int .i64 0, .bool false, .int .i64 0] 52)).heap.size := by rw [Hq.out]; simp
  have t1 := zeros_any 128 (w.alloc (.cells #[.slice none 0 0, .int .i64 0, .bool false, .int .i64 0] 52)) (by omega)
  obtain ⟨z, Hz⟩ : ∃ z, Hid (z = strOfNums zp) := ⟨_, ⟨rfl⟩⟩
  rw [show strOfNums (List.replicate 128 0) = z by rw [Hz.out]; rfl] at t1
  have HP0 : Hid ((w.alloc (.cells #[.slice none 0 0, .int .i64 0, .bool false, .int .i64 0] 52)).heap[q]? = some (.cells #[.slice none 0 0, .int .i64 0, .bool false, .int .i64 0] 52 (0, 0)) ∧ Below w.heap.size w (w.alloc (.cells #[.slice none 0 0, .int .i64 0, .bool false, .int .i64 0] 52)) ∧ OwnP (w.alloc (.cells #[.slice none 0 0, .int .i64 0, .bool false, .int .i64 0] 52)) (q + 1) (.slice none 0 0) (List.replicate 0 (zp, none)) ∧ q + 1 ≤ (w.alloc (.cells #[.slice none 0 0, .int .i64 0, .bool false, .int .i64 0] 52)).heap.size) := ⟨hrow0, hb0, hown0, hs0⟩
  clear hrow0 hb0 hown0 hs0
  go_enter Try.func29, Try.ntmps29
  go_wp2_with (go_at_call 50; refine t1.mono ?_; rintro e w1 ⟨rfl, hw1⟩; rw [hw1] at HP0; clear t1 hw1)
  rw [← Hq.out]
  go_loopg [6] n (fun gg s6 wr => ∃ (kk : Nat) (v : Value), kk ≤ n ∧ n - kk ≤ gg ∧ s6 = .int .i64 (kk : Int) ∧ Hid (wr.heap[q]? = some (.cells #[v, .int .i64 0, .bool false, .int .i64 0] 52 (0, 0)) ∧ Below w.heap.size w wr ∧ OwnP wr (q + 1) v (List.replicate kk (zp, none)) ∧ q + 1 ≤ wr.heap.size))
  case atStart => exact ⟨0, _, Nat.zero_le _, by omega, rfl, HP0⟩
  case round =>
    clear HP0
    obtain ⟨kk, v, hkk, hg, rfl, HP⟩ := hrel
    have d0 : wr.cell? ⟨q, 0, none⟩ = some v := by rw [cell_of_row _ _ _ _ _ _ HP.out.1]; rfl
    by_cases hlt : kk < n
    · have hltz : (kk : Int) < (n : Int) := by omega
      have hlen : (List.replicate kk ((zp, none) : Sec)).length ≤ 5000 := by simp; omega
      have hs := HP.out.2.2.2
      have hO := HP.out.2.2.1
      go_wp2_with (at_builtin; refine wp_app1Q (zp, none) rfl (.tmp 25) (.tmp 28) rfl Hz.out rfl rfl rfl rfl hO rfl hlen hs ?_; intro v' w2 hv' hb2; have e1 : w2.cell? ⟨q, 0, none⟩ = some v := (hb2.cell (p := ⟨q, 0, none⟩) (by simp)).trans d0; have hrw : w2.heap[q]? = some (.cells #[v, .int .i64 0, .bool false, .int .i64 0] 52 (0, 0)) := (hb2.block q (by omega)).trans HP.out.1; have f1 : w2.frozen? ⟨q, 0, none⟩ = false := frozen_of_row w2 q 0 _ 52 hrw; obtain ⟨aov, cpv, rfl, _⟩ := hv'.shape; have HE : Hid (w2.heap[q]? = some (.cells #[v, .int .i64 0, .bool false, .int .i64 0] 52 (0, 0)) ∧ OwnP w2 (q + 1) (.slice aov (List.replicate kk ((zp, none) : Sec) ++ [(zp, none)]).length cpv) (List.replicate kk (zp, none) ++ [(zp, none)]) ∧ Below (q + 1) wr w2) := ⟨hrw, hv', hb2⟩; clear hrw hv' hb2 d0 hO)
      generalize hLL : (List.replicate kk ((zp, none) : Sec) ++ [(zp, none)]).length = LL at HE
      go_roundg (n - (kk + 1))
      case measure => omega
      case rel =>
        obtain rfl : LL = kk + 1 := by rw [← hLL]; simp
        obtain ⟨hrw, ho, hb2⟩ := HE.out
        have hge := own_ge ho
        rw [show List.replicate kk ((zp, none) : Sec) ++ [(zp, none)] = List.replicate (kk + 1) (zp, none) by rw [List.replicate_succ']] at ho
        refine ⟨kk + 1, _, by omega, by omega, by go_num, ⟨heap_setCell_same w2 q 0 _ 52 _ hrw, ?_, owns_kept ho (fun g hg => heap_setCell_other _ _ _ _ (by have := hge g hg; show g ≠ q; omega)), by have := hb2.size; simp; omega⟩⟩
        exact (HP.out.2.1.trans (hb2.mono (by rw [Hq.out]; omega))).setCell (by show _ ≤ q; rw [Hq.out]; exact Nat.le_refl _) _
    · obtain rfl : kk = n := by omega
      go_wp2
      go_ret2
      obtain ⟨p1, p2, p3, p4⟩ := HP.out
      exact ⟨q, rfl, ⟨v, 0, by simpa [newD] using p1, OwnP.mono p3 (by rw [Hq.out]; omega), fun s hs => by simp only [newD] at hs; rw [(List.mem_replicate.1 hs).2]; exact ok_zp, by simpa [newD] using h1, fun _ => rfl, by omega, by rw [Hq.out]; exact Nat.le_refl _⟩, p2⟩
end Go.Proofs.Ytmcikhdfpmkpnaa
