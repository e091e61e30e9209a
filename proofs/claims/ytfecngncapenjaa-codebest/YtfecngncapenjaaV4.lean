/- The document's Cost. -/
import Derived.Test.YtfecngncapenjaaGc
import Derived.BigQuiet
namespace Go.Proofs.Ytfecngncapenjaa
open Go.RowKit Oct

section
variable {w : World}
set_option maxHeartbeats 4000000 in
set_option maxRecDepth 100000 in
theorem rcost15 (f g : List Int) (hf : f.length = 256) (hg : g.length = 256) : Calls Try.prog 15 #[.agg (ia f), .agg (ia g)] w fun e w' => e = .returned (.int .i64 (cst f g 256)) ∧ Below w.heap.size w w' := by
  obtain ⟨q, Hq⟩ : ∃ q, Hid (w.heap.size = q) := ⟨_, ⟨rfl⟩⟩
  obtain ⟨w1, Hw1⟩ : ∃ x, Hid (w.alloc (.cells (ia f) 22) = x) := ⟨_, ⟨rfl⟩⟩
  have HB1 : Hid (Below w.heap.size w w1) := ⟨by rw [← Hw1.out]; exact (Below.refl _ w).alloc (Nat.le_refl _) _⟩
  have HX1 : Hid (w1.heap[q]? = some (.cells (ia f) 22 (0, 0))) := ⟨by rw [← Hw1.out, ← Hq.out]; exact heap_alloc_new w _⟩
  have HS1 : Hid (w1.heap.size = q + 1) := ⟨by rw [← Hw1.out, ← Hq.out]; exact Array.size_push _⟩
  obtain ⟨w2, Hw2⟩ : ∃ x, Hid (w1.alloc (.cells (ia g) 22) = x) := ⟨_, ⟨rfl⟩⟩
  have HB2 : Hid (Below w.heap.size w w2) := ⟨by rw [← Hw2.out]; exact HB1.out.alloc HB1.out.size _⟩
  have HX2 : Hid (w2.heap[q]? = some (.cells (ia f) 22 (0, 0))) := ⟨by rw [← Hw2.out]; rw [heap_alloc_old (h := by rw [HS1.out]; omega)]; exact HX1.out⟩
  have HY2 : Hid (w2.heap[q + 1]? = some (.cells (ia g) 22 (0, 0))) := ⟨by rw [← Hw2.out, ← HS1.out]; exact heap_alloc_new w1 _⟩
  have HF := Hid.mk hf
  have HG := Hid.mk hg
  obtain ⟨A, HA⟩ : ∃ A, Hid (ia f = A) := ⟨_, ⟨rfl⟩⟩
  obtain ⟨B, HBb⟩ : ∃ B, Hid (ia g = B) := ⟨_, ⟨rfl⟩⟩
  rw [HA.out] at Hw1
  rw [HBb.out] at Hw2
  rw [HA.out, HBb.out]
  clear hf hg
  go_enter Try.func15, Try.ntmps15
  go_upto_region 3 with (first | (refine wp_box rfl 22 (.tmp 0) rfl A rfl ?_; rw [Hw1.out]) | (refine wp_box rfl 22 (.tmp 1) rfl B rfl ?_; rw [Hw2.out]))
  rw [HS1.out, Hq.out]
  go_loopg [5, 6] 256 (fun gg s5 s6 wr => ∃ k : Nat, k ≤ 256 ∧ 256 - k ≤ gg ∧ s6 = .int .i64 (k : Int) ∧ s5 = .int .i64 (cst f g k) ∧ Hid (Below w.heap.size w wr) ∧ Hid (wr.heap[q]? = some (.cells (ia f) 22 (0, 0))) ∧ Hid (wr.heap[q + 1]? = some (.cells (ia g) 22 (0, 0))))
  case atStart => exact ⟨0, Nat.zero_le _, by omega, rfl, rfl, HB2, HX2, HY2⟩
  case round =>
    obtain ⟨k, hk, hgg, rfl, rfl, HB, HX, HY⟩ := hrel
    rename World => wo
    by_cases hlt : k < 256
    · have hltz : (k : Int) < 256 := by omega
      have hb0 := cst_le f g k
      have hb1 := cst_le f g (k + 1)
      have HN : Hid (cst f g (k + 1) = cst f g k + ct (f.getD k 0) (g.getD k 0)) := ⟨rfl⟩
      rw [HN.out] at hb1
      obtain ⟨c, Hc⟩ : ∃ c, Hid (cst f g k = c) := ⟨_, ⟨rfl⟩⟩
      rw [Hc.out] at HN hb0 hb1 ⊢
      have d1 : wo.cell? ⟨q, k, none⟩ = some (.int .i64 (f.getD k 0)) := by rw [cell_of_row _ _ _ _ _ _ HX.out]; exact ia_get (by rw [HF.out]; exact hlt)
      have d2 : wo.cell? ⟨q + 1, k, none⟩ = some (.int .i64 (g.getD k 0)) := by rw [cell_of_row _ _ _ _ _ _ HY.out]; exact ia_get (by rw [HG.out]; exact hlt)
      generalize f.getD k 0 = x at d1 HN hb1
      generalize g.getD k 0 = y at d2 HN hb1
      by_cases h1 : 0 ≤ x
      · by_cases h2 : x ≤ 8192
        · by_cases h3 : 0 ≤ y
          · by_cases h4 : y ≤ 255
            · have hct : ct x y = x * y := by unfold ct; rw [if_pos ⟨by omega, h3, h4⟩]
              rw [hct] at HN hb1
              have hm1 : IntKind.i64.wrap (x * y) = x * y := IntWalk.i64_in _ ⟨by omega, by omega⟩
              have hm2 : IntKind.i64.wrap (c + x * y) = c + x * y := IntWalk.i64_in _ ⟨by omega, by omega⟩
              clear hct
              go_upto_region 6 with fail
              go_quiet (fail)
              go_wp2_with fail
              go_roundg (256 - (k + 1))
              case measure => omega
              case rel => exact ⟨k + 1, by omega, by omega, by go_num, by rw [HN.out], ⟨below_drewN HB.out nq⟩, HX, HY⟩
            · have hct : ct x y = 0 := by unfold ct; rw [if_neg (fun h => h4 h.2.2)]
              go_wp2_with fail
              go_roundg (256 - (k + 1))
              case measure => omega
              case rel => exact ⟨k + 1, by omega, by omega, by go_num, by rw [HN.out, hct, Int.add_zero], HB, HX, HY⟩
          · have hct : ct x y = 0 := by unfold ct; rw [if_neg (fun h => h3 h.2.1)]
            go_wp2_with fail
            go_roundg (256 - (k + 1))
            case measure => omega
            case rel => exact ⟨k + 1, by omega, by omega, by go_num, by rw [HN.out, hct, Int.add_zero], HB, HX, HY⟩
        · have hct : ct x y = 0 := by unfold ct; rw [if_neg (fun h => h.1 (by omega))]
          go_wp2_with fail
          go_roundg (256 - (k + 1))
          case measure => omega
          case rel => exact ⟨k + 1, by omega, by omega, by go_num, by rw [HN.out, hct, Int.add_zero], HB, HX, HY⟩
      · have hct : ct x y = 0 := by unfold ct; rw [if_neg (fun h => h.1 (by omega))]
        go_wp2_with fail
        go_roundg (256 - (k + 1))
        case measure => omega
        case rel => exact ⟨k + 1, by omega, by omega, by go_num, by rw [HN.out, hct, Int.add_zero], HB, HX, HY⟩
    · obtain rfl : k = 256 := by omega
      go_wp2_with fail
      go_ret
      exact ⟨rfl, HB.out⟩
end
end Go.Proofs.Ytfecngncapenjaa
