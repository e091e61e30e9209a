/- The walk of CodeWords. -/
import Derived.Test.YtfecngncapenjaaR3
import Derived.Test.YtfecngncapenjaaV3
import Derived.BigQuiet
namespace Go.Proofs.Ytfecngncapenjaa
open Go.RowKit Oct

section
variable {w : World}
set_option maxHeartbeats 16000000 in
set_option maxRecDepth 100000 in
theorem words_core (f : List Int) (hf : f.length = 256) : Calls Try.prog 4 #[.agg (ia f)] w fun e w' => e = .returned (.bool true) ∧ Below w.heap.size w w' := by
  have HF := Hid.mk hf
  obtain ⟨q, Hq⟩ : ∃ q, Hid (w.heap.size = q) := ⟨_, ⟨rfl⟩⟩
  obtain ⟨w1, Hw1, HX1, HB1, HS1⟩ := bx22 w f
  rw [Hq.out] at HX1 HS1
  have t12 := words12 (w := w1) f hf
  have t13 := fun W : World => rwords13 (w := W) f hf
  have HWl : Hid ((wsE f).length = 256) := ⟨wsE_len f⟩
  have HNo : Hid (∀ i k, i < 256 → k < 256 → i ≠ k → 0 < ((wsE f).getD i ByteArray.empty).size → ((wsE f).getD i ByteArray.empty).size ≤ ((wsE f).getD k ByteArray.empty).size → ((wsE f).getD k ByteArray.empty).extract 0 ((wsE f).getD i ByteArray.empty).size ≠ (wsE f).getD i ByteArray.empty) := ⟨fun i k hi hk hik h0 hle => wsE_no hf hi hk hik h0 hle⟩
  rw [show (if hr f then ws f else e0) = wsE f from rfl] at t13
  obtain ⟨L, HL⟩ : ∃ L, Hid (wsE f = L) := ⟨_, ⟨rfl⟩⟩
  obtain ⟨E, HE⟩ : ∃ E : Int, Hid ((if hr f then 0 else 2) = E) := ⟨_, ⟨rfl⟩⟩
  rw [HL.out] at t12 t13 HWl HNo
  rw [HE.out] at t12 t13
  obtain ⟨A, HA⟩ : ∃ A, Hid (ia f = A) := ⟨_, ⟨rfl⟩⟩
  have HI : Hid ((Try.prog.info? 22).map (·.size) = some A.size) := ⟨by rw [← HA.out]; exact info22f hf⟩
  rw [HA.out] at Hw1 HX1 t12 t13
  rw [HA.out]
  have T13 := Hid.mk t13
  clear hf t13
  go_enter Try.func4, Try.ntmps4
  go_upto_region 1 with (refine wp_box rfl 22 (.tmp 0) rfl A rfl ?_; rw [Hw1.out])
  rw [Hq.out]
  go_wp2_with (refine wp_load rfl 22 (.tmp 1) rfl q rfl A 22 (0, 0) _ HX1.out Try.underlying22 rfl HI.out ?_)
  refine t12.mono ?_
  rintro e w2 ⟨rfl, hB2⟩
  have HX2 := Hid.mk (below_at hB2 HX1.out)
  have HB2 : Hid (Below w.heap.size w w2) := ⟨HB1.out.trans (hB2.mono HB1.out.size)⟩
  obtain ⟨r, Hr⟩ : ∃ q, Hid (w2.heap.size = q) := ⟨_, ⟨rfl⟩⟩
  obtain ⟨w3, Hw3, HZ3, HB3⟩ := al28 w2 L
  rw [Hr.out] at Hw3 HZ3
  have HX3 := Hid.mk (below_at HB3.out HX2.out)
  have HB3' : Hid (Below w.heap.size w w3) := ⟨HB2.out.trans (HB3.out.mono HB2.out.size)⟩
  clear t12 hB2
  go_upto_region 2 with (first | (refine wp_new28 rfl rfl ?_; rw [Hr.out]) | (refine wp_put28 (f := e0) (g := L) rfl (.tmp 3) (.tmp 12) rfl rfl rfl e0_len HWl.out (by rw [← Hr.out]; exact heap_alloc_new w2 _) ?_; rw [Hw3.out]))
  go_wp2_with (refine wp_load rfl 22 (.tmp 1) rfl q rfl A 22 (0, 0) _ HX3.out Try.underlying22 rfl HI.out ?_)
  refine (T13.out w3).mono ?_
  rintro e w4 ⟨rfl, hB4⟩
  have HZ4 := Hid.mk (below_at hB4 HZ3.out)
  have HB4 : Hid (Below w.heap.size w w4) := ⟨HB3'.out.trans (hB4.mono HB3'.out.size)⟩
  obtain ⟨s, Hs⟩ : ∃ q, Hid (w4.heap.size = q) := ⟨_, ⟨rfl⟩⟩
  obtain ⟨w5, Hw5, HY5, HB5⟩ := al28 w4 L
  rw [Hs.out] at Hw5 HY5
  have HZ5 := Hid.mk (below_at HB5.out HZ4.out)
  have HB5' : Hid (Below w.heap.size w w5) := ⟨HB4.out.trans (HB5.out.mono HB4.out.size)⟩
  clear hB4
  go_upto_region 3 with (first | (refine wp_new28 rfl rfl ?_; rw [Hs.out]) | (refine wp_put28 (f := e0) (g := L) rfl (.tmp 5) (.tmp 17) rfl rfl rfl e0_len HWl.out (by rw [← Hs.out]; exact heap_alloc_new w4 _) ?_; rw [Hw5.out]))
  have heq := eq28 w5 HWl.out HWl.out 9998
  rw [decide_eq_true rfl] at heq
  have hee : (E != E) = false := by simp
  have HLi : Hid ((Try.prog.info? 28).map (·.size) = some (sa L).size) := ⟨info28f HWl.out⟩
  obtain ⟨S, HS⟩ : ∃ S, Hid (sa L = S) := ⟨_, ⟨rfl⟩⟩
  rw [HS.out] at heq HZ5 HY5 HLi ⊢
  go_upto_region 6 with (first | (refine wp_load rfl 28 (.tmp 3) rfl r rfl S 28 (0, 0) _ HZ5.out Try.underlying28 rfl HLi.out ?_) | (refine wp_load rfl 28 (.tmp 5) rfl s rfl S 28 (0, 0) _ HY5.out Try.underlying28 rfl HLi.out ?_))
  clear heq hee
  go_loopg [7, 8] 256 (fun gg s7 _s8 wr => ∃ i : Nat, i ≤ 256 ∧ 256 - i ≤ gg ∧ s7 = .int .i64 (i : Int) ∧ Hid (Below w.heap.size w wr) ∧ Hid (wr.heap[r]? = some (.cells S 28 (0, 0))))
  case atStart => exact ⟨0, Nat.zero_le _, by omega, rfl, HB5', HZ5⟩
  case round =>
    clear HB5' HZ5
    obtain ⟨i, hi, hgg, rfl, HB, HZ⟩ := hrel
    rename World => wo
    by_cases hlt : i < 256
    · have hltz : (i : Int) < 256 := by omega
      go_upto_region 9 with fail
      go_loopg [8] 256 (fun gg2 s8 wr => ∃ k : Nat, k ≤ 256 ∧ 256 - k ≤ gg2 ∧ s8 = .int .i64 (k : Int) ∧ Hid (Below w.heap.size w wr) ∧ Hid (wr.heap[r]? = some (.cells S 28 (0, 0))))
      case atStart => exact ⟨0, Nat.zero_le _, by omega, rfl, HB, HZ⟩
      case round =>
        clear HB HZ
        obtain ⟨k, hk, hgg2, rfl, HB, HZ⟩ := hrel
        rename World => wk
        by_cases hkt : k < 256
        · have hktz : (k : Int) < 256 := by omega
          have d1 : wk.cell? ⟨r, i, none⟩ = some (.string (L.getD i ByteArray.empty)) := by rw [cell_of_row _ _ _ _ _ _ HZ.out, ← HS.out]; exact sa_get (by rw [HWl.out]; exact hlt)
          have d2 : wk.cell? ⟨r, k, none⟩ = some (.string (L.getD k ByteArray.empty)) := by rw [cell_of_row _ _ _ _ _ _ HZ.out, ← HS.out]; exact sa_get (by rw [HWl.out]; exact hkt)
          have hno := HNo.out i k hlt hkt
          generalize L.getD i ByteArray.empty = X at d1 hno
          generalize L.getD k ByteArray.empty = Y at d2 hno
          by_cases hik : i = k
          · have hb : ((i : Int) != (k : Int)) = false := by simp; omega
            clear hno hik
            go_upto_region 11 with fail
            go_quiet (fail)
            go_wp2_with fail
            go_roundg (256 - (k + 1))
            case measure => omega
            case rel => exact ⟨k + 1, by omega, by omega, by go_num, ⟨below_drewN HB.out nq⟩, HZ⟩
          · have hb : ((i : Int) != (k : Int)) = true := by simp; omega
            by_cases h0 : 0 < X.size
            · have h0z : (0 : Int) < (X.size : Int) := by omega
              by_cases hle : X.size ≤ Y.size
              · have hlez : (X.size : Int) ≤ (Y.size : Int) := by omega
                have hne := hno hik h0 hle
                have hn1 : ((Y.extract 0 X.size).toList == X.toList) = false := by rw [toList_beq]; exact decide_eq_false hne
                have hn2 : (Y.extract 0 X.size == X) = false := by rw [beq_toListBytes]; exact hn1
                clear hno hik
                go_upto_region 11 with fail
                go_quiet (fail)
                go_wp2_with fail
                go_roundg (256 - (k + 1))
                case measure => omega
                case rel => exact ⟨k + 1, by omega, by omega, by go_num, ⟨below_drewN HB.out nq⟩, HZ⟩
              · have hlez : ¬ (X.size : Int) ≤ (Y.size : Int) := by omega
                clear hno hik
                go_upto_region 11 with fail
                go_quiet (fail)
                go_wp2_with fail
                go_roundg (256 - (k + 1))
                case measure => omega
                case rel => exact ⟨k + 1, by omega, by omega, by go_num, ⟨below_drewN HB.out nq⟩, HZ⟩
            · have h0z : ¬ (0 : Int) < (X.size : Int) := by omega
              clear hno hik
              go_upto_region 11 with fail
              go_quiet (fail)
              go_wp2_with fail
              go_roundg (256 - (k + 1))
              case measure => omega
              case rel => exact ⟨k + 1, by omega, by omega, by go_num, ⟨below_drewN HB.out nq⟩, HZ⟩
        · obtain rfl : k = 256 := by omega
          go_wp2_with fail
          go_roundg (256 - (i + 1))
          case measure => omega
          case rel => exact ⟨i + 1, by omega, by omega, by go_num, HB, HZ⟩
    · obtain rfl : i = 256 := by omega
      have tl := live11 (w := wo)
      go_wp2_with fail
      refine tl.mono ?_
      rintro e wl ⟨rfl, hBl⟩
      have HBl : Hid (Below w.heap.size w wl) := ⟨HB.out.trans (hBl.mono HB.out.size)⟩
      clear hBl tl
      go_wp2_with fail
      go_ret
      exact ⟨rfl, HBl.out⟩
end
theorem walk_codeWords (v0 : Value) (b0 : List Int) (W : World) (h0 : v0 = .agg (ia b0) ∧ b0.length = 256) : Calls Try.prog 4 #[v0] W fun e w' => e = .returned (.bool true) ∧ Below W.heap.size W w' := by
  obtain ⟨rfl, hf⟩ := h0
  exact words_core b0 hf
end Go.Proofs.Ytfecngncapenjaa
