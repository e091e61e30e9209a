/- Words, as the program tells them. -/
import Derived.Test.YtfecngncapenjaaC11
namespace Go.Proofs.Ytfecngncapenjaa
open Go.RowKit Oct Hf

theorem below_at {w w' : World} {b : Nat} {o : Obj} (h : Below w.heap.size w w') (hb : w.heap[b]? = some o) : w'.heap[b]? = some o := (h.block b (Array.getElem?_eq_some_iff.1 hb).1).trans hb
section
variable {w : World}
set_option maxHeartbeats 8000000 in
set_option maxRecDepth 100000 in
theorem words12_no (f : List Int) (hf : f.length = 256) (hr0 : hr f = false) : Calls Try.prog 12 #[.agg (ia f)] w fun e w' => e = .returned (.tuple #[.agg (sa e0), .int .i64 2]) ∧ Below w.heap.size w w' := by
  obtain ⟨q, Hq⟩ : ∃ q, Hid (w.heap.size = q) := ⟨_, ⟨rfl⟩⟩
  obtain ⟨w1, Hw1⟩ : ∃ x, Hid (w.alloc (.cells (ia f) 22) = x) := ⟨_, ⟨rfl⟩⟩
  have HB1 : Hid (Below w.heap.size w w1) := ⟨by rw [← Hw1.out]; exact (Below.refl _ w).alloc (Nat.le_refl _) _⟩
  have HX1 : Hid (w1.heap[q]? = some (.cells (ia f) 22 (0, 0))) := ⟨by rw [← Hw1.out, ← Hq.out]; exact heap_alloc_new w _⟩
  have HS1 : Hid (w1.heap.size = q + 1) := ⟨by rw [← Hw1.out, ← Hq.out]; exact Array.size_push _⟩
  obtain ⟨w2, Hw2⟩ : ∃ x, Hid (w1.alloc (.cells (sa e0) 28) = x) := ⟨_, ⟨rfl⟩⟩
  have HB2 : Hid (Below w.heap.size w w2) := ⟨by rw [← Hw2.out]; exact HB1.out.alloc HB1.out.size _⟩
  have HX2 : Hid (w2.heap[q]? = some (.cells (ia f) 22 (0, 0))) := ⟨by rw [← Hw2.out]; rw [heap_alloc_old (h := by rw [HS1.out]; omega)]; exact HX1.out⟩
  have HY2 : Hid (w2.heap[q + 1]? = some (.cells (sa e0) 28 (0, 0))) := ⟨by rw [← Hw2.out, ← HS1.out]; exact heap_alloc_new w1 _⟩
  have HF := Hid.mk hf
  have t1 := room28 (w := w2) f hf
  rw [hr0] at t1
  obtain ⟨A, HA⟩ : ∃ A, Hid (ia f = A) := ⟨_, ⟨rfl⟩⟩
  have HI : Hid ((Try.prog.info? 22).map (·.size) = some A.size) := ⟨by rw [← HA.out]; exact info22f hf⟩
  rw [HA.out] at Hw1 HX2 t1
  rw [HA.out]
  clear hf hr0
  go_enter Try.func12, Try.ntmps12
  go_upto_region 2 with (first | (refine wp_box rfl 22 (.tmp 0) rfl A rfl ?_; rw [Hw1.out]) | (refine wp_new28 rfl rfl ?_; rw [Hw2.out]) | (refine wp_load rfl 22 (.tmp 1) rfl q (by rw [← Hq.out]; rfl) A 22 (0, 0) _ HX2.out Try.underlying22 rfl HI.out ?_) | (go_at_call 28; refine t1.mono ?_; rintro e w3 ⟨rfl, hb3⟩; have HB3 := Hid.mk hb3; clear hb3 t1))
  have HY3 : Hid (w3.heap[q + 1]? = some (.cells (sa e0) 28 (0, 0))) := ⟨below_at HB3.out HY2.out⟩
  rw [HS1.out]
  go_wp2_with (first | (refine wp_zero28 rfl rfl ?_) | (refine wp_put28 (f := e0) (g := e0) rfl (.tmp 2) (.tmp 12) rfl rfl rfl e0_len e0_len HY3.out ?_))
  (try simp only [Exit.inBlock, Exit.then])
  refine bodyPost_ret (results_ct rfl _ _ rfl (load28 e0_len (setRow_heap w3 (q + 1) (sa e0) _ 28 (0, 0) HY3.out))) rfl ?_
  exact ⟨rfl, below_setRow (HB2.out.trans (HB3.out.mono HB2.out.size)) (by rw [Hq.out]; exact Nat.le_succ q) _⟩
theorem hr_krs {f : List Int} (h : hr f = true) : krs f ≤ 1152921504606846976 := by
  unfold hr at h
  rw [Bool.and_eq_true, decide_eq_true_eq] at h
  exact h.2
set_option maxHeartbeats 8000000 in
set_option maxRecDepth 100000 in
theorem words12_ok (f : List Int) (hf : f.length = 256) (hr0 : hr f = true) : Calls Try.prog 12 #[.agg (ia f)] w fun e w' => e = .returned (.tuple #[.agg (sa (ws f)), .int .i64 0]) ∧ Below w.heap.size w w' := by
  obtain ⟨q, Hq⟩ : ∃ q, Hid (w.heap.size = q) := ⟨_, ⟨rfl⟩⟩
  obtain ⟨w1, Hw1⟩ : ∃ x, Hid (w.alloc (.cells (ia f) 22) = x) := ⟨_, ⟨rfl⟩⟩
  have HB1 : Hid (Below w.heap.size w w1) := ⟨by rw [← Hw1.out]; exact (Below.refl _ w).alloc (Nat.le_refl _) _⟩
  have HX1 : Hid (w1.heap[q]? = some (.cells (ia f) 22 (0, 0))) := ⟨by rw [← Hw1.out, ← Hq.out]; exact heap_alloc_new w _⟩
  have HS1 : Hid (w1.heap.size = q + 1) := ⟨by rw [← Hw1.out, ← Hq.out]; exact Array.size_push _⟩
  obtain ⟨w2, Hw2⟩ : ∃ x, Hid (w1.alloc (.cells (sa e0) 28) = x) := ⟨_, ⟨rfl⟩⟩
  have HB2 : Hid (Below w.heap.size w w2) := ⟨by rw [← Hw2.out]; exact HB1.out.alloc HB1.out.size _⟩
  have HX2 : Hid (w2.heap[q]? = some (.cells (ia f) 22 (0, 0))) := ⟨by rw [← Hw2.out]; rw [heap_alloc_old (h := by rw [HS1.out]; omega)]; exact HX1.out⟩
  have HY2 : Hid (w2.heap[q + 1]? = some (.cells (sa e0) 28 (0, 0))) := ⟨by rw [← Hw2.out, ← HS1.out]; exact heap_alloc_new w1 _⟩
  have HF := Hid.mk hf
  have HK : Hid (∀ l c, 1 ≤ l → ps f l c ≤ 1152921504606846976) := ⟨fun l c hl => Nat.le_trans (ps_le hf l c hl) (hr_krs hr0)⟩
  have t1 := room28 (w := w2) f hf
  rw [hr0] at t1
  obtain ⟨A, HA⟩ : ∃ A, Hid (ia f = A) := ⟨_, ⟨rfl⟩⟩
  have HI : Hid ((Try.prog.info? 22).map (·.size) = some A.size) := ⟨by rw [← HA.out]; exact info22f hf⟩
  rw [HA.out] at Hw1 HX2 t1
  rw [HA.out]
  clear hf hr0
  go_enter Try.func12, Try.ntmps12
  go_upto_region 3 with (first | (refine wp_box rfl 22 (.tmp 0) rfl A rfl ?_; rw [Hw1.out]) | (refine wp_new28 rfl rfl ?_; rw [Hw2.out]) | (refine wp_load rfl 22 (.tmp 1) rfl q (by rw [← Hq.out]; rfl) A 22 (0, 0) _ HX2.out Try.underlying22 rfl HI.out ?_) | (go_at_call 28; refine t1.mono ?_; rintro e w3 ⟨rfl, hb3⟩; have HB3 := Hid.mk hb3; clear hb3 t1))
  have HX3 : Hid (w3.heap[q]? = some (.cells A 22 (0, 0))) := ⟨below_at HB3.out HX2.out⟩
  have HY3 : Hid (w3.heap[q + 1]? = some (.cells (sa e0) 28 (0, 0))) := ⟨below_at HB3.out HY2.out⟩
  have HB3' : Hid (Below q w w3) := ⟨by rw [← Hq.out]; exact HB2.out.trans (HB3.out.mono HB2.out.size)⟩
  obtain ⟨p, Hp⟩ : ∃ p, Hid (w3.heap.size = p) := ⟨_, ⟨rfl⟩⟩
  have Hqp : Hid (q + 1 < p) := ⟨by rw [← Hp.out]; exact (Array.getElem?_eq_some_iff.1 HY3.out).1⟩
  obtain ⟨w4, Hw4⟩ : ∃ x, Hid (w3.alloc (.cells (sa e0) 28) = x) := ⟨_, ⟨rfl⟩⟩
  have HB4 : Hid (Below q w w4) := ⟨by rw [← Hw4.out]; exact HB3'.out.alloc (by rw [Hp.out]; have := Hqp.out; omega) _⟩
  have HX4 : Hid (w4.heap[q]? = some (.cells A 22 (0, 0))) := ⟨by rw [← Hw4.out]; rw [heap_alloc_old (h := by rw [Hp.out]; have := Hqp.out; omega)]; exact HX3.out⟩
  have HY4 : Hid (w4.heap[q + 1]? = some (.cells (sa e0) 28 (0, 0))) := ⟨by rw [← Hw4.out]; rw [heap_alloc_old (h := by rw [Hp.out]; exact Hqp.out)]; exact HY3.out⟩
  have HZ4 : Hid (w4.heap[p]? = some (.cells (sa (wls f 1 0)) 28 (0, 0))) := ⟨by rw [wls_zero, ← Hw4.out, ← Hp.out]; exact heap_alloc_new w3 _⟩
  rw [HS1.out, Hq.out]
  clear HB1 HX1 HB2 HX2 HY2 HB3 HX3 HY3 HB3'
  go_upto_region 6 with (refine wp_new28 rfl rfl ?_; rw [Hw4.out, Hp.out])
  go_loopg [5, 6, 7, 8] 62 (fun gg s5 s6 _ _ wr => ∃ l v : Nat, 1 ≤ l ∧ l ≤ 61 ∧ 62 - l ≤ gg ∧ s6 = .int .i64 (l : Int) ∧ s5 = .int .i64 (v : Int) ∧ Hid (v * 2 ^ (61 - l) = ps f l 0) ∧ Hid (Below q w wr) ∧ Hid (wr.heap[q]? = some (.cells A 22 (0, 0))) ∧ Hid (wr.heap[q + 1]? = some (.cells (sa e0) 28 (0, 0))) ∧ Hid (wr.heap[p]? = some (.cells (sa (wls f l 0)) 28 (0, 0))))
  case atStart => exact ⟨1, 0, Nat.le_refl _, by omega, by omega, rfl, rfl, ⟨by rw [ps_zero, Nat.zero_mul]⟩, HB4, HX4, HY4, HZ4⟩
  case round =>
    clear HB4 HX4 HY4 HZ4
    obtain ⟨l, v, hl1, hl2, hgg, rfl, rfl, HV, HB, HX, HY, HZ⟩ := hrel
    rename World => wo
    by_cases hlt : l < 61
    · have hltz : (l : Int) ≤ 60 := by omega
      have hv := HK.out l 0 hl1
      rw [← HV.out] at hv
      have hv2 : v * 2 ≤ 1152921504606846976 := Nat.le_trans (Nat.mul_le_mul_left v (by rw [show 61 - l = (60 - l) + 1 by omega, Nat.pow_succ]; have := Nat.two_pow_pos (60 - l); omega)) hv
      clear hv
      go_upto_region 10 with (refine wp_load rfl 22 (.tmp 1) rfl q rfl A 22 (0, 0) _ HX.out Try.underlying22 rfl HI.out ?_)
      go_loopg [5, 7, 8, 20] 256 (fun gg2 s5 _ _ s20 wr => ∃ c u : Nat, c ≤ 256 ∧ 256 - c ≤ gg2 ∧ s20 = .int .i64 (c : Int) ∧ s5 = .int .i64 (u : Int) ∧ Hid (u * 2 ^ (60 - l) = ps f l c) ∧ Hid (Below q w wr) ∧ Hid (wr.heap[q]? = some (.cells A 22 (0, 0))) ∧ Hid (wr.heap[q + 1]? = some (.cells (sa e0) 28 (0, 0))) ∧ Hid (wr.heap[p]? = some (.cells (sa (wls f l c)) 28 (0, 0))))
      case atStart => exact ⟨0, v * 2, Nat.zero_le _, by omega, rfl, by go_num, ⟨by rw [← HV.out, show 61 - l = (60 - l) + 1 by omega, Nat.pow_succ, Nat.mul_assoc, Nat.mul_comm 2]⟩, HB, HX, HY, HZ⟩
      case round =>
        clear HV HB HX HY HZ hv2
        obtain ⟨c, u, hc, hgg2, rfl, rfl, HV, HB, HX, HY, HZ⟩ := hrel
        rename World => wk
        by_cases hct : c < 256
        · have hctz : (c : Int) < 256 := by omega
          obtain ⟨x, Hx⟩ : ∃ x, Hid (f.getD c 0 = x) := ⟨_, ⟨rfl⟩⟩
          by_cases hx : x = (l : Int)
          · subst hx
            have hln : ln f c = l := by unfold ln; rw [Hx.out]; exact Int.toNat_natCast l
            have hps := ps_take hct hln
            have hu := HK.out l (c + 1) hl1
            rw [hps, ← HV.out] at hu
            have HVn : Hid ((u + 1) * 2 ^ (60 - l) = ps f l (c + 1)) := ⟨by rw [hps, ← HV.out, Nat.add_mul, Nat.one_mul]⟩
            have hu1 : u + 1 ≤ 1152921504606846976 := by
              rw [hps, ← HV.out] at HVn
              have h1 := Nat.le_mul_of_pos_right (u + 1) (Nat.two_pow_pos (60 - l))
              rw [HVn.out] at h1
              omega
            have HW : Hid (wb f c = strOfNums (wds u l l)) := ⟨by
              unfold wb wv
              rw [hln, ← HV.out, Nat.mul_div_cancel _ (Nat.two_pow_pos _)]⟩
            have t2 := word29 (w := wk) u l (by omega) (by omega)
            rw [← HW.out] at t2
            have HLn := Hid.mk hln
            clear hps hu hln
            go_wp2_with (first | (rw [← HA.out]; refine wp_idx rfl (.tmp 19) (.tmp 20) rfl rfl c rfl HF.out hct ?_; rw [Hx.out, HA.out]))
            refine t2.mono ?_
            rintro e w5 ⟨rfl, hb5⟩
            have HB5 : Hid (Below q w w5) := ⟨HB.out.trans (hb5.mono (by rw [← Hq.out]; exact HB.out.size))⟩
            have HX5 := Hid.mk (below_at hb5 HX.out)
            have HY5 := Hid.mk (below_at hb5 HY.out)
            have HZ5 := Hid.mk (below_at hb5 HZ.out)
            clear t2 hb5 HB HX HY HZ
            have d2 : w5.cell? ⟨p, c, none⟩ = some (.string ((wls f l c).getD c ByteArray.empty)) := by rw [cell_of_row _ _ _ _ _ _ HZ5.out]; exact sa_get (by rw [wls_len]; exact hct)
            have d3 : w5.frozen? ⟨p, c, none⟩ = false := frozen_of_row _ _ _ _ _ HZ5.out
            generalize (wls f l c).getD c ByteArray.empty = y at d2
            obtain ⟨W, HWb⟩ : ∃ W, Hid (wb f c = W) := ⟨_, ⟨rfl⟩⟩
            rw [HWb.out]
            go_wp2_with fail
            go_roundg (256 - (c + 1))
            case measure => omega
            case rel =>
              refine ⟨c + 1, u + 1, by omega, by omega, by go_num, by go_num, HVn, ⟨?_⟩, ⟨?_⟩, ⟨?_⟩, ⟨?_⟩⟩
              · exact HB5.out.setCell (p := ⟨p, c, none⟩) (by have := Hqp.out; show q ≤ p; omega) _
              · rw [heap_setCell_other _ _ _ _ (by have := Hqp.out; show q ≠ p; omega)]; exact HX5.out
              · rw [heap_setCell_other _ _ _ _ (by have := Hqp.out; show q + 1 ≠ p; omega)]; exact HY5.out
              · rw [heap_setCell_same _ _ _ _ _ _ HZ5.out]
                have := sa_set (wls f l c) c W (by rw [wls_len]; exact hct)
                rw [← HWb.out, wls_take hct HLn.out] at this
                rw [← HWb.out]
                exact congrArg (fun r => some (Obj.cells r 28 (0, 0))) this
          · have hln : ln f c ≠ l := fun e => hx (by unfold ln at e; rw [Hx.out] at e; omega)
            have HVn : Hid (u * 2 ^ (60 - l) = ps f l (c + 1)) := ⟨by rw [ps_skip hln]; exact HV.out⟩
            have HZn : Hid (wk.heap[p]? = some (.cells (sa (wls f l (c + 1))) 28 (0, 0))) := ⟨by rw [wls_skip hln]; exact HZ.out⟩
            have hb : (x == (l : Int)) = false := by simpa using hx
            clear hln
            go_wp2_with (first | (rw [← HA.out]; refine wp_idx rfl (.tmp 19) (.tmp 20) rfl rfl c rfl HF.out hct ?_; rw [Hx.out, HA.out]))
            go_roundg (256 - (c + 1))
            case measure => omega
            case rel => exact ⟨c + 1, u, by omega, by omega, by go_num, rfl, HVn, HB, HX, HY, HZn⟩
        · obtain rfl : c = 256 := by omega
          have HVn : Hid (u * 2 ^ (61 - (l + 1)) = ps f (l + 1) 0) := ⟨by rw [ps_end hl1, ← HV.out, show 61 - (l + 1) = 60 - l by omega]⟩
          have HZn : Hid (wk.heap[p]? = some (.cells (sa (wls f (l + 1) 0)) 28 (0, 0))) := ⟨by rw [wls_end hl1]; exact HZ.out⟩
          go_wp2_with fail
          go_roundg (62 - (l + 1))
          case measure => omega
          case rel => exact ⟨l + 1, u, by omega, by omega, by omega, by go_num, rfl, HVn, HB, HX, HY, HZn⟩
    · obtain rfl : l = 61 := by omega
      go_wp2_with (first | (refine wp_load rfl 28 (.tmp 4) rfl p rfl (sa (wls f 61 0)) 28 (0, 0) _ HZ.out Try.underlying28 rfl (info28f (wls_len f 61 0)) ?_) | (refine wp_put28 (f := e0) (g := wls f 61 0) rfl (.tmp 2) (.tmp 35) rfl rfl rfl e0_len (wls_len f 61 0) HY.out ?_))
      (try simp only [Exit.inBlock, Exit.then])
      refine bodyPost_ret (results_ct rfl _ _ rfl (load28 (wls_len f 61 0) (setRow_heap wo (q + 1) (sa e0) _ 28 (0, 0) HY.out))) rfl ?_
      exact ⟨rfl, by rw [Hq.out]; exact below_setRow HB.out (Nat.le_succ q) _⟩
end
end Go.Proofs.Ytfecngncapenjaa
