/- The document's Words. -/
import Derived.Test.YtfecngncapenjaaR1
namespace Go.Proofs.Ytfecngncapenjaa
open Go.RowKit Oct Hf

/-- The word ahead, and what the next number is. -/
def Lst (l v : Nat) (s : ByteArray) : Prop := (s = txt [] ∧ v = 0) ∨ ∃ L p, 1 ≤ L ∧ L ≤ l ∧ s = txt (Wd.bits L p) ∧ v = (p + 1) * 2 ^ (l - L)
theorem Lst.up {l v : Nat} {s : ByteArray} (h : Lst l v s) : Lst (l + 1) (v * 2) s := by
  rcases h with ⟨h1, h2⟩ | ⟨L, p, h1, h2, h3, h4⟩
  · exact .inl ⟨h1, by rw [h2]⟩
  · exact .inr ⟨L, p, h1, by omega, h3, by rw [h4, show l + 1 - L = (l - L) + 1 by omega, Nat.pow_succ, Nat.mul_assoc]⟩
theorem wb_txt {f : List Int} {l c u : Nat} (hln : ln f c = l) (hu : u * 2 ^ (60 - l) = ps f l c) : wb f c = txt (Wd.bits l u) := by
  rw [wb_bits]
  unfold txt wbt wv
  rw [hln, ← hu, Nat.mul_div_cancel _ (Nat.two_pow_pos _)]
theorem hr_low0 {g : List Int} (h : hr g = true) (i : Nat) : 0 ≤ g.getD i 0 := by
  unfold hr at h
  rw [Bool.and_eq_true] at h
  have ha := List.all_eq_true.1 h.1
  by_cases hi : i < g.length
  · have := ha (g.getD i 0) (by unfold List.getD; rw [List.getElem?_eq_getElem hi]; exact List.getElem_mem hi)
    unfold okB at this
    rw [Bool.and_eq_true, decide_eq_true_eq, decide_eq_true_eq] at this
    exact this.1
  · rw [show g.getD i 0 = 0 by unfold List.getD; rw [List.getElem?_eq_none (by omega)]; rfl]
    omega
section
variable {w : World}
set_option maxHeartbeats 16000000 in
set_option maxRecDepth 100000 in
theorem rwords13 (f : List Int) (hf : f.length = 256) : Calls Try.prog 13 #[.agg (ia f)] w fun e w' => e = .returned (.tuple #[.agg (sa (if hr f then ws f else e0)), .int .i64 (if hr f then 0 else 2)]) ∧ Below w.heap.size w w' := by
  have HF := Hid.mk hf
  obtain ⟨q, Hq⟩ : ∃ q, Hid (w.heap.size = q) := ⟨_, ⟨rfl⟩⟩
  obtain ⟨w1, Hw1, HX1, HB1, HS1⟩ := bx22 w f
  rw [Hq.out] at HX1 HS1
  obtain ⟨w2, Hw2⟩ : ∃ x, Hid (w1.alloc (.cells (sa e0) 28) = x) := ⟨_, ⟨rfl⟩⟩
  have HB2 : Hid (Below w.heap.size w w2) := ⟨by rw [← Hw2.out]; exact HB1.out.alloc HB1.out.size _⟩
  have HX2 : Hid (w2.heap[q]? = some (.cells (ia f) 22 (0, 0))) := ⟨by rw [← Hw2.out]; rw [heap_alloc_old (h := by rw [HS1.out]; omega)]; exact HX1.out⟩
  have HY2 : Hid (w2.heap[q + 1]? = some (.cells (sa e0) 28 (0, 0))) := ⟨by rw [← Hw2.out, ← HS1.out]; exact heap_alloc_new w1 _⟩
  have HS2 : Hid (w2.heap.size = q + 2) := ⟨by rw [← Hw2.out]; have : (w1.alloc (.cells (sa e0) 28)).heap.size = w1.heap.size + 1 := Array.size_push _; rw [this, HS1.out]⟩
  obtain ⟨A, HA⟩ : ∃ A, Hid (ia f = A) := ⟨_, ⟨rfl⟩⟩
  rw [HA.out] at Hw1
  rw [HA.out]
  obtain ⟨ZA, HZA⟩ : ∃ x, Hid (sa (if hr f then ws f else e0) = x) := ⟨_, ⟨rfl⟩⟩
  obtain ⟨ze, Hze⟩ : ∃ x : Int, Hid ((if hr f then 0 else 2) = x) := ⟨_, ⟨rfl⟩⟩
  rw [HZA.out, Hze.out]
  clear hf HX1 HB1
  go_enter Try.func13, Try.ntmps13
  go_upto_region 3 with (first | (refine wp_box rfl 22 (.tmp 0) rfl A rfl ?_; rw [Hw1.out]) | (refine wp_new28 rfl rfl ?_; rw [Hw2.out]))
  rw [HS1.out, Hq.out]
  go_loopg [4, 5] 256 (fun gg s4 s5 wr => ∃ k s : Nat, k ≤ 256 ∧ 256 - k ≤ gg ∧ s5 = .int .i64 (k : Int) ∧ s4 = .int .i64 (s : Int) ∧ s ≤ 2305843009213693952 ∧ Hid (krs (f.take k) ≤ 2 ^ 60 → s = krs (f.take k)) ∧ Hid (2 ^ 60 < krs (f.take k) → 1152921504606846976 < s) ∧ Hid (∀ j, j < k → okB (f.getD j 0) = true) ∧ Hid (w2 = wr))
  case atStart => exact ⟨0, 0, Nat.zero_le _, by omega, rfl, rfl, by omega, ⟨fun _ => by simp [krs]⟩, ⟨fun h => by simp [krs] at h⟩, ⟨fun j hj => by omega⟩, ⟨rfl⟩⟩
  case round =>
    obtain ⟨k, s, hk, hgg, rfl, rfl, hs61, HK1, HK2, HOk, HW⟩ := hrel
    rename World => wo
    have hw := HW.out
    subst hw
    clear HW
    by_cases hlt : k < 256
    · have hltz : (k : Int) < 256 := by omega
      have d1 : w2.cell? ⟨q, k, none⟩ = some (.int .i64 (f.getD k 0)) := by rw [cell_of_row _ _ _ _ _ _ HX2.out]; exact ia_get (by rw [HF.out]; exact hlt)
      obtain ⟨x, Hx⟩ : ∃ x, Hid (f.getD k 0 = x) := ⟨_, ⟨rfl⟩⟩
      rw [Hx.out] at d1
      by_cases hx1 : x < 0
      · have hR : hr f = false := hr_bad (by rw [HF.out]; exact hlt) (by rw [Hx.out]; unfold okB; rw [decide_eq_false (by omega)]; rfl)
        have HR := Hid.mk hR
        clear hR
        go_wp2_with (first | (refine wp_zero28 rfl rfl ?_) | (refine wp_put28 (f := e0) (g := e0) rfl (.tmp 2) (.tmp 25) rfl rfl rfl e0_len e0_len HY2.out ?_))
        (try simp only [Exit.inBlock, Exit.then])
        refine bodyPost_ret (results_ct rfl _ _ rfl (load28 e0_len (setRow_heap w2 (q + 1) (sa e0) _ 28 (0, 0) HY2.out))) rfl ?_
        exact ⟨by rw [← HZA.out, ← Hze.out, HR.out]; rfl, below_setRow HB2.out (by rw [Hq.out]; exact Nat.le_succ q) _⟩
      · by_cases hx2 : 60 < x
        · have hR : hr f = false := hr_bad (by rw [HF.out]; exact hlt) (by rw [Hx.out]; unfold okB; rw [decide_eq_false (show ¬ x ≤ 60 by omega), Bool.and_false])
          have HR := Hid.mk hR
          clear hR
          go_wp2_with (first | (refine wp_zero28 rfl rfl ?_) | (refine wp_put28 (f := e0) (g := e0) rfl (.tmp 2) (.tmp 25) rfl rfl rfl e0_len e0_len HY2.out ?_))
          (try simp only [Exit.inBlock, Exit.then])
          refine bodyPost_ret (results_ct rfl _ _ rfl (load28 e0_len (setRow_heap w2 (q + 1) (sa e0) _ 28 (0, 0) HY2.out))) rfl ?_
          exact ⟨by rw [← HZA.out, ← Hze.out, HR.out]; rfl, below_setRow HB2.out (by rw [Hq.out]; exact Nat.le_succ q) _⟩
        · obtain ⟨n, Hn⟩ : ∃ n : Nat, Hid (x = (n : Int)) := ⟨x.toNat, ⟨by omega⟩⟩
          rw [Hn.out] at Hx hx1 hx2 d1
          have HOn : Hid (∀ j, j < k + 1 → okB (f.getD j 0) = true) := ⟨fun j hj => by
            by_cases e : j = k
            · rw [e, Hx.out]; unfold okB; rw [decide_eq_true (show (0 : Int) ≤ n by omega), decide_eq_true (show (n : Int) ≤ 60 by omega)]; rfl
            · exact HOk.out j (by omega)⟩
          have HKt := Hid.mk (krs_take f (k := k) (by rw [HF.out]; exact hlt))
          rw [Hx.out] at HKt
          by_cases hx3 : n = 0
          · subst hx3
            have HKe : Hid (krs (f.take (k + 1)) = krs (f.take k)) := ⟨by have := HKt.out; simpa using this⟩
            clear HKt
            go_wp2_with fail
            go_roundg (256 - (k + 1))
            case measure => omega
            case rel => exact ⟨k + 1, s, by omega, by omega, by go_num, rfl, hs61, ⟨by rw [HKe.out]; exact HK1.out⟩, ⟨by rw [HKe.out]; exact HK2.out⟩, HOn, ⟨rfl⟩⟩
          · have hn0 : (0 : Int) < (n : Int) := by omega
            obtain ⟨p, Hp⟩ : ∃ p : Nat, Hid (2 ^ (60 - n) = p) := ⟨_, ⟨rfl⟩⟩
            have hp60 : p ≤ 2 ^ 60 := by rw [← Hp.out]; exact Nat.pow_le_pow_right (by omega) (by omega)
            have hp0 : 0 < p := by rw [← Hp.out]; exact Nat.two_pow_pos _
            have HKe : Hid (krs (f.take (k + 1)) = krs (f.take k) + p) := ⟨by rw [HKt.out, if_neg (by omega), Int.toNat_natCast, Hp.out]⟩
            clear HKt
            by_cases hs60 : s ≤ 1152921504606846976
            · have hsz : (s : Int) ≤ 1152921504606846976 := by omega
              have HKs : Hid (s = krs (f.take k)) := ⟨by
                by_cases h : krs (f.take k) ≤ 2 ^ 60
                · exact HK1.out h
                · have := HK2.out (by omega); omega⟩
              have hpw : wrap64 ((2 : Int) ^ (60 - n)) = (p : Int) := by
                rw [← Hp.out]
                have h60 : (2 : Nat) ^ (60 - n) ≤ 2 ^ 60 := by rw [Hp.out]; exact hp60
                have : ((2 : Int) ^ (60 - n)) = ((2 ^ (60 - n) : Nat) : Int) := by simp
                rw [this]
                generalize 2 ^ (60 - n) = q at h60
                unfold wrap64
                omega
              have h60n : (60 : Int) - (n : Int) = ((60 - n : Nat) : Int) := by omega
              go_wp2_with fail
              go_roundg (256 - (k + 1))
              case measure => omega
              case rel => exact ⟨k + 1, s + p, by omega, by omega, by go_num, by go_num, by omega, ⟨fun _ => by rw [HKe.out, HKs.out]⟩, ⟨fun h => by rw [HKe.out, ← HKs.out] at h; omega⟩, HOn, ⟨rfl⟩⟩
            · have hsz : ¬ (s : Int) ≤ 1152921504606846976 := by omega
              have HKb : Hid (2 ^ 60 < krs (f.take k)) := ⟨by
                by_cases h : krs (f.take k) ≤ 2 ^ 60
                · have := HK1.out h; omega
                · omega⟩
              go_wp2_with fail
              go_roundg (256 - (k + 1))
              case measure => omega
              case rel => exact ⟨k + 1, s, by omega, by omega, by go_num, rfl, hs61, ⟨fun h => by have := HKb.out; rw [HKe.out] at h; omega⟩, ⟨fun _ => by omega⟩, HOn, ⟨rfl⟩⟩
    · obtain rfl : k = 256 := by omega
      rw [List.take_of_length_le (by rw [HF.out]; omega)] at HK1 HK2
      by_cases hs60 : s ≤ 1152921504606846976
      · have hsz : ¬ (1152921504606846976 : Int) < (s : Int) := by omega
        have HR : Hid (hr f = true) := ⟨hr_ok (fun j hj => HOk.out j (by rw [← HF.out]; exact hj)) (by
          by_cases h : krs f ≤ 2 ^ 60
          · exact h
          · have := HK2.out (by omega); omega)⟩
        have HP : Hid (∀ l c, 1 ≤ l → ps f l c ≤ 1152921504606846976) := ⟨fun l c hl => Nat.le_trans (ps_le HF.out l c hl) (hr_krs HR.out)⟩
        obtain ⟨w4, Hw4, HZ4, HB4⟩ := al28 w2 e0
        rw [HS2.out] at Hw4 HZ4
        have HX4 := Hid.mk (below_at HB4.out HX2.out)
        have HY4 := Hid.mk (below_at HB4.out HY2.out)
        have HBw : Hid (Below w.heap.size w w4) := ⟨HB2.out.trans (HB4.out.mono HB2.out.size)⟩
        have HZ4' : Hid (w4.heap[q + 2]? = some (.cells (sa (wls f 1 0)) 28 (0, 0))) := ⟨by rw [wls_zero]; exact HZ4.out⟩
        clear HK1 HK2 HOk HZ4 hs60 hs61
        go_upto_region 14 with (first | (refine wp_zero28 rfl rfl ?_) | (refine wp_new28 rfl rfl ?_; rw [HS2.out]) | (refine wp_put28 (f := e0) (g := e0) rfl (.tmp 6) (.tmp 44) rfl rfl rfl e0_len e0_len (by rw [← HS2.out]; exact heap_alloc_new w2 _) ?_; rw [Hw4.out]))
        go_loopg [7, 8, 9, 10] 62 (fun gg s7 s8 _s9 _s10 wr => ∃ (l : Nat) (la : ByteArray), 1 ≤ l ∧ l ≤ 61 ∧ 62 - l ≤ gg ∧ s8 = .int .i64 (l : Int) ∧ s7 = .string la ∧ Hid (l ≤ 60 → ∃ v, v * 2 ^ (60 - l) = ps f l 0 ∧ Lst l v la) ∧ Hid (Below w.heap.size w wr) ∧ Hid (wr.heap[q]? = some (.cells (ia f) 22 (0, 0))) ∧ Hid (wr.heap[q + 1]? = some (.cells (sa e0) 28 (0, 0))) ∧ Hid (wr.heap[q + 2]? = some (.cells (sa (wls f l 0)) 28 (0, 0))))
        case atStart => exact ⟨1, txt [], Nat.le_refl _, by omega, by omega, rfl, rfl, ⟨fun _ => ⟨0, by rw [ps_zero, Nat.zero_mul], .inl ⟨rfl, rfl⟩⟩⟩, HBw, HX4, HY4, HZ4'⟩
        case round =>
          clear HBw HX4 HY4 HZ4' HB4 HX2 HY2 HB2
          obtain ⟨l, la, hl1, hl2, hgg, rfl, rfl, HV, HB, HX, HY, HZ⟩ := hrel
          rename World => wo
          by_cases hl60 : l ≤ 60
          · have hlz : (l : Int) ≤ 60 := by omega
            go_upto_region 17 with fail
            go_loopg [7, 9, 10] 256 (fun gg2 s7 s9 _s10 wr => ∃ (c v : Nat) (la : ByteArray), c ≤ 256 ∧ 256 - c ≤ gg2 ∧ s9 = .int .i64 (c : Int) ∧ s7 = .string la ∧ Hid (v * 2 ^ (60 - l) = ps f l c ∧ Lst l v la) ∧ Hid (Below w.heap.size w wr) ∧ Hid (wr.heap[q]? = some (.cells (ia f) 22 (0, 0))) ∧ Hid (wr.heap[q + 1]? = some (.cells (sa e0) 28 (0, 0))) ∧ Hid (wr.heap[q + 2]? = some (.cells (sa (wls f l c)) 28 (0, 0))))
            case atStart =>
              obtain ⟨v, h1, h2⟩ := HV.out hl60
              exact ⟨0, v, la, Nat.zero_le _, by omega, rfl, rfl, ⟨h1, h2⟩, HB, HX, HY, HZ⟩
            case round =>
              clear HV HB HX HY HZ
              obtain ⟨c, v, la, hc, hgg2, rfl, rfl, HV, HB, HX, HY, HZ⟩ := hrel
              rename World => wk
              by_cases hct : c < 256
              · have hctz : (c : Int) < 256 := by omega
                have d1 : wk.cell? ⟨q, c, none⟩ = some (.int .i64 (f.getD c 0)) := by rw [cell_of_row _ _ _ _ _ _ HX.out]; exact ia_get (by rw [HF.out]; exact hct)
                obtain ⟨x, Hx⟩ : ∃ x, Hid (f.getD c 0 = x) := ⟨_, ⟨rfl⟩⟩
                rw [Hx.out] at d1
                by_cases hx : x = (l : Int)
                · subst hx
                  have hln : ln f c = l := by unfold ln; rw [Hx.out]; exact Int.toNat_natCast l
                  have hps := ps_take hct hln
                  have hu := HP.out l (c + 1) hl1
                  rw [hps, ← HV.out.1] at hu
                  have HVn : Hid ((v + 1) * 2 ^ (60 - l) = ps f l (c + 1)) := ⟨by rw [hps, ← HV.out.1, Nat.add_mul, Nat.one_mul]⟩
                  have Hfit : Hid (v < 2 ^ l) := ⟨by
                    have e : (2 : Nat) ^ 60 = 2 ^ l * 2 ^ (60 - l) := by rw [← Nat.pow_add, show l + (60 - l) = 60 by omega]
                    have h1 : (v + 1) * 2 ^ (60 - l) ≤ 2 ^ l * 2 ^ (60 - l) := by rw [Nat.add_mul, Nat.one_mul, ← e]; exact hu
                    have := Nat.le_of_mul_le_mul_right h1 (Nat.two_pow_pos _)
                    omega⟩
                  have HWb : Hid (wb f c = txt (Wd.bits l v)) := ⟨wb_txt hln HV.out.1⟩
                  have HLn := Hid.mk hln
                  clear hps hu hln
                  have hne : ((l : Int) != (l : Int)) = false := by simp
                  rcases HV.out.2 with ⟨rfl, h0⟩ | ⟨L, p, hL1, hL2, rfl, hv⟩
                  · have HE : Hid (0 * 2 ^ (l - 0) = v) := ⟨by omega⟩
                    have hsz0 : (txt []).size = 0 := txt_size []
                    have HT0 : Hid (txt [] = txt (Wd.bits 0 0)) := ⟨rfl⟩
                    obtain ⟨X, HXx⟩ : ∃ X, Hid (txt [] = X) := ⟨_, ⟨rfl⟩⟩
                    rw [HXx.out] at hsz0 HT0 ⊢
                    clear h0
                    go_upto_region 23 with fail
                    rw [HT0.out]
                    go_loopg [10] (l + 1) (fun gg3 s10 wr => ∃ k : Nat, 0 + k ≤ l ∧ l + 1 - k ≤ gg3 ∧ s10 = .string (txt (Wd.bits 0 0 ++ List.replicate k 0)) ∧ Hid (wk = wr))
                    case atStart => exact ⟨0, by omega, by omega, by rw [List.replicate_zero, List.append_nil], ⟨rfl⟩⟩
                    case round =>
                      obtain ⟨k, hk, hgg3, rfl, HW⟩ := hrel
                      rename World => wx
                      have hw := HW.out
                      subst hw
                      clear HW
                      have hs5 : (txt (Wd.bits 0 0 ++ List.replicate k 0)).size = 0 + k := by rw [txt_size, List.length_append, List.length_replicate, Wd.bits_len]
                      have HN : Hid (txt (Wd.bits 0 0 ++ List.replicate k 0) ++ { data := #[48] } = txt (Wd.bits 0 0 ++ List.replicate (k + 1) 0)) := ⟨by
                        rw [txt_add0, List.replicate_succ', List.append_assoc]⟩
                      have HFin : Hid (0 + k = l → txt (Wd.bits 0 0 ++ List.replicate k 0) = txt (Wd.bits l v)) := ⟨fun e => by
                        have h1 := Wd.bits_longer 0 0 k
                        rw [e] at h1
                        have h2 := HE.out
                        rw [show l - 0 = k by omega] at h2
                        rw [h2] at h1
                        rw [h1]⟩
                      obtain ⟨Y, HYy⟩ : ∃ Y, Hid (txt (Wd.bits 0 0 ++ List.replicate k 0) = Y) := ⟨_, ⟨rfl⟩⟩
                      rw [HYy.out] at hs5 HN HFin ⊢
                      by_cases hkl : 0 + k < l
                      · have hz : ((0 + k : Nat) : Int) < (l : Int) := by omega
                        have hz2 : (Y.size : Int) < (l : Int) := by omega
                        go_wp2_with fail
                        go_roundg (l + 1 - (k + 1))
                        case measure => omega
                        case rel => exact ⟨k + 1, by omega, by omega, by rw [HN.out], ⟨rfl⟩⟩
                      · have hz2 : ¬ (Y.size : Int) < (l : Int) := by omega
                        have HYf : Hid (Y = wb f c) := ⟨by rw [HFin.out (by omega), HWb.out]⟩
                        have HYl : Hid (Lst l (v + 1) Y) := ⟨.inr ⟨l, v, hl1, Nat.le_refl _, by rw [HYf.out, HWb.out], by rw [Nat.sub_self, Nat.pow_zero, Nat.mul_one]⟩⟩
                        have d2 : wk.cell? ⟨q + 2, c, none⟩ = some (.string ((wls f l c).getD c ByteArray.empty)) := by rw [cell_of_row _ _ _ _ _ _ HZ.out]; exact sa_get (by rw [wls_len]; exact hct)
                        have d3 : wk.frozen? ⟨q + 2, c, none⟩ = false := frozen_of_row _ _ _ _ _ HZ.out
                        generalize (wls f l c).getD c ByteArray.empty = y at d2
                        go_wp2_with fail
                        go_roundg (256 - (c + 1))
                        case measure => omega
                        case rel =>
                          refine ⟨c + 1, v + 1, Y, by omega, by omega, by go_num, rfl, ⟨HVn.out, HYl.out⟩, ⟨?_⟩, ⟨?_⟩, ⟨?_⟩, ⟨?_⟩⟩
                          · exact HB.out.setCell (p := ⟨q + 2, c, none⟩) (by rw [Hq.out]; show q ≤ q + 2; omega) _
                          · rw [heap_setCell_other _ _ _ _ (by show q ≠ q + 2; omega)]; exact HX.out
                          · rw [heap_setCell_other _ _ _ _ (by show q + 1 ≠ q + 2; omega)]; exact HY.out
                          · rw [heap_setCell_same _ _ _ _ _ _ HZ.out]
                            have := sa_set (wls f l c) c Y (by rw [wls_len]; exact hct)
                            rw [HYf.out, wls_take hct HLn.out] at this
                            rw [HYf.out]
                            exact congrArg (fun r => some (Obj.cells r 28 (0, 0))) this
                  · have Hpl : Hid (p + 1 < 2 ^ L) := ⟨by
                      have h1 := Hfit.out
                      rw [hv] at h1
                      have e : (2 : Nat) ^ l = 2 ^ L * 2 ^ (l - L) := by rw [← Nat.pow_add, show L + (l - L) = l by omega]
                      rw [e] at h1
                      exact Nat.lt_of_mul_lt_mul_right h1⟩
                    obtain ⟨u0, m, e1, e2⟩ := Wd.bits_plus L p Hpl.out
                    have HE : Hid ((p + 1) * 2 ^ (l - L) = v) := ⟨hv.symm⟩
                    have hsz0 : (txt (Wd.bits L p)).size = L := by rw [txt_size, Wd.bits_len]
                    have hlen := congrArg List.length e1
                    rw [Wd.bits_len, List.length_append, List.length_cons, List.length_replicate] at hlen
                    have t1 := plus30 (w := wk) u0 m (fun b hb => by have := Wd.bits_bin L p b (by rw [e1]; exact List.mem_append_left _ hb); omega) (by omega)
                    rw [← e1, ← e2] at t1
                    have hL0 : (0 : Int) < (L : Int) := by omega
                    obtain ⟨X, HXx⟩ : ∃ X, Hid (txt (Wd.bits L p) = X) := ⟨_, ⟨rfl⟩⟩
                    rw [HXx.out] at hsz0 t1 ⊢
                    clear hv e1 e2 hlen
                    go_upto_region 23 with (go_at_call 30; refine t1.mono ?_; rintro e w5 ⟨rfl, rfl⟩; clear t1)
                    go_loopg [10] (l + 1) (fun gg3 s10 wr => ∃ k : Nat, L + k ≤ l ∧ l + 1 - k ≤ gg3 ∧ s10 = .string (txt (Wd.bits L (p + 1) ++ List.replicate k 0)) ∧ Hid (wk = wr))
                    case atStart => exact ⟨0, by omega, by omega, by rw [List.replicate_zero, List.append_nil], ⟨rfl⟩⟩
                    case round =>
                      obtain ⟨k, hk, hgg3, rfl, HW⟩ := hrel
                      rename World => wx
                      have hw := HW.out
                      subst hw
                      clear HW
                      have hs5 : (txt (Wd.bits L (p + 1) ++ List.replicate k 0)).size = L + k := by rw [txt_size, List.length_append, List.length_replicate, Wd.bits_len]
                      have HN : Hid (txt (Wd.bits L (p + 1) ++ List.replicate k 0) ++ { data := #[48] } = txt (Wd.bits L (p + 1) ++ List.replicate (k + 1) 0)) := ⟨by
                        rw [txt_add0, List.replicate_succ', List.append_assoc]⟩
                      have HFin : Hid (L + k = l → txt (Wd.bits L (p + 1) ++ List.replicate k 0) = txt (Wd.bits l v)) := ⟨fun e => by
                        have h1 := Wd.bits_longer L (p + 1) k
                        rw [e] at h1
                        have h2 := HE.out
                        rw [show l - L = k by omega] at h2
                        rw [h2] at h1
                        rw [h1]⟩
                      obtain ⟨Y, HYy⟩ : ∃ Y, Hid (txt (Wd.bits L (p + 1) ++ List.replicate k 0) = Y) := ⟨_, ⟨rfl⟩⟩
                      rw [HYy.out] at hs5 HN HFin ⊢
                      by_cases hkl : L + k < l
                      · have hz : ((L + k : Nat) : Int) < (l : Int) := by omega
                        have hz2 : (Y.size : Int) < (l : Int) := by omega
                        go_wp2_with fail
                        go_roundg (l + 1 - (k + 1))
                        case measure => omega
                        case rel => exact ⟨k + 1, by omega, by omega, by rw [HN.out], ⟨rfl⟩⟩
                      · have hz2 : ¬ (Y.size : Int) < (l : Int) := by omega
                        have HYf : Hid (Y = wb f c) := ⟨by rw [HFin.out (by omega), HWb.out]⟩
                        have HYl : Hid (Lst l (v + 1) Y) := ⟨.inr ⟨l, v, hl1, Nat.le_refl _, by rw [HYf.out, HWb.out], by rw [Nat.sub_self, Nat.pow_zero, Nat.mul_one]⟩⟩
                        have d2 : wk.cell? ⟨q + 2, c, none⟩ = some (.string ((wls f l c).getD c ByteArray.empty)) := by rw [cell_of_row _ _ _ _ _ _ HZ.out]; exact sa_get (by rw [wls_len]; exact hct)
                        have d3 : wk.frozen? ⟨q + 2, c, none⟩ = false := frozen_of_row _ _ _ _ _ HZ.out
                        generalize (wls f l c).getD c ByteArray.empty = y at d2
                        go_wp2_with fail
                        go_roundg (256 - (c + 1))
                        case measure => omega
                        case rel =>
                          refine ⟨c + 1, v + 1, Y, by omega, by omega, by go_num, rfl, ⟨HVn.out, HYl.out⟩, ⟨?_⟩, ⟨?_⟩, ⟨?_⟩, ⟨?_⟩⟩
                          · exact HB.out.setCell (p := ⟨q + 2, c, none⟩) (by rw [Hq.out]; show q ≤ q + 2; omega) _
                          · rw [heap_setCell_other _ _ _ _ (by show q ≠ q + 2; omega)]; exact HX.out
                          · rw [heap_setCell_other _ _ _ _ (by show q + 1 ≠ q + 2; omega)]; exact HY.out
                          · rw [heap_setCell_same _ _ _ _ _ _ HZ.out]
                            have := sa_set (wls f l c) c Y (by rw [wls_len]; exact hct)
                            rw [HYf.out, wls_take hct HLn.out] at this
                            rw [HYf.out]
                            exact congrArg (fun r => some (Obj.cells r 28 (0, 0))) this
                · have hln : ln f c ≠ l := fun e => hx (by
                    unfold ln at e; rw [Hx.out] at e
                    have hok := hr_low0 HR.out c
                    rw [Hx.out] at hok
                    omega)
                  have HVn : Hid (v * 2 ^ (60 - l) = ps f l (c + 1) ∧ Lst l v la) := ⟨by rw [ps_skip hln]; exact HV.out⟩
                  have HZn : Hid (wk.heap[q + 2]? = some (.cells (sa (wls f l (c + 1))) 28 (0, 0))) := ⟨by rw [wls_skip hln]; exact HZ.out⟩
                  have hb : (x != (l : Int)) = true := by simpa using hx
                  clear hln
                  go_wp2_with fail
                  go_roundg (256 - (c + 1))
                  case measure => omega
                  case rel => exact ⟨c + 1, v, la, by omega, by omega, by go_num, rfl, HVn, HB, HX, HY, HZn⟩
              · obtain rfl : c = 256 := by omega
                have HVn : Hid (l + 1 ≤ 60 → ∃ v, v * 2 ^ (60 - (l + 1)) = ps f (l + 1) 0 ∧ Lst (l + 1) v la) := ⟨fun h => ⟨v * 2, by rw [ps_end hl1, ← HV.out.1, show 60 - l = (60 - (l + 1)) + 1 by omega, Nat.pow_succ, Nat.mul_assoc, Nat.mul_comm 2], HV.out.2.up⟩⟩
                have HZn : Hid (wk.heap[q + 2]? = some (.cells (sa (wls f (l + 1) 0)) 28 (0, 0))) := ⟨by rw [wls_end hl1]; exact HZ.out⟩
                go_wp2_with fail
                go_roundg (62 - (l + 1))
                case measure => omega
                case rel => exact ⟨l + 1, la, by omega, by omega, by omega, by go_num, rfl, HVn, HB, HX, HY, HZn⟩
          · obtain rfl : l = 61 := by omega
            go_wp2_with (first | (refine wp_load rfl 28 (.tmp 6) rfl (q + 2) rfl (sa (wls f 61 0)) 28 (0, 0) _ HZ.out Try.underlying28 rfl (info28f (wls_len f 61 0)) ?_) | (refine wp_put28 (f := e0) (g := wls f 61 0) rfl (.tmp 2) (.tmp 77) rfl rfl rfl e0_len (wls_len f 61 0) HY.out ?_))
            (try simp only [Exit.inBlock, Exit.then])
            refine bodyPost_ret (results_ct rfl _ _ rfl (load28 (wls_len f 61 0) (setRow_heap wo (q + 1) (sa e0) _ 28 (0, 0) HY.out))) rfl ?_
            exact ⟨by rw [← HZA.out, ← Hze.out, HR.out]; rfl, below_setRow HB.out (by rw [Hq.out]; exact Nat.le_succ q) _⟩
      · have hsz : (1152921504606846976 : Int) < (s : Int) := by omega
        have HR : Hid (hr f = false) := ⟨hr_over (k := 256) (by
          rw [List.take_of_length_le (by rw [HF.out]; omega)]
          by_cases h : krs f ≤ 2 ^ 60
          · have := HK1.out h; omega
          · omega)⟩
        go_wp2_with (first | (refine wp_zero28 rfl rfl ?_) | (refine wp_put28 (f := e0) (g := e0) rfl (.tmp 2) (.tmp 43) rfl rfl rfl e0_len e0_len HY2.out ?_))
        (try simp only [Exit.inBlock, Exit.then])
        refine bodyPost_ret (results_ct rfl _ _ rfl (load28 e0_len (setRow_heap w2 (q + 1) (sa e0) _ 28 (0, 0) HY2.out))) rfl ?_
        exact ⟨by rw [← HZA.out, ← Hze.out, HR.out]; rfl, below_setRow HB2.out (by rw [Hq.out]; exact Nat.le_succ q) _⟩
end
end Go.Proofs.Ytfecngncapenjaa
