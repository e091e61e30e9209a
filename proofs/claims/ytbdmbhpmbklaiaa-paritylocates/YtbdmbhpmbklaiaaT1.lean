/- The document's Weights, Wrong. -/
import Derived.Test.YtbdmbhpmbklaiaaS11
namespace Go.Proofs.Ytbdmbhpmbklaiaa
open Go.RowKit Gf

theorem mul48q (a b : G) (w : World) : Calls Try.prog 48 #[.int .u8 (gi a), .int .u8 (gi b)] w fun e w' => e = .returned (.int .u8 (gi (a * b))) ∧ w' = w := (mul13 a b w).mono fun _ _ h => ⟨h.1, h.2.symm⟩
theorem rmul41q (a b : G) (w : World) : Calls Try.prog 41 #[.int .u8 (gi a), .int .u8 (gi b)] w fun e w' => e = .returned (.int .u8 (gi (a * b))) ∧ w' = w := (rmul10 a b w).mono fun _ _ h => ⟨h.1, h.2.symm⟩
/-- Two that are not lost have unlike lengths. -/
def Wr (L : List Sd) : Prop := ∃ i k, k < i ∧ i < L.length ∧ (L.getD i none).isSome = true ∧ (L.getD k none).isSome = true ∧ (sl (L.getD i none)).length ≠ (sl (L.getD k none)).length
section
variable {w : World}
set_option maxHeartbeats 8000000 in
set_option maxRecDepth 100000 in
theorem rweights40 (x : G) (v : Value) (l : List G) (hv : RdG w v l) (hn : l.length ≤ 256) :
    Calls Try.prog 40 #[v, .int .u8 (gi x)] w fun e w' => ∃ a n c, e = .returned (.slice a n c) ∧ OwnG w' w.heap.size (.slice a n c) (wts l x) ∧ Below w.heap.size w w' := by
  obtain ⟨sa, sc, rfl, h1, h2, _⟩ := hv.shape
  have HV := Hid.mk hv
  obtain ⟨n, Hn⟩ : ∃ n, Hid (l.length = n) := ⟨_, ⟨rfl⟩⟩
  rw [Hn.out] at hn h1 HV ⊢
  obtain ⟨w1, Hw1⟩ : ∃ y, Hid (w.alloc (.cells #[] 5) = y) := ⟨_, ⟨rfl⟩⟩
  have HB1 : Hid (Below w.heap.size w w1) := ⟨by rw [← Hw1.out]; exact (Below.refl _ w).alloc (Nat.le_refl _) _⟩
  have HO1 : Hid (OwnG w1 w.heap.size (.slice (some ⟨w.heap.size, 0, none⟩) 0 0) (wtsU l x 0)) := ⟨by
    rw [← Hw1.out]
    exact owny_none w⟩
  clear h2 hv
  go_enter Try.func40, Try.ntmps40
  go_upto_region 3 with fail
  rw [Hw1.out]
  go_loopg [5, 6, 7, 8, 9] n (fun gg s5 s6 _ _ _ wr => ∃ i : Nat, i ≤ n ∧ n - i ≤ gg ∧ s6 = .int .i64 (i : Int) ∧ Hid (OwnG wr w.heap.size s5 (wtsU l x i)) ∧ Hid (Below w.heap.size w wr))
  case atStart => exact ⟨0, Nat.zero_le _, by omega, rfl, HO1, HB1⟩
  case round =>
    clear HO1 HB1
    obtain ⟨i, hi, hgg, rfl, HO, HB⟩ := hrel
    rename World => wi
    obtain ⟨a8, c8, e8, _⟩ := HO.out.rd.shape
    subst e8
    obtain ⟨sn, Hsn⟩ : ∃ r, Hid ((wtsU l x i).length = r) := ⟨_, ⟨rfl⟩⟩
    rw [Hsn.out] at HO ⊢
    by_cases hlt : i < n
    · have hltz : (i : Int) < (n : Int) := by omega
      have hiL : i < l.length := by rw [Hn.out]; exact hlt
      obtain ⟨z, Hz⟩ : ∃ r, Hid (l.getD i 0 = r) := ⟨_, ⟨rfl⟩⟩
      go_upto_region 8 with fail
      go_loopg [7, 8, 9] n (fun gg2 s7 s8 s9 wr => ∃ k : Nat, k ≤ n ∧ n - k ≤ gg2 ∧ s9 = .int .i64 (k : Int) ∧ s7 = .int .u8 (gi (prd (ap l i x) k)) ∧ s8 = .int .u8 (gi (prd (ap l i z) k)) ∧ Hid (OwnG wr w.heap.size (.slice a8 sn c8) (wtsU l x i)) ∧ Hid (Below w.heap.size w wr))
      case atStart => exact ⟨0, Nat.zero_le _, by omega, rfl, rfl, rfl, HO, HB⟩
      case round =>
        clear HO HB
        obtain ⟨k, hk, hgg2, rfl, rfl, rfl, HO, HB⟩ := hrel
        rename World => wk
        by_cases hkn : k < n
        · have hknz : (k : Int) < (n : Int) := by omega
          have hkL : k < l.length := by rw [Hn.out]; omega
          obtain ⟨g, off, cap, e, _, hc⟩ := (HV.out.far (Chg.ofBelow (X := []) HB.out) (by simp)).at hiL
          rw [Hn.out] at e
          simp only [Value.slice.injEq] at e
          obtain ⟨rfl, -, rfl⟩ := e
          have c1 := hc i hiL
          have c2 := hc k hkL
          rw [Hz.out] at c1
          have HP : Hid (prd (ap l i x) (k + 1) = prd (ap l i x) k * ap l i x k) := ⟨rfl⟩
          have HQ : Hid (prd (ap l i z) (k + 1) = prd (ap l i z) k * ap l i z k) := ⟨rfl⟩
          generalize prd (ap l i x) k = P1 at HP ⊢
          generalize prd (ap l i z) k = P2 at HQ ⊢
          by_cases hki : k = i
          · have hb : ((k : Int) == (i : Int)) = true := by simp [hki]
            have hb2 : ((k : Int) != (i : Int)) = false := by simp [hki]
            rw [ap, if_pos hki, mul_one] at HP
            rw [ap, if_pos hki, mul_one] at HQ
            clear hc hki
            go_wp2_with fail
            go_roundg (n - (k + 1))
            case measure => omega
            case rel => exact ⟨k + 1, by omega, by omega, by go_num, by rw [HP.out], by rw [HQ.out], HO, HB⟩
          · have hb : ((k : Int) == (i : Int)) = false := by simp; omega
            have hb2 : ((k : Int) != (i : Int)) = true := by simp; omega
            rw [ap, if_neg hki] at HP
            rw [ap, if_neg hki] at HQ
            generalize l.getD k 0 = y at c2 HP HQ
            have x1 := gi_xor x y
            have x2 := gi_xor z y
            clear hc hki
            go_upto_region 12 with (go_at_call 41; refine (rmul10 _ _ _).mono ?_; rintro e w' ⟨rfl, rfl⟩)
            go_quiet ((go_at_call 41; exact Calls.quiet_of_same (rmul41q _ _ _)))
            go_wp2_with fail
            go_roundg (n - (k + 1))
            case measure => omega
            case rel => exact ⟨k + 1, by omega, by omega, by go_num, by rw [HP.out], by rw [HQ.out], ⟨HO.out.far (Chg.ofBelow (X := []) (below_drewN (Below.refl _ wk) nq)) (by simp)⟩, ⟨below_drewN HB.out nq⟩⟩
        · obtain rfl : n = k := by omega
          have HS : Hid (wtsU l x (i + 1) = wtsU l x i ++ [prd (ap l i x) n * inv (prd (ap l i z) n)]) := ⟨by rw [wtsU_succ, wq, Hn.out, Hz.out]⟩
          have hl5 : (wtsU l x i).length ≤ 1000000000000 := by rw [wtsU_len]; omega
          have hz5 : w.heap.size ≤ wk.heap.size := HB.out.size
          have t1 := rinv11 (prd (ap l i z) n) wk
          have t2 := rmul10 (prd (ap l i x) n) (inv (prd (ap l i z) n)) wk
          generalize prd (ap l i x) n = P1 at *
          generalize prd (ap l i z) n = P2 at *
          go_wp2_with fail
          refine t1.mono ?_
          rintro e wx ⟨rfl, rfl⟩
          clear t1
          go_wp2_with fail
          refine t2.mono ?_
          rintro e wx ⟨rfl, rfl⟩
          clear t2
          go_wp2_with (refine wp_appG1 rfl (.tmp 45) (.tmp 50) rfl rfl HO.out rfl hl5 hz5 ?_; intro v7 w7 hO7 hG7 hV7)
          have HO7 : Hid (OwnG w7 w.heap.size v7 (wtsU l x (i + 1))) := ⟨by rw [HS.out]; exact hO7⟩
          have HB7 : Hid (Below w.heap.size w w7) := ⟨HB.out.trans (hG7.below HB.out.size (fun x hx => (HO.out.lt x hx).1))⟩
          clear hO7 hG7 hV7
          go_roundg (n - (i + 1))
          case measure => omega
          case rel => exact ⟨i + 1, by omega, by omega, by go_num, HO7, HB7⟩
    · obtain rfl : n = i := by omega
      go_wp2_with fail
      go_ret
      refine ⟨_, _, _, rfl, ?_, HB.out⟩
      rw [show wts l x = wtsU l x n by rw [← Hn.out]; rfl]
      exact HO.out
end
end Go.Proofs.Ytbdmbhpmbklaiaa
