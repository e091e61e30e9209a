/- The first shards that are not lost. -/
import Derived.Test.YtbdmbhpmbklaiaaS6
namespace Go.Proofs.Ytbdmbhpmbklaiaa
open Go.RowKit Gf
section
variable {w : World}
set_option maxHeartbeats 4000000 in
set_option maxRecDepth 100000 in
theorem baseLeft29 (k : Int) (v : Value) (L : List Sd) {B0 : Nat × TypeId} (hv : RdR w B0 v L) (hB0 : B0.1 ≤ w.heap.size) (hT0 : B0.2 = 1000) (hl : L.length ≤ 256) : Calls Try.prog 29 #[v, .int .i64 k] w fun e w' => ∃ pa pn pc ra rn rc, e = .returned (.agg #[.slice pa pn pc, .slice ra rn rc]) ∧ OwnG w' w.heap.size (.slice pa pn pc) (lfP L k L.length) ∧ OwnR w' B0 w.heap.size (.slice ra rn rc) (lfR L k L.length) ∧ Below w.heap.size w w' := by
  obtain ⟨va, vc, rfl, h1, h2, _⟩ := hv.shape
  obtain ⟨w1, Hw1⟩ : ∃ w1, Hid ((w.alloc (.cells #[.slice none 0 0, .slice none 0 0] 44)).alloc (.cells #[.slice none 0 0, .slice none 0 0] 44) = w1) := ⟨_, ⟨rfl⟩⟩
  have HB1 : Hid (Below w.heap.size w w1) := ⟨by rw [← Hw1.out]; exact ((Below.refl _ w).alloc (Nat.le_refl _) _).alloc (by simp) _⟩
  have HA1 : Hid (w1.heap[w.heap.size]? = some (.cells #[.slice none 0 0, .slice none 0 0] 44 (0, 0))) := ⟨by
    rw [← Hw1.out]
    exact (((Below.refl _ (w.alloc (.cells #[.slice none 0 0, .slice none 0 0] 44))).alloc (Nat.le_refl _) (.cells #[.slice none 0 0, .slice none 0 0] 44)).block _ (by simp)).trans (heap_alloc_new w _)⟩
  have HX1 : Hid (BaseAt w1 B0 (w.heap.size + 1) (w.heap.size + 1) [] []) := ⟨⟨.slice none 0 0, .slice none 0 0, by
    rw [← Hw1.out]
    have := heap_alloc_new (w.alloc (.cells #[.slice none 0 0, .slice none 0 0] 44)) (.cells #[.slice none 0 0, .slice none 0 0] 44)
    rw [World.size_alloc] at this
    exact this, ownG_nil _ _, OwnR.nil _ _ _, Nat.le_refl _⟩⟩
  obtain ⟨n, Hn⟩ : ∃ n, Hid (L.length = n) := ⟨_, ⟨rfl⟩⟩
  have HV := Hid.mk hv
  rw [Hn.out] at hl h1 HV ⊢
  obtain ⟨q, Hq⟩ : ∃ q, Hid (w.heap.size = q) := ⟨_, ⟨rfl⟩⟩
  rw [Hq.out] at HA1 HX1
  clear hv
  go_enter Try.func29, Try.ntmps29
  go_upto_region 3 with fail
  rw [Hw1.out, Hq.out]
  go_loopg [10] n (fun gg s10 wr => ∃ i : Nat, i ≤ n ∧ n - i ≤ gg ∧ s10 = .int .i64 (i : Int) ∧ Hid (BaseAt wr B0 (q + 1) (q + 1) (lfP L k i) (lfR L k i)) ∧ Hid (wr.heap[q]? = some (.cells #[.slice none 0 0, .slice none 0 0] 44 (0, 0))) ∧ Hid (Below w.heap.size w wr))
  case atStart => exact ⟨0, Nat.zero_le _, by omega, rfl, HX1, HA1, HB1⟩
  case round =>
    clear HX1 HA1 HB1
    obtain ⟨i, hi, hgg, rfl, HX, HA, HB⟩ := hrel
    rename World => wo
    by_cases hlt : i < n
    · have hltz : (i : Int) < (n : Int) := by omega
      have hiL : i < L.length := by rw [Hn.out]; exact hlt
      obtain ⟨b, off, cap, e, _, hc⟩ := (HV.out.below HB.out).at hiL
      rw [Hn.out] at e
      simp only [Value.slice.injEq] at e
      obtain ⟨rfl, -, rfl⟩ := e
      obtain ⟨sa, sc, c1, _, _, _, hs⟩ := hc i hiL
      have hs2 := hs
      have hqw : q + 1 ≤ wo.heap.size := (Array.getElem?_eq_some_iff.1 HA.out).1
      obtain ⟨pv, rv, hX⟩ := HX.out
      obtain ⟨ra, rc, e, _⟩ := hX.2.2.1.rd.shape
      subst e
      have e1 : wo.cell? ⟨q + 1, 1, none⟩ = some (.slice ra (lfR L k i).length rc) := by rw [cell_of_row _ _ _ _ _ _ hX.1]; rfl
      clear hX
      have hlf := lf_len L k i
      have hle := lf_le L k i
      have HSP : Hid (lfP L k (i + 1) = if (L.getD i none).isSome ∧ ((lfP L k i).length : Int) < k then lfP L k i ++ [gn i] else lfP L k i) := ⟨rfl⟩
      have HSR : Hid (lfR L k (i + 1) = if (L.getD i none).isSome ∧ ((lfR L k i).length : Int) < k then lfR L k i ++ [L.getD i none] else lfR L k i) := ⟨rfl⟩
      rw [hlf] at HSP
      have t0 := isLost44 (w := wo) sa (sl (L.getD i none)).length sc
      have HN : Hid (sa.isNone = !(L.getD i none).isSome) := ⟨by cases sa <;> cases hh : L.getD i none <;> simp_all⟩
      rw [HN.out] at t0
      by_cases hso : (L.getD i none).isSome = true
      · rw [hso] at t0
        by_cases hlk : ((lfR L k i).length : Int) < k
        · rw [if_pos ⟨hso, hlk⟩] at HSP HSR
          have t1 := add37 (w := wo) i sa _ sc (L.getD i none) HX.out (by have := Hq.out; omega) hT0 hs2 (by omega) (by omega) (by omega) hqw
          rw [← HSP.out, ← HSR.out] at t1
          generalize (sl (L.getD i none)).length = sn at c1 t1 t0
          generalize (lfR L k i).length = rl at *
          clear hc hs hs2 hso HN HSP HSR
          go_wp2_with fail
          refine t0.mono ?_
          rintro e wx ⟨rfl, rfl⟩
          clear t0
          go_wp2_with fail
          refine t1.mono ?_
          rintro e w2 ⟨rfl, hx2, hb2⟩
          have HX2 := Hid.mk hx2
          have HB2 : Hid (Below w.heap.size w w2) := ⟨HB.out.trans (hb2.mono (by rw [Hq.out]; exact Nat.le_succ _))⟩
          have HA2 : Hid (w2.heap[q]? = some (.cells #[.slice none 0 0, .slice none 0 0] 44 (0, 0))) := ⟨(hb2.block q (by omega)).trans HA.out⟩
          clear t1 hx2 hb2
          go_wp2_with fail
          go_roundg (n - (i + 1))
          case measure => omega
          case rel => exact ⟨i + 1, by omega, by omega, by go_num, HX2, HA2, HB2⟩
        · rw [if_neg (fun h => hlk h.2)] at HSP HSR
          have HX2 : Hid (BaseAt wo B0 (q + 1) (q + 1) (lfP L k (i + 1)) (lfR L k (i + 1))) := ⟨by rw [HSP.out, HSR.out]; exact HX.out⟩
          generalize (sl (L.getD i none)).length = sn at c1 t0
          generalize (lfR L k i).length = rl at *
          clear hc hs hs2 hso HN HSP HSR
          go_wp2_with fail
          refine t0.mono ?_
          rintro e wx ⟨rfl, rfl⟩
          clear t0
          go_wp2_with fail
          go_roundg (n - (i + 1))
          case measure => omega
          case rel => exact ⟨i + 1, by omega, by omega, by go_num, HX2, HA, HB⟩
      · rw [if_neg (fun h => hso h.1)] at HSP HSR
        have hso' : (L.getD i none).isSome = false := by simpa using hso
        rw [hso'] at t0
        have HX2 : Hid (BaseAt wo B0 (q + 1) (q + 1) (lfP L k (i + 1)) (lfR L k (i + 1))) := ⟨by rw [HSP.out, HSR.out]; exact HX.out⟩
        generalize (sl (L.getD i none)).length = sn at c1 t0
        generalize (lfR L k i).length = rl at *
        clear hc hs hs2 hso hso' HN HSP HSR
        go_wp2_with fail
        refine t0.mono ?_
        rintro e wx ⟨rfl, rfl⟩
        clear t0
        go_wp2_with fail
        go_roundg (n - (i + 1))
        case measure => omega
        case rel => exact ⟨i + 1, by omega, by omega, by go_num, HX2, HA, HB⟩
    · obtain rfl : n = i := by omega
      obtain ⟨pv, rv, hX⟩ := HX.out
      obtain ⟨pa, pc, e, _⟩ := hX.2.1.rd.shape
      subst e
      obtain ⟨ra, rc, e, _⟩ := hX.2.2.1.rd.shape
      subst e
      have c0 : wo.cell? ⟨q + 1, 0, none⟩ = some (.slice pa (lfP L k n).length pc) := by rw [cell_of_row _ _ _ _ _ _ hX.1]; rfl
      have c1 : wo.cell? ⟨q + 1, 1, none⟩ = some (.slice ra (lfR L k n).length rc) := by rw [cell_of_row _ _ _ _ _ _ hX.1]; rfl
      have d0 : wo.cell? ⟨q, 0, none⟩ = some (.slice none 0 0) := by rw [cell_of_row _ _ _ _ _ _ HA.out]; rfl
      have d1 : wo.cell? ⟨q, 1, none⟩ = some (.slice none 0 0) := by rw [cell_of_row _ _ _ _ _ _ HA.out]; rfl
      have f0 : wo.frozen? ⟨q, 0, none⟩ = false := frozen_of_row wo q 0 _ 44 HA.out
      have f1 : wo.frozen? ⟨q, 1, none⟩ = false := frozen_of_row wo q 1 _ 44 HA.out
      have HXX := Hid.mk hX
      clear hX
      go_wp2_with fail
      have hc1 := ((Chg.refl [q] wo).setCell (a := ⟨q, 0, none⟩) (.inl (by simp)) (.slice pa (lfP L k n).length pc)).setCell (a := ⟨q, 1, none⟩) (.inl (by simp)) (.slice ra (lfR L k n).length rc)
      have hA1 := heap_setCell_same wo q 0 _ 44 (.slice pa (lfP L k n).length pc) HA.out
      have hA2 := heap_setCell_same _ q 1 _ 44 (.slice ra (lfR L k n).length rc) hA1
      have g0 : ((wo.setCell ⟨q, 0, none⟩ (.slice pa (lfP L k n).length pc)).setCell ⟨q, 1, none⟩ (.slice ra (lfR L k n).length rc)).cell? ⟨q, 0, none⟩ = some (.slice pa (lfP L k n).length pc) := by rw [cell_of_row _ _ _ _ _ _ hA2]; rfl
      have g1 : ((wo.setCell ⟨q, 0, none⟩ (.slice pa (lfP L k n).length pc)).setCell ⟨q, 1, none⟩ (.slice ra (lfR L k n).length rc)).cell? ⟨q, 1, none⟩ = some (.slice ra (lfR L k n).length rc) := by rw [cell_of_row _ _ _ _ _ _ hA2]; rfl
      refine bodyPost_ret (v := .agg #[.slice pa (lfP L k n).length pc, .slice ra (lfR L k n).length rc]) (by simp [results, Try.results29, go_sem, g0, g1]) rfl ⟨_, _, _, _, _, _, rfl, ?_, ?_, ?_⟩
      · exact own_base (HXX.out.2.1.far hc1 (fun k hk hm => by simp at hm; have := (HXX.out.2.1.lt k hk).1; omega)) (fun g hg => by have := (HXX.out.2.1.lt g (mem_ob.2 hg)).1; have := Hq.out; omega)
      · rw [Hq.out]
        refine (HXX.out.2.2.1.far hc1 (fun k hk hm => ?_) (fun k hk hm => by simp at hm; have := (HXX.out.2.2.1.lt k hk).1; omega)).base (Nat.le_succ _)
        simp at hm
        subst hm
        rcases hk with hk | hk
        · have := Hq.out; omega
        · exact (Ty.ne hk ⟨_, HA.out⟩ (by rw [hT0]; decide)) rfl
      · exact HB.out.trans (hc1.below HB.out.size (by rw [Hq.out]; simp))
end
end Go.Proofs.Ytbdmbhpmbklaiaa
