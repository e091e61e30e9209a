/- ExtentBack's walk. By r16.py. -/
import Derived.Test.YtcmibcmndiplbabR15
namespace Go.Proofs.Ytcmibcmndiplbab
open Go.RowKit Go.Lib Go.Shelf

set_option maxHeartbeats 8000000 in
theorem back_any (f s n : Int) (v : Value) (ds : List (Int × Int × Int)) (w : World) (hf0 : 0 ≤ f) (hf1 : f < 256) (hs0 : 0 ≤ s) (hs1 : s < 256) (hv : Deeds w v ds) :
    Calls Try.prog 6 #[.int .u8 f, .int .u8 s, v, .int .i64 n] w fun e w' => e = .returned (.bool true) ∧ Below w.heap.size w w' := by
  have t1 := play_any f s v ds w hf0 hf1 hs0 hs1 hv
  obtain ⟨ao, cap, rfl, _⟩ := hv
  generalize ds.length = nd at t1
  go_enter Try.func6, Try.ntmps6
  go_wp2_with (first
    | (go_at_call 12; refine t1.mono ?_; rintro e w1 ⟨p, q, A, B, hA, hB, rfl, ⟨bl, l, vq, T, hP⟩, hb1⟩; clear t1)
    | (go_at_call 16; obtain ⟨cp1, hM1⟩ := hP.live.at'; refine (runs_any hM1 (hP.live.can.fine hA hB)).mono ?_; rintro e w2 ⟨v2, rfl, hv2, hb2⟩; clear hM1))
  have HF : Hid (Fine l) := ⟨hP.live.can.fine hA hB⟩
  have hcan := hP.live.can
  have h5 := hP.live.small hA hB
  have hln : (l.map fun x => (x.1, siz x)).length ≤ 100000 := by simp; omega
  have HP2 : Hid (Pair w2 p q A B w.heap.size bl l vq T) := ⟨hP.below hb2⟩
  have HV2 : Hid (Own2 w2 w1.heap.size 43 v2 (l.map fun x => (x.1, siz x))) := ⟨hv2⟩
  have HB2 : Hid (Below w.heap.size w w2) := ⟨hb1.trans (hb2.mono hb1.size)⟩
  have HS : Hid (w.heap.size ≤ w1.heap.size ∧ w1.heap.size ≤ w2.heap.size ∧ p < w1.heap.size ∧ bl < w1.heap.size) := ⟨⟨hb1.size, hb2.size, by obtain ⟨cp, hh⟩ := hP.live.at'; exact (Array.getElem?_eq_some_iff.1 hh.row).1, by obtain ⟨cp, hh⟩ := hP.live.at'; exact hh.spAt.2.2.1⟩⟩
  clear hP hv2 hb1 hb2
  by_cases hn : n < 1
  · refine (take_arg p n w2 hn).mono ?_
    rintro e w3 ⟨rfl, hb3⟩
    have HP3 : Hid (Pair w3 p q A B w.heap.size bl l vq T) := ⟨HP2.out.below hb3⟩
    have HV3 : Hid (Own2 w3 w1.heap.size 43 v2 (l.map fun x => (x.1, siz x))) := ⟨own2_below HV2.out hb3⟩
    have HB3 : Hid (Below w.heap.size w w3) := ⟨HB2.out.trans (hb3.mono HB2.out.size)⟩
    clear hb3
    go_wp2_with (first
      | (go_at_call 9; refine (live_any _).mono ?_; rintro e w4 ⟨rfl, hb4⟩; have HP4 : Hid (Pair w4 p q A B w.heap.size bl l vq T) := ⟨HP3.out.below hb4⟩; have HV4 : Hid (Own2 w4 w1.heap.size 43 v2 (l.map fun x => (x.1, siz x))) := ⟨own2_below HV3.out hb4⟩; have HB4 : Hid (Below w.heap.size w w4) := ⟨HB3.out.trans (hb4.mono HB3.out.size)⟩; clear hb4)
      | (go_at_call 16; obtain ⟨cp4, hM4⟩ := HP4.out.live.at'; refine (runs_any hM4 HF.out).mono ?_; rintro e w5 ⟨v5, rfl, hv5, hb5⟩; have s5 := same_any hv5 (own2_below HV4.out hb5) hln; have HP5 : Hid (Pair w5 p q A B w.heap.size bl l vq T) := ⟨HP4.out.below hb5⟩; have HB5 : Hid (Below w.heap.size w w5) := ⟨HB4.out.trans (hb5.mono HB4.out.size)⟩; clear hM4 hv5 hb5)
      | (go_at_call 17; refine s5.mono ?_; rintro e w6 ⟨rfl, hb6⟩; have HP6 : Hid (Pair w6 p q A B w.heap.size bl l vq T) := ⟨HP5.out.below hb6⟩; have HB6 : Hid (Below w.heap.size w w6) := ⟨HB5.out.trans (hb6.mono HB5.out.size)⟩; clear s5 hb6))
    go_ret
    exact ⟨rfl, HB6.out⟩
  · have hn1 : 1 ≤ n := by omega
    obtain ⟨cp2, hM2⟩ := HP2.out.live.at'
    rcases idx_cases (fun x => decide (n ≤ siz x)) l with ⟨hi, hno⟩ | ⟨i, hi, hil, hp, hbef⟩
    · have t2 := take_none hM2 n hn1 (by rw [fit_same HF.out]; exact hi)
      clear hM2
      refine t2.mono ?_
      rintro e w3 ⟨rfl, hb3⟩
      clear t2
      obtain ⟨mx, Hmx⟩ : ∃ mx, Hid (maxI (l.map siz) = mx) := ⟨_, ⟨rfl⟩⟩
      have hmx : mx < n := by
        rw [← Hmx.out]
        refine max_lt n hn1 _ 0 (by omega) (fun y hy => ?_)
        obtain ⟨x, hx, rfl⟩ := List.mem_map.1 hy
        have := hno x hx
        simp at this
        exact this
      clear hno hi
      have HP3 : Hid (Pair w3 p q A B w.heap.size bl l vq T) := ⟨HP2.out.below hb3⟩
      have HV3 : Hid (Own2 w3 w1.heap.size 43 v2 (l.map fun x => (x.1, siz x))) := ⟨own2_below HV2.out hb3⟩
      have HB3 : Hid (Below w.heap.size w w3) := ⟨HB2.out.trans (hb3.mono HB2.out.size)⟩
      clear hb3
      go_wp2_with (first
        | (go_at_call 9; refine (live_any _).mono ?_; rintro e w4 ⟨rfl, hb4⟩; have HP4 : Hid (Pair w4 p q A B w.heap.size bl l vq T) := ⟨HP3.out.below hb4⟩; have HV4 : Hid (Own2 w4 w1.heap.size 43 v2 (l.map fun x => (x.1, siz x))) := ⟨own2_below HV3.out hb4⟩; have HB4 : Hid (Below w.heap.size w w4) := ⟨HB3.out.trans (hb4.mono HB3.out.size)⟩; clear hb4)
        | (go_at_call 16; obtain ⟨cp4, hM4⟩ := HP4.out.live.at'; refine (runs_any hM4 HF.out).mono ?_; rintro e w5 ⟨v5, rfl, hv5, hb5⟩; have s5 := same_any hv5 (own2_below HV4.out hb5) hln; have HP5 : Hid (Pair w5 p q A B w.heap.size bl l vq T) := ⟨HP4.out.below hb5⟩; have HB5 : Hid (Below w.heap.size w w5) := ⟨HB4.out.trans (hb5.mono HB4.out.size)⟩; clear hM4 hv5 hb5)
        | (go_at_call 17; refine s5.mono ?_; rintro e w6 ⟨rfl, hb6⟩; have HP6 : Hid (Pair w6 p q A B w.heap.size bl l vq T) := ⟨HP5.out.below hb6⟩; have HB6 : Hid (Below w.heap.size w w6) := ⟨HB5.out.trans (hb6.mono HB5.out.size)⟩; clear s5 hb6)
        | (go_at_call 11; obtain ⟨cp6, hM6⟩ := HP6.out.live.at'; have m6 := most_any hM6 HF.out; rw [Hmx.out] at m6; refine m6.mono ?_; rintro e w7 ⟨rfl, hb7⟩; have HB7 : Hid (Below w.heap.size w w7) := ⟨HB6.out.trans (hb7.mono HB6.out.size)⟩; clear hM6 m6 hb7))
      go_ret
      exact ⟨rfl, HB7.out⟩
    · have hfit : n ≤ siz (l.getD i default) := by simpa using hp
      have t2 := take_ok A B n p bl cp2 w.heap.size i l w2 hM2 HF.out HB2.out.size hn1 hil h5 (by rw [fit_same HF.out]; exact hi) hfit
      clear hM2
      rw [cutAt_eq l i _ _ hil] at t2
      have hm : l.getD i default ∈ l := by simp [List.getD, List.getElem?_eq_getElem hil]
      have hge := hcan.ge _ hm
      have hfit' : n ≤ (l.getD i default).2 - (l.getD i default).1 := hfit
      obtain ⟨a1, a2, _⟩ := cut_can l i A (l.getD i default).1 ((l.getD i default).1 + n) hcan hil (Int.le_refl _) (by omega) (by omega)
      have HA2 : Hid (∀ k, (l.getD i default).1 ≤ k → k < (l.getD i default).1 + n → cov l k) := ⟨fun k h1 h2 => ⟨_, hm, by omega, by omega⟩⟩
      have HL : Hid (∀ j, j < l.length → ¬ ((l.getD j default).1 < (l.getD i default).1 ∧ n ≤ siz (l.getD j default))) := ⟨fun j hj hh => by
        by_cases hji : j < i
        · exact (of_decide_eq_false (hbef j hji)) hh.2
        · have := can_mono l i j hcan (by omega) hj
          omega⟩
      obtain ⟨x, Hx⟩ : ∃ x, Hid ((l.getD i default).1 = x) := ⟨_, ⟨rfl⟩⟩
      rw [Hx.out] at t2 a1 a2 HA2 HL
      have hxA : A ≤ x := by rw [← Hx.out]; exact hge.1
      have hxB : x + n ≤ B := by rw [← Hx.out]; omega
      obtain ⟨L', HL'⟩ : ∃ L', Hid (cutAt l i x (x + n) = L') := ⟨_, ⟨rfl⟩⟩
      rw [HL'.out] at t2 a1 a2
      have HA1 : Hid (Can B A L') := ⟨a1⟩
      have HA3 : Hid (∀ k, cov L' k ↔ cov l k ∧ ¬ (x ≤ k ∧ k < x + n)) := ⟨a2⟩
      clear a1 a2 hm hge hfit hfit' hbef hp hi hil
      refine t2.mono ?_
      rintro e w3 ⟨rfl, hM3⟩
      clear t2
      have HM3 : Hid (Maps w2 p A B w.heap.size bl L' w3) := ⟨hM3⟩
      have HR3 : Hid (RefAt w3 q A w.heap.size vq T) := ⟨HP2.out.refMaps hM3⟩
      have HB3 : Hid (Below w.heap.size w w3) := ⟨HB2.out.trans hM3.2.1⟩
      have HV3 : Hid (Own2 w3 w1.heap.size 43 v2 (l.map fun x => (x.1, siz x))) := ⟨own2_kept HV2.out (fun g h1 h2 => hM3.2.2 g h2 (by have := HS.out.2.2.1; omega) (by have := HS.out.2.2.2; omega))⟩
      have hsz3 : w2.heap.size ≤ w3.heap.size := hM3.2.1.size
      clear hM3
      obtain ⟨ao2, cp2, rfl, hcell⟩ := HV3.out.shape
      obtain ⟨nn, hnn⟩ : ∃ nn, (l.map fun x => (x.1, siz x)).length = nn := ⟨_, rfl⟩
      rw [hnn] at hcell hln HV3 HV2 ⊢
      have hnl : nn = l.length := by rw [← hnn]; simp
      have HC : Hid (∀ j, j < nn → ∃ g, ao2 = some ⟨g, 0, none⟩ ∧ w3.cell? ⟨g, j * 2, none⟩ = some (.int .i64 (l.getD j default).1) ∧ w3.cell? ⟨g, j * 2 + 1, none⟩ = some (.int .i64 (siz (l.getD j default)))) := ⟨fun j hj => by
        obtain ⟨g, h1, _, h2, h3⟩ := hcell j hj
        have hjl : j < l.length := by omega
        have e : (l.map fun x => (x.1, siz x)).getD j default = ((l.getD j default).1, siz (l.getD j default)) := by simp [List.getD, List.getElem?_eq_getElem hjl]
        rw [e] at h2 h3
        exact ⟨g, h1, h2, h3⟩⟩
      have HNL : Hid (nn = l.length) := ⟨hnl⟩
      have HNN : Hid ((l.map fun x => (x.1, siz x)).length = nn) := ⟨hnn⟩
      clear hcell hnl hnn
      go_wp2
      go_loopg [15] nn (fun gg s15 wr => ∃ kk : Nat, kk ≤ nn ∧ nn - kk ≤ gg ∧ s15 = .int .i64 (kk : Int) ∧ wr = w3)
      case atStart => exact ⟨0, Nat.zero_le _, by omega, rfl, rfl⟩
      case round =>
        obtain ⟨kk, hkk, hg, rfl, rfl⟩ := hrel
        rename World => w3
        by_cases hlt : kk < nn
        · have hltz : (kk : Int) < (nn : Int) := by omega
          obtain ⟨g, rfl, g0, g1⟩ := HC.out kk hlt
          have hnot := HL.out kk (by have := HNL.out; omega)
          generalize siz (l.getD kk default) = sz at g1 hnot
          generalize (l.getD kk default).1 = st at g0 hnot
          by_cases hst : st < x
          · have hsn : ¬ n ≤ sz := fun h => hnot ⟨hst, h⟩
            go_wp2
            go_roundg (nn - (kk + 1))
            case measure => omega
            case rel => exact ⟨kk + 1, by omega, by omega, by go_num, rfl⟩
          · go_wp2
            go_roundg (nn - (kk + 1))
            case measure => omega
            case rel => exact ⟨kk + 1, by omega, by omega, by go_num, rfl⟩
        · clear HC
          go_wp2_with (go_at_call 9; refine (live_any _).mono ?_; rintro e w4 ⟨rfl, hb4⟩)
          obtain ⟨⟨b', cap', hMM, hd⟩, hBM, hKM⟩ := HM3.out
          have hs1 := HS.out
          have hL4 : Live w4 p A B w.heap.size b' L' := Live.below ⟨⟨cap', hMM⟩, HA1.out⟩ hb4
          have hbs4 : w.heap.size ≤ w4.heap.size := Nat.le_trans HB3.out.size hb4.size
          have t3 := give_can A B x n p b' w.heap.size L' w4 hL4 hA hB hbs4 hn1 hxA hxB (fun k h1 h2 hc => ((HA3.out k).1 hc).2 ⟨h1, h2⟩)
          have hb'3 : b' < w3.heap.size := hMM.spAt.2.2.1
          clear hMM
          refine t3.mono ?_
          rintro e w5 ⟨b5, l5, rfl, hL5, hd5, hcv5, _, hB5, hK5⟩
          clear t3
          have hl5 : l5 = l := can_one l5 l A A hL5.can hcan (fun k => by
            rw [hcv5 k, HA3.out k]
            constructor
            · rintro (h1 | h1)
              · exact h1.1
              · exact HA2.out k h1.1 h1.2
            · intro h1
              by_cases h2 : x ≤ k ∧ k < x + n
              · exact .inr h2
              · exact .inl ⟨h1, h2⟩)
          rw [hl5] at hL5
          clear hl5 hcv5
          have hsame : ∀ g, g < w2.heap.size → g ≠ p → g ≠ bl → w5.heap[g]? = w2.heap[g]? := fun g h1 h2 h3 => by
            have hgb : g ≠ b' := by rcases hd with e | e <;> omega
            rw [hK5 g (by have := hb4.size; omega) h2 hgb, hb4.block g (by omega)]
            exact hKM g h1 h2 h3
          have hpr := HP2.out
          have hql := hpr.ref.lt
          have hb5q : b5 ≠ q := by
            have := hpr.n2
            have := hb4.size
            rcases hd5 with e | e
            · rcases hd with e' | e' <;> omega
            · omega
          have hb5g : ∀ g, g < w2.heap.size → g ≠ bl → g ≠ b5 := fun g h1 h2 => by
            have := hb4.size
            rcases hd5 with e | e
            · rcases hd with e' | e' <;> omega
            · omega
          have HP5 : Hid (Pair w5 p q A B w.heap.size b5 l vq T) := ⟨⟨hL5, hpr.ref.kept (hsame q hql (Ne.symm hpr.n1) (Ne.symm hpr.n2)) (fun g hg => hsame g (hpr.ref.ownLt g hg).2 (hpr.n3 g hg).1 (hpr.n3 g hg).2), hpr.says, hpr.n1, hb5q, fun g hg => ⟨(hpr.n3 g hg).1, hb5g g (hpr.ref.ownLt g hg).2 (hpr.n3 g hg).2⟩⟩⟩
          have HV5 : Hid (Own2 w5 w1.heap.size 43 (.slice ao2 nn cp2) (l.map fun x => (x.1, siz x))) := ⟨own2_kept HV2.out (fun g h1 h2 => hsame g h2 (by omega) (by omega))⟩
          have HB5 : Hid (Below w.heap.size w w5) := ⟨(HB3.out.trans (hb4.mono HB3.out.size)).trans hB5⟩
          obtain ⟨cp5, hM5⟩ := hL5.at'
          have r5 := runs_any hM5 HF.out
          clear hM5 hL5 hpr hsame hb5g hb5q hK5 hB5 hKM hBM hL4 hd hd5 hb4 HP2 HV2 HV3 HM3 HR3
          have HLN : Hid ((l.map fun x => (x.1, siz x)).length ≤ 100000) := ⟨by rw [HNN.out]; exact hln⟩
          clear hs1 hbs4 hb'3 hsz3 hln hcan hql h5 hkk hg
          go_wp2_with (go_at_call 16; refine r5.mono ?_; rintro e w6 ⟨v6, rfl, hv6, hb6⟩)
          clear r5
          have s6 := same_any hv6 (own2_below HV5.out hb6) HLN.out
          have HP6 : Hid (Pair w6 p q A B w.heap.size b5 l vq T) := ⟨HP5.out.below hb6⟩
          have HB6 : Hid (Below w.heap.size w w6) := ⟨HB5.out.trans (hb6.mono HB5.out.size)⟩
          clear hv6 hb6
          refine s6.mono ?_
          rintro e w7 ⟨rfl, hb7⟩
          have HP7 : Hid (Pair w7 p q A B w.heap.size b5 l vq T) := ⟨HP6.out.below hb7⟩
          have HB7 : Hid (Below w.heap.size w w7) := ⟨HB6.out.trans (hb7.mono HB6.out.size)⟩
          clear s6 hb7
          have t7 := alike_any HP7.out hA hB
          go_wp2_with (go_at_call 18; refine t7.mono ?_; rintro e w8 ⟨rfl, hb8⟩; have HB8 : Hid (Below w.heap.size w w8) := ⟨HB7.out.trans (hb8.mono HB7.out.size)⟩; clear t7 hb8)
          go_ret
          exact ⟨rfl, HB8.out⟩
theorem i64_top {n : Int} (h : (Lit.int .i64 n).wf = true) : n ≤ 9223372036854775807 := by
  have em : IntKind.max .i64 = 9223372036854775807 := by decide
  simp only [Lit.wf, em, Bool.and_eq_true, decide_eq_true_eq] at h
  omega
theorem walk_extentBack (f s : Int) (v : Value) (ds : List (Int × Int × Int)) (n : Int) (w : World) (hf : (Lit.int .u8 f).wf = true) (hs : (Lit.int .u8 s).wf = true) (hv : Deeds w v ds) (_ : (Lit.int .i64 n).wf = true) : Calls Try.prog 6 #[.int .u8 f, .int .u8 s, v, .int .i64 n] w fun e w' => e = .returned (.bool true) ∧ Below w.heap.size w w' :=
  back_any f s n v ds w (u8_in hf).1 (u8_in hf).2 (u8_in hs).1 (u8_in hs).2 hv
end Go.Proofs.Ytcmibcmndiplbab
