/- ExtentForks' walk. -/
import Derived.Test.YtcmibcmndiplbabR18
namespace Go.Proofs.Ytcmibcmndiplbab
open Go.RowKit Go.Lib Go.Shelf

/-- Both pairs, and the run that came in. -/
structure FK (w0 W : World) (bx p q p' q' : Nat) (A B : Int) (bl b' : Nat) (l l' : List (Int × Int)) (v v' : Value) (T T' : List Bool) (ra rn : Int) : Prop where
  one : Pair W p q A B w0.heap.size bl l v T
  two : Pair W p' q' A B w0.heap.size b' l' v' T'
  bel : Below w0.heap.size w0 W
  r0 : W.cell? ⟨bx, 0, none⟩ = some (.int .i64 ra)
  r1 : W.cell? ⟨bx, 1, none⟩ = some (.int .i64 rn)
  lt : bx < W.heap.size
theorem FK.step {w0 W W' : World} {bx p q p' q' : Nat} {A B : Int} {bl b' : Nat} {l l' : List (Int × Int)} {v v' : Value} {T T' : List Bool} {ra rn : Int} (h : FK w0 W bx p q p' q' A B bl b' l l' v v' T T' ra rn) (hb : Below W.heap.size W W') : FK w0 W' bx p q p' q' A B bl b' l l' v v' T T' ra rn :=
  ⟨h.one.below hb, h.two.below hb, h.bel.trans (hb.mono h.bel.size), (hb.cell (p := ⟨bx, 0, none⟩) h.lt).trans h.r0, (hb.cell (p := ⟨bx, 1, none⟩) h.lt).trans h.r1, Nat.lt_of_lt_of_le h.lt hb.size⟩

set_option maxHeartbeats 8000000 in
theorem forks_any (f s ra rn : Int) (v v' : Value) (ds ds' : List (Int × Int × Int)) (w : World) (hf0 : 0 ≤ f) (hf1 : f < 256) (hs0 : 0 ≤ s) (hs1 : s < 256) (hv : Deeds w v ds) (hv' : Deeds w v' ds') :
    Calls Try.prog 7 #[.int .u8 f, .int .u8 s, v, v', .agg #[.int .i64 ra, .int .i64 rn]] w fun e w' => e = .returned (.bool true) ∧ Below w.heap.size w w' := by
  have t1 := play_any f s v ds (w.alloc (.cells #[.int .i64 ra, .int .i64 rn] 43)) hf0 hf1 hs0 hs1 (by
    obtain ⟨ao, cap, rfl, hc⟩ := hv
    refine ⟨ao, cap, rfl, fun j hj => ?_⟩
    obtain ⟨b, o, e, h1, h2, h3, h4, h5⟩ := hc j hj
    have hb : Below w.heap.size w (w.alloc (.cells #[.int .i64 ra, .int .i64 rn] 43)) := (Below.refl _ w).alloc (Nat.le_refl _) _
    exact ⟨b, o, e, Nat.lt_of_lt_of_le h1 hb.size, (hb.cell (p := ⟨b, o + j * 3, none⟩) h1).trans h2, (hb.cell (p := ⟨b, o + j * 3 + 1, none⟩) h1).trans h3, (hb.cell (p := ⟨b, o + j * 3 + 2, none⟩) h1).trans h4, h5⟩)
  obtain ⟨ao, cap, rfl, _⟩ := hv
  generalize ds.length = nd at t1
  obtain ⟨ao', cap', rfl, hcell⟩ := hv'
  obtain ⟨n, hn⟩ : ∃ n, ds'.length = n := ⟨_, rfl⟩
  rw [hn] at hcell ⊢
  have HC : Hid (∀ j, j < n → ∃ b o, ao' = some ⟨b, o, none⟩ ∧ b < w.heap.size ∧ w.cell? ⟨b, o + j * 3, none⟩ = some (.int .i64 (ds'.getD j default).1) ∧ w.cell? ⟨b, o + j * 3 + 1, none⟩ = some (.int .i64 (ds'.getD j default).2.1) ∧ w.cell? ⟨b, o + j * 3 + 2, none⟩ = some (.int .i64 (ds'.getD j default).2.2) ∧ (ds'.getD j default).2.1 ≤ 9223372036854775807) := ⟨hcell⟩
  clear hcell hn
  have hw0 : Below w.heap.size w (w.alloc (.cells #[.int .i64 ra, .int .i64 rn] 43)) := (Below.refl _ w).alloc (Nat.le_refl _) _
  have hr0 : (w.alloc (.cells #[.int .i64 ra, .int .i64 rn] 43)).cell? ⟨w.heap.size, 0, none⟩ = some (.int .i64 ra) := by simp
  have hr1 : (w.alloc (.cells #[.int .i64 ra, .int .i64 rn] 43)).cell? ⟨w.heap.size, 1, none⟩ = some (.int .i64 rn) := by simp
  have hwl : w.heap.size < (w.alloc (.cells #[.int .i64 ra, .int .i64 rn] 43)).heap.size := by simp
  go_enter Try.func7, Try.ntmps7
  go_wp2_with (go_at_call 12; refine t1.mono ?_; rintro e w1 ⟨p, q, A, B, hA, hB, rfl, ⟨bl, l, vq, T, hP⟩, hb1⟩; clear t1)
  generalize w.alloc (.cells #[.int .i64 ra, .int .i64 rn] 43) = W0 at hP hb1 hw0 hr0 hr1 hwl
  have HW : Hid (Below w.heap.size w W0) := ⟨hw0⟩
  have HR : Hid (W0.cell? ⟨w.heap.size, 0, none⟩ = some (.int .i64 ra) ∧ W0.cell? ⟨w.heap.size, 1, none⟩ = some (.int .i64 rn) ∧ w.heap.size < W0.heap.size) := ⟨⟨hr0, hr1, hwl⟩⟩
  have HP1 : Hid (Pair w1 p q A B W0.heap.size bl l vq T) := ⟨hP⟩
  have HB1 : Hid (Below W0.heap.size W0 w1) := ⟨hb1⟩
  have fk := fork_any hP.live hb1.size
  clear hw0 hr0 hr1 hwl hP hb1
  refine fk.mono ?_
  rintro e w2 ⟨p', b', rfl, hL2, hp', hb', hb2⟩
  clear fk
  have HB2 : Hid (Below w1.heap.size w1 w2) := ⟨hb2⟩
  have HL2 : Hid (Live w2 p' A B W0.heap.size b' l) := ⟨hL2⟩
  have rf := refFork_any (HP1.out.ref.below hb2)
  clear hL2 hb2
  go_wp2_with (go_at_call 20; refine rf.mono ?_; rintro e w3 ⟨rfl, hR3, hb3⟩; clear rf)
  have HS0 : Hid ((∃ b4 l4 v4 T4, Pair w3 p' w2.heap.size A B W0.heap.size b4 l4 v4 T4 ∧ w1.heap.size ≤ b4) ∧ Below w1.heap.size w1 w3) := ⟨by
    have hpl : p' < w2.heap.size := by obtain ⟨cp, hM⟩ := HL2.out.at'; exact (Array.getElem?_eq_some_iff.1 hM.row).1
    have hbl : b' < w2.heap.size := by obtain ⟨cp, hM⟩ := HL2.out.at'; exact hM.spAt.2.2.1
    refine ⟨⟨b', l, vq, T, ⟨HL2.out.below hb3, hR3, HP1.out.says, by omega, by omega, fun g hg => ?_⟩, hb'⟩, HB2.out.trans (hb3.mono HB2.out.size)⟩
    have := (HP1.out.ref.ownLt g hg).2
    exact ⟨by omega, by omega⟩⟩
  have hq' : w1.heap.size ≤ w2.heap.size := HB2.out.size
  clear hR3 hb3 HL2
  generalize w2.heap.size = q' at HS0 hq' ⊢
  go_loopg [16] 60 (fun gg s16 wq => ∃ i : Nat, i ≤ n ∧ i ≤ 60 ∧ 60 - i ≤ gg ∧ s16 = .int .i64 (i : Int) ∧ Hid ((∃ b4 l4 v4 T4, Pair wq p' q' A B W0.heap.size b4 l4 v4 T4 ∧ w1.heap.size ≤ b4) ∧ Below w1.heap.size w1 wq))
  case atStart => exact ⟨0, Nat.zero_le _, by omega, by omega, rfl, HS0⟩
  case round =>
    clear HS0
    obtain ⟨i, hin, hi8, hgg, rfl, HS⟩ := hrel
    rename World => w4
    have HK : Hid (∃ b4 l4 v4 T4, FK W0 w4 w.heap.size p q p' q' A B bl b4 l l4 vq v4 T T4 ra rn) := ⟨by
      obtain ⟨⟨b4, l4, v4, T4, hP4, _⟩, hb4⟩ := HS.out
      have hb04 : Below W0.heap.size W0 w4 := HB1.out.trans (hb4.mono HB1.out.size)
      exact ⟨b4, l4, v4, T4, HP1.out.below hb4, hP4, hb04, (hb04.cell (p := ⟨w.heap.size, 0, none⟩) HR.out.2.2).trans HR.out.1, (hb04.cell (p := ⟨w.heap.size, 1, none⟩) HR.out.2.2).trans HR.out.2.1, Nat.lt_of_lt_of_le HR.out.2.2 hb04.size⟩⟩
    by_cases hlt : i < n
    · by_cases hlt8 : i < 60
      · have hltz : (i : Int) < (n : Int) := by omega
        have hlt8z : (i : Int) < 60 := by omega
        obtain ⟨zb, zo, rfl, hzl, z0, z1, z2, hat⟩ := HC.out i hlt
        have hbw : Below w.heap.size w w4 := by obtain ⟨_, _, _, _, hk⟩ := HK.out; exact HW.out.trans (hk.bel.mono HW.out.size)
        have y0 := (hbw.cell (p := ⟨zb, zo + i * 3, none⟩) hzl).trans z0
        have y1 := (hbw.cell (p := ⟨zb, zo + i * 3 + 1, none⟩) hzl).trans z1
        have y2 := (hbw.cell (p := ⟨zb, zo + i * 3 + 2, none⟩) hzl).trans z2
        clear z0 z1 z2 hbw
        generalize ds'.getD i default = d at y0 y1 y2 hat
        obtain ⟨⟨b4, l4, v4, T4, hP4, hb4g⟩, hb4⟩ := HS.out
        have t1 := do_all hP4 hA hB (Nat.le_trans HB1.out.size hb4.size) d.1 d.2.1 d.2.2 hat
        clear hP4 hat HK
        go_wp2_with (go_at_call 21; refine t1.mono ?_; rintro e w5 ⟨rfl, hO⟩; clear t1)
        have HO : Hid ((∃ b4 l4 v4 T4, Pair w5 p' q' A B W0.heap.size b4 l4 v4 T4 ∧ w1.heap.size ≤ b4) ∧ Below w1.heap.size w1 w5) := ⟨by
          obtain ⟨⟨b5, l5, v5, T5, hP5, hd⟩, hbb, hk⟩ := hO
          refine ⟨⟨b5, l5, v5, T5, hP5, ?_⟩, ?_⟩
          · rcases hd with e | e
            · rw [e]; exact hb4g
            · exact Nat.le_trans hb4.size e
          · have hfull : Below w1.heap.size w4 w5 := ⟨hbb.os, hbb.tape, hbb.output, hbb.size, fun k hk1 => hk k (Nat.lt_of_lt_of_le hk1 hb4.size) (by omega) (by omega) (by omega)⟩
            exact hb4.trans hfull⟩
        clear hO
        go_wp2
        go_roundg (60 - (i + 1))
        case measure => omega
        case rel => exact ⟨i + 1, by omega, by omega, by omega, by go_num, HO⟩
      · obtain rfl : i = 60 := by omega
        have hltz : ((60 : Nat) : Int) < (n : Int) := by omega
        clear HS HC
        obtain ⟨b4, l4, v4, T4, k4⟩ := HK.out
        have K4 : Hid (FK W0 w4 w.heap.size p q p' q' A B bl b4 l l4 vq v4 T T4 ra rn) := ⟨k4⟩
        clear k4 HK
        have z0 := K4.out.r0
        have z1 := K4.out.r1
        go_wp2_with fail
        refine (take_nil _ _).mono ?_
        rintro e w5 ⟨rfl, hb⟩
        have K5 : Hid (FK W0 w5 w.heap.size p q p' q' A B bl b4 l l4 vq v4 T T4 ra rn) := ⟨K4.out.step hb⟩
        clear hb
        clear z0 z1
        go_wp2_with fail
        refine (live_any _).mono ?_
        rintro e w6 ⟨rfl, hb⟩
        have K6 : Hid (FK W0 w6 w.heap.size p q p' q' A B bl b4 l l4 vq v4 T T4 ra rn) := ⟨K5.out.step hb⟩
        clear hb
        go_wp2_with fail
        refine (alike_any K6.out.one hA hB).mono ?_
        rintro e w7 ⟨rfl, hb⟩
        have K7 : Hid (FK W0 w7 w.heap.size p q p' q' A B bl b4 l l4 vq v4 T T4 ra rn) := ⟨K6.out.step hb⟩
        clear hb
        go_wp2_with fail
        refine (alike_any K7.out.two hA hB).mono ?_
        rintro e w8 ⟨rfl, hb⟩
        have K8 : Hid (FK W0 w8 w.heap.size p q p' q' A B bl b4 l l4 vq v4 T T4 ra rn) := ⟨K7.out.step hb⟩
        clear hb
        have x0 := K8.out.r0
        have x1 := K8.out.r1
        go_wp2_with fail
        refine (claim_nil _ _ _).mono ?_
        rintro e w9 ⟨rfl, hb⟩
        have K9 : Hid (FK W0 w9 w.heap.size p q p' q' A B bl b4 l l4 vq v4 T T4 ra rn) := ⟨K8.out.step hb⟩
        clear hb
        clear x0 x1
        have y0 := K9.out.r0
        have y1 := K9.out.r1
        go_wp2_with fail
        refine (give_nil _ _ _).mono ?_
        rintro e w10 ⟨rfl, hb⟩
        have K10 : Hid (FK W0 w10 w.heap.size p q p' q' A B bl b4 l l4 vq v4 T T4 ra rn) := ⟨K9.out.step hb⟩
        clear hb
        clear y0 y1
        go_wp2_with fail
        refine (free_nil _).mono ?_
        rintro e w11 ⟨rfl, hb⟩
        have K11 : Hid (FK W0 w11 w.heap.size p q p' q' A B bl b4 l l4 vq v4 T T4 ra rn) := ⟨K10.out.step hb⟩
        clear hb
        go_wp2_with fail
        refine (most_nil _).mono ?_
        rintro e w12 ⟨rfl, hb⟩
        have K12 : Hid (FK W0 w12 w.heap.size p q p' q' A B bl b4 l l4 vq v4 T T4 ra rn) := ⟨K11.out.step hb⟩
        clear hb
        go_wp2_with fail
        refine (runs_nil _).mono ?_
        rintro e w13 ⟨⟨av, cv, rfl⟩, hb⟩
        have K13 : Hid (FK W0 w13 w.heap.size p q p' q' A B bl b4 l l4 vq v4 T T4 ra rn) := ⟨K12.out.step hb⟩
        clear hb
        go_wp2_with fail
        refine (fork_nil _).mono ?_
        rintro e w14 ⟨rfl, hb⟩
        have K14 : Hid (FK W0 w14 w.heap.size p q p' q' A B bl b4 l l4 vq v4 T T4 ra rn) := ⟨K13.out.step hb⟩
        clear hb
        go_wp2_with fail
        go_ret
        exact ⟨rfl, HW.out.trans (K14.out.bel.mono HW.out.size)⟩
    · obtain rfl : i = n := by omega
      clear HS HC
      obtain ⟨b4, l4, v4, T4, k4⟩ := HK.out
      have K4 : Hid (FK W0 w4 w.heap.size p q p' q' A B bl b4 l l4 vq v4 T T4 ra rn) := ⟨k4⟩
      clear k4 HK
      have z0 := K4.out.r0
      have z1 := K4.out.r1
      go_wp2_with fail
      refine (take_nil _ _).mono ?_
      rintro e w5 ⟨rfl, hb⟩
      have K5 : Hid (FK W0 w5 w.heap.size p q p' q' A B bl b4 l l4 vq v4 T T4 ra rn) := ⟨K4.out.step hb⟩
      clear hb
      clear z0 z1
      go_wp2_with fail
      refine (live_any _).mono ?_
      rintro e w6 ⟨rfl, hb⟩
      have K6 : Hid (FK W0 w6 w.heap.size p q p' q' A B bl b4 l l4 vq v4 T T4 ra rn) := ⟨K5.out.step hb⟩
      clear hb
      go_wp2_with fail
      refine (alike_any K6.out.one hA hB).mono ?_
      rintro e w7 ⟨rfl, hb⟩
      have K7 : Hid (FK W0 w7 w.heap.size p q p' q' A B bl b4 l l4 vq v4 T T4 ra rn) := ⟨K6.out.step hb⟩
      clear hb
      go_wp2_with fail
      refine (alike_any K7.out.two hA hB).mono ?_
      rintro e w8 ⟨rfl, hb⟩
      have K8 : Hid (FK W0 w8 w.heap.size p q p' q' A B bl b4 l l4 vq v4 T T4 ra rn) := ⟨K7.out.step hb⟩
      clear hb
      have x0 := K8.out.r0
      have x1 := K8.out.r1
      go_wp2_with fail
      refine (claim_nil _ _ _).mono ?_
      rintro e w9 ⟨rfl, hb⟩
      have K9 : Hid (FK W0 w9 w.heap.size p q p' q' A B bl b4 l l4 vq v4 T T4 ra rn) := ⟨K8.out.step hb⟩
      clear hb
      clear x0 x1
      have y0 := K9.out.r0
      have y1 := K9.out.r1
      go_wp2_with fail
      refine (give_nil _ _ _).mono ?_
      rintro e w10 ⟨rfl, hb⟩
      have K10 : Hid (FK W0 w10 w.heap.size p q p' q' A B bl b4 l l4 vq v4 T T4 ra rn) := ⟨K9.out.step hb⟩
      clear hb
      clear y0 y1
      go_wp2_with fail
      refine (free_nil _).mono ?_
      rintro e w11 ⟨rfl, hb⟩
      have K11 : Hid (FK W0 w11 w.heap.size p q p' q' A B bl b4 l l4 vq v4 T T4 ra rn) := ⟨K10.out.step hb⟩
      clear hb
      go_wp2_with fail
      refine (most_nil _).mono ?_
      rintro e w12 ⟨rfl, hb⟩
      have K12 : Hid (FK W0 w12 w.heap.size p q p' q' A B bl b4 l l4 vq v4 T T4 ra rn) := ⟨K11.out.step hb⟩
      clear hb
      go_wp2_with fail
      refine (runs_nil _).mono ?_
      rintro e w13 ⟨⟨av, cv, rfl⟩, hb⟩
      have K13 : Hid (FK W0 w13 w.heap.size p q p' q' A B bl b4 l l4 vq v4 T T4 ra rn) := ⟨K12.out.step hb⟩
      clear hb
      go_wp2_with fail
      refine (fork_nil _).mono ?_
      rintro e w14 ⟨rfl, hb⟩
      have K14 : Hid (FK W0 w14 w.heap.size p q p' q' A B bl b4 l l4 vq v4 T T4 ra rn) := ⟨K13.out.step hb⟩
      clear hb
      go_wp2_with fail
      go_ret
      exact ⟨rfl, HW.out.trans (K14.out.bel.mono HW.out.size)⟩
end Go.Proofs.Ytcmibcmndiplbab
