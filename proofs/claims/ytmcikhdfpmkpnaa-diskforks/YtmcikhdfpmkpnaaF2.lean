/- DiskForks' walk. -/
import Derived.Test.YtmcikhdfpmkpnaaF1
namespace Go.Proofs.Ytmcikhdfpmkpnaa
open Go.RowKit Go.Maps Go.Sort Go.Shelf

def Fk (w w1 : World) (p g bm q : Nat) (wx : World) : Prop := (∃ D, Pair wx p g bm q w.heap.size D) ∧ Below w1.heap.size w1 wx
set_option maxRecDepth 8000 in
set_option maxHeartbeats 8000000 in
theorem forks_any (n : Int) (v : Value) (ds : List Dd) (u : Value) (es : List Dd) (ba : Option Addr) (bl bc : Nat) (w : World) (hv : Deeds w v ds) (hu : Deeds w u es) : Calls Try.prog 8 #[.int .i64 n, v, u, .slice ba bl bc] w fun e w' => e = .returned (.bool true) ∧ Below w.heap.size w w' := by
  have t1 := play_any n v ds w hv
  obtain ⟨ao, cap, rfl, _⟩ := hv
  obtain ⟨uo, ucap, rfl, hcell⟩ := hu
  obtain ⟨m, hm⟩ : ∃ m, es.length = m := ⟨_, rfl⟩
  rw [hm] at hcell ⊢
  have HC : Hid (∀ j, j < m → ∃ b o bv kv, uo = some ⟨b, o, none⟩ ∧ b < w.heap.size ∧ w.cell? ⟨b, o + j * 6, none⟩ = some (.int .i64 (es.getD j default).Do) ∧ w.cell? ⟨b, o + j * 6 + 1, none⟩ = some (.int .i64 (es.getD j default).N) ∧ w.cell? ⟨b, o + j * 6 + 2, none⟩ = some bv ∧ w.cell? ⟨b, o + j * 6 + 3, none⟩ = some kv ∧ w.cell? ⟨b, o + j * 6 + 4, none⟩ = some (.int .i64 (es.getD j default).torn) ∧ w.cell? ⟨b, o + j * 6 + 5, none⟩ = some (.int .i64 (es.getD j default).at') ∧ DdV w w.heap.size bv kv (es.getD j default)) := ⟨hcell⟩
  clear hcell hm
  generalize ds.length = dn at t1 ⊢
  go_enter Try.func8, Try.ntmps8
  go_upto_block 0 with (first
    | (go_at_call 15; refine t1.mono ?_; rintro e w1 ⟨p, g, bm, q, D, rfl, hP, hD, hb1⟩; clear t1; have hn1 : 1 ≤ D.S.length := (by rw [hD]; exact (twelve n).2.1); have t2 := fork_any hP.a hb1.size hn1; have HP1 : Hid (Pair w1 p g bm q w.heap.size D) := ⟨hP⟩; have HB1 : Hid (Below w.heap.size w w1) := ⟨hb1⟩; clear hP hD hb1 hn1)
    | (go_at_call 23; refine t2.mono ?_; rintro e w2 ⟨p', g', bm', rfl, hA2, k1, k2, k3, hb2⟩; clear t2; have t3 := rfork_any (HP1.out.r.below hb2) (Nat.le_trans HB1.out.size hb2.size); have HA2 : Hid (At w2 p' g' bm' w.heap.size D) := ⟨hA2⟩; have HB2 : Hid (Below w1.heap.size w1 w2) := ⟨hb2⟩; clear hA2 hb2)
    | (go_at_call 24; refine t3.mono ?_; rintro e w3 ⟨q', rfl, hR3, k4, hb3⟩; clear t3; have HF3 : Hid (Fk w w1 p' g' bm' q' w3) := ⟨⟨D, HA2.out.below hb3, hR3⟩, HB2.out.trans (hb3.mono HB2.out.size)⟩; have HK : Hid (∀ k ∈ [p', g', bm', q'], w1.heap.size ≤ k) := (have hz := HB2.out.size; ⟨by simp; omega⟩); clear HA2 HB2 hR3 hb3 k1 k2 k3 k4))
  go_cut [14] from 31 to 48 (fun _ wx => Hid (Fk w w1 p' g' bm' q' wx))
  case first =>
    go_wp2_with fail
    go_loopg [14] 100 (fun gg s wq => ∃ i : Nat, i ≤ m ∧ i ≤ 100 ∧ 100 - i ≤ gg ∧ s = .int .i64 (i : Int) ∧ Hid (Fk w w1 p' g' bm' q' wq))
    case atStart => exact ⟨0, Nat.zero_le _, by omega, by omega, rfl, HF3⟩
    case round =>
      clear HF3
      obtain ⟨i, hin, hi8, hgg, rfl, HS⟩ := hrel
      rename World => wq
      by_cases hlt : i < m
      · by_cases hlt8 : i < 100
        · have hltz : (i : Int) < (m : Int) := by omega
          have hlt8z : (i : Int) < 100 := by omega
          obtain ⟨⟨D', hP⟩, hB⟩ := HS.out
          have hB0 : Below w.heap.size w wq := HB1.out.trans (hB.mono HB1.out.size)
          obtain ⟨zb, zo, bv, kv, rfl, hzl, z0, z1, z2, z3, z4, z5, hdd⟩ := HC.out i hlt
          have y0 := (hB0.cell (p := ⟨zb, zo + i * 6, none⟩) hzl).trans z0
          have y1 := (hB0.cell (p := ⟨zb, zo + i * 6 + 1, none⟩) hzl).trans z1
          have y2 := (hB0.cell (p := ⟨zb, zo + i * 6 + 2, none⟩) hzl).trans z2
          have y3 := (hB0.cell (p := ⟨zb, zo + i * 6 + 3, none⟩) hzl).trans z3
          have y4 := (hB0.cell (p := ⟨zb, zo + i * 6 + 4, none⟩) hzl).trans z4
          have y5 := (hB0.cell (p := ⟨zb, zo + i * 6 + 5, none⟩) hzl).trans z5
          clear z0 z1 z2 z3 z4 z5
          generalize es.getD i default = x at y0 y1 y2 y3 y4 y5 hdd
          have t1 := do_any hP hB0.size bv kv x (hdd.below hB0)
          have HN : Hid (Below w1.heap.size w1 wq) := ⟨hB⟩
          clear hP hdd hB hB0 HS
          unfold ddV at t1
          go_wp2_with (go_at_call 25; refine t1.mono ?_; rintro e w4 ⟨rfl, hP4, hc4⟩; have HO : Hid (Fk w w1 p' g' bm' q' w4) := ⟨⟨_, hP4⟩, HN.out.trans (hc4.below HN.out.size HK.out)⟩; clear hP4 hc4 t1)
          go_roundg (100 - (i + 1))
          case measure => omega
          case rel => exact ⟨i + 1, by omega, by omega, by omega, by go_num, HO⟩
        · obtain rfl : i = 100 := by omega
          have hltz : ((100 : Nat) : Int) < (m : Int) := by omega
          go_wp2_with fail
          go_meet
          exact HS
      · obtain rfl : i = m := by omega
        go_wp2_with fail
        go_meet
        exact HS
  case rest =>
    obtain ⟨⟨D', hPf⟩, hBf⟩ := hcut.out
    have HA : Hid (Pair wc p g bm q w.heap.size D) := ⟨HP1.out.below hBf⟩
    have HF : Hid (Pair wc p' g' bm' q' w.heap.size D') := ⟨hPf⟩
    have Hc : Hid (Below w.heap.size w wc) := ⟨HB1.out.trans (hBf.mono HB1.out.size)⟩
    clear hPf hBf hcut HF3 HK HC HP1 HB1
    go_wp2_with (first
      | (go_at_call 21; refine (read_nil n _).mono ?_; rintro e x1 ⟨⟨rv, rfl⟩, hb⟩; have B1 : Hid (Below wc.heap.size wc x1) := ⟨hb⟩; clear hb)
      | (go_at_call 17; refine (crash_nil _ _ _ _).mono ?_; rintro e x2 ⟨rfl, hb⟩; have B2 : Hid (Below wc.heap.size wc x2) := ⟨B1.out.trans (hb.mono B1.out.size)⟩; clear hb B1)
      | (go_at_call 10; refine (live_any _).mono ?_; rintro e x3 ⟨rfl, hb⟩; have B3 : Hid (Below wc.heap.size wc x3) := ⟨B2.out.trans (hb.mono B2.out.size)⟩; clear hb B2)
      | (go_at_call 16; refine (alike_any (HA.out.below B3.out)).mono ?_; rintro e x4 ⟨rfl, hb⟩; have B4 : Hid (Below wc.heap.size wc x4) := ⟨B3.out.trans (hb.mono B3.out.size)⟩; clear hb B3)
      | (go_at_call 16; refine (alike_any (HF.out.below B4.out)).mono ?_; rintro e x5 ⟨rfl, hb⟩; have B5 : Hid (Below wc.heap.size wc x5) := ⟨B4.out.trans (hb.mono B4.out.size)⟩; clear hb B4)
      | (go_at_call 19; refine (write_nil _ _ _ _ _).mono ?_; rintro e x6 ⟨rfl, hb⟩; have B6 : Hid (Below wc.heap.size wc x6) := ⟨B5.out.trans (hb.mono B5.out.size)⟩; clear hb B5)
      | (go_at_call 20; refine (flush_nil _).mono ?_; rintro e x7 ⟨rfl, hb⟩; have B7 : Hid (Below wc.heap.size wc x7) := ⟨B6.out.trans (hb.mono B6.out.size)⟩; clear hb B6)
      | (go_at_call 18; refine (trip_nil _ _).mono ?_; rintro e x0 ⟨rfl, rfl⟩)
      | (go_at_call 22; refine (rot_nil _ _ _ _ _).mono ?_; rintro e x8 ⟨rfl, hb⟩; have B8 : Hid (Below wc.heap.size wc x8) := ⟨B7.out.trans (hb.mono B7.out.size)⟩; clear hb B7)
      | (go_at_call 13; refine (down_nil _).mono ?_; rintro e x0 ⟨rfl, rfl⟩)
      | (go_at_call 11; refine (sectors_nil _).mono ?_; rintro e x0 ⟨rfl, rfl⟩)
      | (go_at_call 12; refine (life_nil _).mono ?_; rintro e x0 ⟨rfl, rfl⟩)
      | (go_at_call 14; refine (dirty_nil _).mono ?_; rintro e x9 ⟨⟨za, zc, rfl⟩, hb⟩; have B9 : Hid (Below wc.heap.size wc x9) := ⟨B8.out.trans (hb.mono B8.out.size)⟩; clear hb B8)
      | (go_at_call 23; refine (fork_nil _).mono ?_; rintro e x0 ⟨rfl, rfl⟩))
    go_ret
    exact ⟨rfl, Hc.out.trans (B9.out.mono Hc.out.size)⟩
theorem walk_diskForks (n : Int) (v : Value) (ds : List Dd) (u : Value) (es : List Dd) (bv : Value) (b : List Int) (w : World) (_ : (Lit.int .i64 n).wf = true) (hv : Deeds w v ds) (hu : Deeds w u es) (hb : Bs w bv b) : Calls Try.prog 8 #[.int .i64 n, v, u, bv] w fun e w' => e = .returned (.bool true) ∧ Below w.heap.size w w' := by
  obtain ⟨ba, bc, rfl, _⟩ := hb
  exact forks_any n v ds u es ba b.length bc w hv hu
end Go.Proofs.Ytmcikhdfpmkpnaa
