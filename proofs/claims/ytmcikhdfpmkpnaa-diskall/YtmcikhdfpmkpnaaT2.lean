/- DiskAll's walk. By gt2.py. -/
import Derived.Test.YtmcikhdfpmkpnaaT1
namespace Go.Proofs.Ytmcikhdfpmkpnaa
open Go.RowKit Go.Maps Go.Sort Go.Shelf

set_option maxRecDepth 8000 in
set_option maxHeartbeats 8000000 in
theorem all_any (n : Int) (v : Value) (ds : List Dd) (kv : Value) (c : Cr) (w : World) (hv : Deeds w v ds) (hk : Ks w kv c.keep) (hkf : 0 < c.keep.length → ∀ k, kv.ownBlock = some k → k < w.heap.size) : Calls Try.prog 7 #[.int .i64 n, v, .agg #[kv, .int .i64 c.torn, .int .i64 c.at']] w fun e w' => e = .returned (.bool true) ∧ Below w.heap.size w w' := by
  have hB0 : Below w.heap.size w (w.alloc (.cells #[kv, .int .i64 c.torn, .int .i64 c.at'] 40)) := (Below.refl _ w).alloc (Nat.le_refl _) _
  have hrow : (w.alloc (.cells #[kv, .int .i64 c.torn, .int .i64 c.at'] 40)).heap[w.heap.size]? = some (.cells #[kv, .int .i64 c.torn, .int .i64 c.at'] 40 (0, 0)) := heap_alloc_new w _
  have t1 := play_any n v ds _ (hv.below hB0)
  have HX0 : Hid (Ks (w.alloc (.cells #[kv, .int .i64 c.torn, .int .i64 c.at'] 40)) kv c.keep ∧ (0 < c.keep.length → ∀ k, kv.ownBlock = some k → k < (w.alloc (.cells #[kv, .int .i64 c.torn, .int .i64 c.at'] 40)).heap.size)) := ⟨hk.below hB0, fun h0 k hz => Nat.lt_of_lt_of_le (hkf h0 k hz) hB0.size⟩
  obtain ⟨ao, cap, rfl, _⟩ := hv
  clear hk hkf
  go_enter Try.func7, Try.ntmps7
  generalize ds.length = dn at t1 ⊢
  go_upto_block 0 with (first
    | (go_at_call 15; generalize w.alloc (.cells #[kv, .int .i64 c.torn, .int .i64 c.at'] 40) = w0 at hB0 hrow t1 HX0 ⊢; refine t1.mono ?_; rintro e w1 ⟨p, g, bm, q, D, rfl, hP, hD, hb1⟩; clear t1; have hD1 : 1 ≤ D.S.length := (by rw [hD]; exact (twelve n).2.1); have HS1 : Hid (At w1 p g bm w0.heap.size D ∧ Below w0.heap.size w0 w1) := ⟨hP.a, hb1⟩; have HB0 : Hid (Below w.heap.size w w0) := ⟨hB0⟩; have HRow : Hid (w0.heap[w.heap.size]? = some (.cells #[kv, .int .i64 c.torn, .int .i64 c.at'] 40 (0, 0))) := ⟨hrow⟩; have t2 := fork_any hP.a hb1.size hD1; clear hP hD hb1 hB0 hrow)
    | (go_at_call 23; refine t2.mono ?_; rintro e w2 ⟨pa, ga, ba, rfl, hA2, k1, k2, k3, hb2⟩; clear t2; have HS2 : Hid (At w2 p g bm w0.heap.size D ∧ Below w0.heap.size w0 w2 ∧ At w2 pa ga ba w0.heap.size D) := ⟨HS1.out.1.below hb2, HS1.out.2.trans (hb2.mono HS1.out.2.size), hA2⟩; have HK1 : Hid ((p < w1.heap.size ∧ g < w1.heap.size ∧ bm < w1.heap.size) ∧ (w1.heap.size ≤ pa ∧ w1.heap.size ≤ ga ∧ w1.heap.size ≤ ba)) := ⟨HS1.out.1.lt, k1, k2, k3⟩; clear hA2 hb2 k1 k2 k3 HS1; have t3 := fork_any HS2.out.1 HS2.out.2.1.size hD1)
    | (go_at_call 23; refine t3.mono ?_; rintro e w3 ⟨pb, gb, bb, rfl, hA3, k1, k2, k3, hb3⟩; clear t3; have HT3 : Hid (Tri w0 w3 p g bm pa ga ba pb gb bb D D D) := ⟨HS2.out.1.below hb3, HS2.out.2.2.below hb3, hA3, HS2.out.2.1.trans (hb3.mono HS2.out.2.1.size)⟩; have HSep : Hid (Sep w1.heap.size w2.heap.size p g bm pa ga ba pb gb bb) := ⟨HK1.out.1, HK1.out.2, HS2.out.2.2.lt, k1, k2, k3⟩; clear hA3 hb3 k1 k2 k3 HS2 HK1; have t4 := dirty_any HT3.out.x)
    | (go_at_call 14; refine t4.mono ?_; rintro e w4 ⟨dv, rfl, hO4, hb4⟩; clear t4; obtain ⟨da, dc, rfl, _⟩ := hO4.reads; have HT4 : Hid (Tri w0 w4 p g bm pa ga ba pb gb bb D D D) := ⟨HT3.out.below hb4⟩; clear hO4 hb4 HT3))
  obtain ⟨k, Hk⟩ : ∃ k, Hid ((dlI D.S).length = k) := ⟨_, ⟨rfl⟩⟩
  have hk5 : k ≤ 4096 := by
    rw [← Hk.out]
    obtain ⟨_, _, _, _, hh⟩ := HT4.out.x
    have := hh.len
    have := dl_le D.S
    simp [dlI]; omega
  have Hal : Hid (crD D ⟨List.replicate k true, -1, 0⟩ = allD D) := ⟨by unfold allD; rw [← Hk.out]; simp [dlI]⟩
  rw [Hk.out]
  go_wp2_with fail
  go_loopg [10, 14] k (fun gg s10 s14 wr => ∃ kk : Nat, kk ≤ k ∧ k - kk ≤ gg ∧ s14 = .int .i64 (kk : Int) ∧ Hid (Below w4.heap.size w4 wr) ∧ Hid (OwnT wr w4.heap.size s10 (List.replicate kk true)))
  case atStart => exact ⟨0, Nat.zero_le _, by omega, rfl, ⟨Below.refl _ _⟩, ⟨World.ownsRow_nil _ _ _ _⟩⟩
  case round =>
    obtain ⟨kk, hkk, hgg, rfl, HB, HO⟩ := hrel
    by_cases hlt : kk < k
    · have hltz : (kk : Int) < (k : Int) := by omega
      have hsz := HB.out.size
      have hln : (List.replicate kk true).length ≤ 1000000 := by simp; omega
      go_wp2_with (at_builtin; refine wp_app1T rfl (.tmp 45) (.tmp 46) rfl rfl HO.out rfl hln hsz ?_; intro v' wn hv' hb')
      go_roundg (k - (kk + 1))
      case measure => omega
      case rel => exact ⟨kk + 1, by omega, by omega, by go_num, ⟨HB.out.trans hb'⟩, ⟨by rw [List.replicate_succ']; exact hv'⟩⟩
    · obtain rfl : kk = k := by omega
      have HT5 : Hid (Tri w0 wr p g bm pa ga ba pb gb bb D D D) := ⟨HT4.out.below HB.out⟩
      obtain ⟨ta, tcp, e10, _⟩ := HO.out.ks
      rw [List.length_replicate] at e10
      subst e10
      have t5 := crash_gen HT5.out.a (.slice ta kk tcp) (List.replicate kk true) (-1) 0 HO.out.ks (fun _ z hz => by have h1 := own_ge HO.out z hz; have h2 := HT4.out.a.lt; omega)
      rw [Hal.out] at t5
      clear HT4 HB HO
      go_upto_region 14 with (first
        | (go_at_call 17; refine t5.mono ?_; rintro e w6 ⟨rfl, hA6, hc6⟩; clear t5; have HT6 : Hid (Tri w0 w6 p g bm pa ga ba pb gb bb D (allD D) D) := ⟨HT5.out.chgA HSep.out hA6 hc6⟩; clear hA6 hc6 HT5)
        | (go_at_call 13; refine (down_any HT6.out.b).mono ?_; rintro e w7 ⟨rfl, rfl⟩))
      go_cut [15, 53, 65] from 54 to 64 (fun s15 _ s65 wx => s15 = .bool D.down ∧ s65 = .bool false ∧ Hid (∃ Db, Tri w0 wx p g bm pa ga ba pb gb bb D (allD D) Db ∧ (D.down = false → Db.down = false ∧ ∀ i, i < D.S.length → Keeps Db i (now (sec D.S i)))))
      case first =>
        cases hdn : D.down with
        | true =>
          go_wp2_with fail
          go_meet
          exact ⟨by rw [hdn], rfl, ⟨⟨D, HT6.out, fun h => by rw [hdn] at h; cases h⟩⟩⟩
        | false =>
          obtain ⟨f1, f2, f3, f4⟩ := all_flush hdn
          have t6 := trip_any HT6.out.b 0 (by decide)
          rw [f1] at t6
          have HF : Hid (fluE (trpD D 0) = 0 ∧ (fluD (trpD D 0)).down = false ∧ ∀ i, i < D.S.length → Keeps (fluD (trpD D 0)) i (now (sec D.S i))) := ⟨f2, f3, f4⟩
          clear f1 f2 f3 f4
          go_wp2_with (first
            | (go_at_call 18; refine t6.mono ?_; rintro e x1 ⟨rfl, hA, hc⟩; clear t6; have HT7 : Hid (Tri w0 x1 p g bm pa ga ba pb gb bb D (allD D) (trpD D 0)) := ⟨HT6.out.chgB HSep.out hA (hc.mono (by simp))⟩; clear hA hc; have t7 := flush_any HT7.out.b; rw [HF.out.1] at t7)
            | (go_at_call 20; refine t7.mono ?_; rintro e x2 ⟨rfl, hA, hc⟩; clear t7; have HO : Hid (∃ Db, Tri w0 x2 p g bm pa ga ba pb gb bb D (allD D) Db ∧ (D.down = false → Db.down = false ∧ ∀ i, i < D.S.length → Keeps Db i (now (sec D.S i)))) := ⟨⟨_, HT7.out.chgB HSep.out hA hc, fun _ => HF.out.2⟩⟩; clear hA hc HT7))
          go_meet
          exact ⟨by rw [hdn], rfl, HO⟩
      case rest =>
        obtain ⟨rfl, rfl, HZ⟩ := hcut
        obtain ⟨Db, hT, hDb⟩ := HZ.out
        clear HZ HT6 HSep Hal Hk
        cases hdn : D.down with
        | true =>
          have hN : 1 ≤ (allD D).S.length := by rw [show (allD D).S.length = D.S.length from by simp [allD, crD, crash_length]]; exact hD1
          have t7 := fork_any hT.a hT.bl.size hN
          have HT7 : Hid (Tri w0 wc p g bm pa ga ba pb gb bb D (allD D) Db) := ⟨hT⟩
          clear hT hN hDb
          go_upto_block 2 with (first
            | (go_at_call 23; refine t7.mono ?_; rintro e w8 ⟨pc, gc, bc, rfl, hA8, k1, k2, k3, hb8⟩; clear t7; have HA8 : Hid (At w8 pc gc bc w0.heap.size (allD D)) := ⟨hA8⟩; have HC8 : Hid (Below wc.heap.size wc w8 ∧ wc.heap.size ≤ pc ∧ wc.heap.size ≤ gc ∧ wc.heap.size ≤ bc) := ⟨hb8, k1, k2, k3⟩; have HB8 : Hid (Below w0.heap.size w0 w8) := ⟨HT7.out.bl.trans (hb8.mono HT7.out.bl.size)⟩; clear hA8 hb8 k1 k2 k3; have hrw := (HB8.out.block _ (Array.getElem?_eq_some_iff.1 HRow.out).1).trans HRow.out; have y0 : w8.cell? ⟨w.heap.size, 0, none⟩ = some kv := cell_of_row w8 w.heap.size 0 _ 40 _ hrw; have y1 : w8.cell? ⟨w.heap.size, 1, none⟩ = some (.int .i64 c.torn) := cell_of_row w8 w.heap.size 1 _ 40 _ hrw; have y2 : w8.cell? ⟨w.heap.size, 2, none⟩ = some (.int .i64 c.at') := cell_of_row w8 w.heap.size 2 _ 40 _ hrw; have t8 := crash_gen HA8.out kv c.keep c.torn c.at' (HX0.out.1.below HB8.out) (fun h0 z hz => (by have h1 := HX0.out.2 h0 z hz; have h2 := HA8.out.bp; omega)); clear hrw)
            | (go_at_call 17; refine t8.mono ?_; rintro e w9 ⟨rfl, hA9, hc9⟩; clear t8 y0 y1 y2; have hb9 : Below wc.heap.size wc w9 := HC8.out.1.trans (hc9.below HC8.out.1.size (by have h3 := HC8.out; simp; omega)); have HQ9 : Hid (Tri w0 w9 p g bm pa ga ba pb gb bb D (allD D) Db ∧ At w9 pc gc bc w0.heap.size (crD (allD D) c)) := ⟨HT7.out.below hb9, hA9⟩; clear hA9 hc9 hb9 HA8 HC8 HB8 HT7))
          obtain ⟨N, HN⟩ : ∃ N, Hid (D.S.length = N) := ⟨_, ⟨rfl⟩⟩
          have hN5 : N ≤ 4096 := by obtain ⟨_, _, _, _, hh⟩ := HQ9.out.1.x; rw [← HN.out]; exact hh.len
          go_wp2_with fail
          go_loopg [17, 18, 19, 20, 21, 22, 23] N (fun gg s17 _ _ _ _ _ _ wx => ∃ ll : Nat, ll ≤ N ∧ N - ll ≤ gg ∧ s17 = .int .i64 (ll : Int) ∧ Hid (Below w9.heap.size w9 wx))
          case atStart => exact ⟨0, Nat.zero_le _, by omega, rfl, ⟨Below.refl _ _⟩⟩
          case round =>
            obtain ⟨ll, hll, hgl, rfl, HB⟩ := hrel
            rename World => wx
            have HX : Hid (Tri w0 wx p g bm pa ga ba pb gb bb D (allD D) Db ∧ At wx pc gc bc w0.heap.size (crD (allD D) c)) := ⟨HQ9.out.1.below HB.out, HQ9.out.2.below HB.out⟩
            have tsec := sectors_any HX.out.1.x
            rw [HN.out] at tsec
            by_cases hlt : ll < N
            · have hltz : (ll : Int) < (N : Int) := by omega
              have hlS : ll < D.S.length := by rw [HN.out]; exact hlt
              have hk1 := keeps_all hlS
              have hk3 := keeps_cr hk1 c
              obtain ⟨P, HP⟩ : ∃ P, Hid (now (sec D.S ll) = P) := ⟨_, ⟨rfl⟩⟩
              rw [HP.out] at hk1 hk3
              have ta := read_any HX.out.1.a (ll : Int)
              have hyt := (rdB_byt HX.out.1.a (ll : Int)).1
              obtain ⟨r1, r2⟩ := keeps_rd hk1 rfl
              rw [r1, r2] at ta
              rw [r2] at hyt
              obtain ⟨r3, r4⟩ := keeps_rd hk3 rfl
              have HR3 : Hid (rdE (crD (allD D) c) (ll : Int) = 0 ∧ rdB (crD (allD D) c) (ll : Int) = P) := ⟨r3, r4⟩
              obtain ⟨fe, HR2⟩ : ∃ fe, Hid (rdE Db (ll : Int) = fe) := ⟨_, ⟨rfl⟩⟩
              clear r1 r2 r3 r4 hk1 hk3 hlS
              go_wp2_with (first
                | (go_at_call 11; refine tsec.mono ?_; rintro e x0 ⟨rfl, rfl⟩; clear tsec)
                | (go_at_call 21; refine ta.mono ?_; rintro e x1 ⟨rv1, rfl, hO1, hb1⟩; clear ta; have tb := read_any (HX.out.1.b.below hb1) (ll : Int); rw [HR2.out] at tb; have G1 : Hid (Bs x1 rv1 P) := ⟨hO1.bs hyt⟩; have C1 : Hid (Below wx.heap.size wx x1) := ⟨hb1⟩; clear hO1 hb1)
                | (go_at_call 21; refine tb.mono ?_; rintro e x2 ⟨rv2, rfl, hO2, hb2⟩; clear tb; have C2 : Hid (Below wx.heap.size wx x2) := ⟨C1.out.trans (hb2.mono C1.out.size)⟩; have tc := read_any (HX.out.2.below C2.out) (ll : Int); rw [HR3.out.1, HR3.out.2] at tc; have G2 : Hid (Bs x2 rv1 P) := ⟨G1.out.below hb2⟩; clear hO2 hb2 C1 G1)
                | (go_at_call 21; refine tc.mono ?_; rintro e x3 ⟨rv3, rfl, hO3, hb3⟩; clear tc; have C3 : Hid (Below w9.heap.size w9 x3) := ⟨HB.out.trans ((C2.out.trans (hb3.mono C2.out.size)).mono HB.out.size)⟩; have q1 := run_str (G2.out.below hb3); have q3 := run_str (hO3.bs hyt); generalize strOfNums P = sP at q1 q3; clear hO3 hb3 C2 G2))
              go_roundg (N - (ll + 1))
              case measure => omega
              case rel => exact ⟨ll + 1, by omega, by omega, by go_num, C3⟩
            · have hltz : ¬ (ll : Int) < (N : Int) := by omega
              go_wp2_with (first
                | (go_at_call 11; refine tsec.mono ?_; rintro e x0 ⟨rfl, rfl⟩; clear tsec)
                | (go_at_call 10; refine (live_any _).mono ?_; rintro e x1 ⟨rfl, hb⟩; have HO : Hid (Below w.heap.size w x1) := ⟨HB0.out.trans ((HX.out.1.bl.trans (hb.mono HX.out.1.bl.size)).mono HB0.out.size)⟩; clear hb))
              go_ret
              exact ⟨rfl, HO.out⟩
        | false =>
          have hN : 1 ≤ (allD D).S.length := by rw [show (allD D).S.length = D.S.length from by simp [allD, crD, crash_length]]; exact hD1
          have t7 := fork_any hT.a hT.bl.size hN
          have HT7 : Hid (Tri w0 wc p g bm pa ga ba pb gb bb D (allD D) Db) := ⟨hT⟩
          obtain ⟨hbd, hbk⟩ := hDb hdn
          have HBk : Hid (∀ i, i < D.S.length → Keeps Db i (now (sec D.S i))) := ⟨hbk⟩
          clear hbk
          clear hT hN hDb
          go_upto_block 2 with (first
            | (go_at_call 23; refine t7.mono ?_; rintro e w8 ⟨pc, gc, bc, rfl, hA8, k1, k2, k3, hb8⟩; clear t7; have HA8 : Hid (At w8 pc gc bc w0.heap.size (allD D)) := ⟨hA8⟩; have HC8 : Hid (Below wc.heap.size wc w8 ∧ wc.heap.size ≤ pc ∧ wc.heap.size ≤ gc ∧ wc.heap.size ≤ bc) := ⟨hb8, k1, k2, k3⟩; have HB8 : Hid (Below w0.heap.size w0 w8) := ⟨HT7.out.bl.trans (hb8.mono HT7.out.bl.size)⟩; clear hA8 hb8 k1 k2 k3; have hrw := (HB8.out.block _ (Array.getElem?_eq_some_iff.1 HRow.out).1).trans HRow.out; have y0 : w8.cell? ⟨w.heap.size, 0, none⟩ = some kv := cell_of_row w8 w.heap.size 0 _ 40 _ hrw; have y1 : w8.cell? ⟨w.heap.size, 1, none⟩ = some (.int .i64 c.torn) := cell_of_row w8 w.heap.size 1 _ 40 _ hrw; have y2 : w8.cell? ⟨w.heap.size, 2, none⟩ = some (.int .i64 c.at') := cell_of_row w8 w.heap.size 2 _ 40 _ hrw; have t8 := crash_gen HA8.out kv c.keep c.torn c.at' (HX0.out.1.below HB8.out) (fun h0 z hz => (by have h1 := HX0.out.2 h0 z hz; have h2 := HA8.out.bp; omega)); clear hrw)
            | (go_at_call 17; refine t8.mono ?_; rintro e w9 ⟨rfl, hA9, hc9⟩; clear t8 y0 y1 y2; have hb9 : Below wc.heap.size wc w9 := HC8.out.1.trans (hc9.below HC8.out.1.size (by have h3 := HC8.out; simp; omega)); have HQ9 : Hid (Tri w0 w9 p g bm pa ga ba pb gb bb D (allD D) Db ∧ At w9 pc gc bc w0.heap.size (crD (allD D) c)) := ⟨HT7.out.below hb9, hA9⟩; clear hA9 hc9 hb9 HA8 HC8 HB8 HT7))
          obtain ⟨N, HN⟩ : ∃ N, Hid (D.S.length = N) := ⟨_, ⟨rfl⟩⟩
          have hN5 : N ≤ 4096 := by obtain ⟨_, _, _, _, hh⟩ := HQ9.out.1.x; rw [← HN.out]; exact hh.len
          go_wp2_with fail
          go_loopg [17, 18, 19, 20, 21, 22, 23] N (fun gg s17 _ _ _ _ _ _ wx => ∃ ll : Nat, ll ≤ N ∧ N - ll ≤ gg ∧ s17 = .int .i64 (ll : Int) ∧ Hid (Below w9.heap.size w9 wx))
          case atStart => exact ⟨0, Nat.zero_le _, by omega, rfl, ⟨Below.refl _ _⟩⟩
          case round =>
            obtain ⟨ll, hll, hgl, rfl, HB⟩ := hrel
            rename World => wx
            have HX : Hid (Tri w0 wx p g bm pa ga ba pb gb bb D (allD D) Db ∧ At wx pc gc bc w0.heap.size (crD (allD D) c)) := ⟨HQ9.out.1.below HB.out, HQ9.out.2.below HB.out⟩
            have tsec := sectors_any HX.out.1.x
            rw [HN.out] at tsec
            by_cases hlt : ll < N
            · have hltz : (ll : Int) < (N : Int) := by omega
              have hlS : ll < D.S.length := by rw [HN.out]; exact hlt
              have hk1 := keeps_all hlS
              have hk3 := keeps_cr hk1 c
              have hk2 := HBk.out ll hlS
              obtain ⟨P, HP⟩ : ∃ P, Hid (now (sec D.S ll) = P) := ⟨_, ⟨rfl⟩⟩
              rw [HP.out] at hk1 hk3 hk2
              have ta := read_any HX.out.1.a (ll : Int)
              have hyt := (rdB_byt HX.out.1.a (ll : Int)).1
              obtain ⟨r1, r2⟩ := keeps_rd hk1 rfl
              rw [r1, r2] at ta
              rw [r2] at hyt
              obtain ⟨r3, r4⟩ := keeps_rd hk3 rfl
              have HR3 : Hid (rdE (crD (allD D) c) (ll : Int) = 0 ∧ rdB (crD (allD D) c) (ll : Int) = P) := ⟨r3, r4⟩
              obtain ⟨r5, r6⟩ := keeps_rd hk2 hbd
              have HR2 : Hid (rdE Db (ll : Int) = 0 ∧ rdB Db (ll : Int) = P) := ⟨r5, r6⟩
              clear r5 r6 hk2
              clear r1 r2 r3 r4 hk1 hk3 hlS
              go_wp2_with (first
                | (go_at_call 11; refine tsec.mono ?_; rintro e x0 ⟨rfl, rfl⟩; clear tsec)
                | (go_at_call 21; refine ta.mono ?_; rintro e x1 ⟨rv1, rfl, hO1, hb1⟩; clear ta; have tb := read_any (HX.out.1.b.below hb1) (ll : Int); rw [HR2.out.1, HR2.out.2] at tb; have G1 : Hid (Bs x1 rv1 P) := ⟨hO1.bs hyt⟩; have C1 : Hid (Below wx.heap.size wx x1) := ⟨hb1⟩; clear hO1 hb1)
                | (go_at_call 21; refine tb.mono ?_; rintro e x2 ⟨rv2, rfl, hO2, hb2⟩; clear tb; have C2 : Hid (Below wx.heap.size wx x2) := ⟨C1.out.trans (hb2.mono C1.out.size)⟩; have tc := read_any (HX.out.2.below C2.out) (ll : Int); rw [HR3.out.1, HR3.out.2] at tc; have G2 : Hid (Bs x2 rv1 P ∧ Bs x2 rv2 P) := ⟨G1.out.below hb2, hO2.bs hyt⟩; clear hO2 hb2 C1 G1)
                | (go_at_call 21; refine tc.mono ?_; rintro e x3 ⟨rv3, rfl, hO3, hb3⟩; clear tc; have C3 : Hid (Below w9.heap.size w9 x3) := ⟨HB.out.trans ((C2.out.trans (hb3.mono C2.out.size)).mono HB.out.size)⟩; have q1 := run_str (G2.out.1.below hb3); have q2 := run_str (G2.out.2.below hb3); have q3 := run_str (hO3.bs hyt); generalize strOfNums P = sP at q1 q2 q3; clear hO3 hb3 C2 G2))
              go_roundg (N - (ll + 1))
              case measure => omega
              case rel => exact ⟨ll + 1, by omega, by omega, by go_num, C3⟩
            · have hltz : ¬ (ll : Int) < (N : Int) := by omega
              go_wp2_with (first
                | (go_at_call 11; refine tsec.mono ?_; rintro e x0 ⟨rfl, rfl⟩; clear tsec)
                | (go_at_call 10; refine (live_any _).mono ?_; rintro e x1 ⟨rfl, hb⟩; have HO : Hid (Below w.heap.size w x1) := ⟨HB0.out.trans ((HX.out.1.bl.trans (hb.mono HX.out.1.bl.size)).mono HB0.out.size)⟩; clear hb))
              go_ret
              exact ⟨rfl, HO.out⟩
theorem walk_diskAll (n : Int) (v : Value) (ds : List Dd) (xv : Value) (c : Cr) (w : World) (_ : (Lit.int .i64 n).wf = true) (hv : Deeds w v ds) (hx : CrV w xv c) : Calls Try.prog 7 #[.int .i64 n, v, xv] w fun e w' => e = .returned (.bool true) ∧ Below w.heap.size w w' := by
  obtain ⟨kv, rfl, h1, h2⟩ := hx
  exact all_any n v ds kv c w hv h1 h2
end Go.Proofs.Ytmcikhdfpmkpnaa
