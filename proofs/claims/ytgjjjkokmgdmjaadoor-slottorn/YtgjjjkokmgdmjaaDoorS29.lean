/- SlotTorn: the walk. -/
import Derived.Test.YtgjjjkokmgdmjaaDoorS28
namespace Go.Proofs.YtgjjjkokmgdmjaaDoor
open Go.RowKit
section
variable {w : World}
set_option maxHeartbeats 16000000 in
set_option maxRecDepth 100000 in
theorem slotTorn_nc (L : List (List Int)) (nn rcap : Nat) (ao : Option Addr) (al : Option Addr) (last : List Int) (nl cl A tr nc ccap : Nat) (cb co : Nat) (ak : Option Addr) (nk ck : Nat) (ks : List Bool) (torn at' : Int) (hV : Vars w) (hnn : L.length = nn) (hL : L = []) (hl : Oc.Bs w (.slice al nl cl) last) (hly : Dk.Byt last) (hnl : last.length = nl)
    (hA : A < 256) (htr : tr = A % 4) (hnc : 0 < nc) (hx0 : w.cell? ⟨cb, co, none⟩ = some (.slice ak nk ck)) (hx1 : w.cell? ⟨cb, co + 1, none⟩ = some (.int .i64 torn)) (hx2 : w.cell? ⟨cb, co + 2, none⟩ = some (.int .i64 at')) (hks : Dk.Ks w (.slice ak nk ck) ks) (hkb : 0 < ks.length → ∀ z, (Value.slice ak nk ck).ownBlock = some z → z < w.heap.size) :
    Calls Tryd.prog 3 #[.slice ao nn rcap, .slice al nl cl, .int .u8 (A : Int), .slice (some ⟨cb, co, none⟩) nc ccap] w fun e w' => e = .returned (.bool true) ∧ Below w.heap.size w w' := by
  have HV : Hid (Vars w) := ⟨hV⟩
  have HNN : Hid (L.length = nn) := ⟨hnn⟩
  have HLe : Hid (L = []) := ⟨hL⟩
  have HLast : Hid (Oc.Bs w (.slice al nl cl) last) := ⟨hl⟩
  have HLy : Hid (Dk.Byt last) := ⟨hly⟩
  have HNL : Hid (last.length = nl) := ⟨hnl⟩
  have Htr : Hid (tr = A % 4) := ⟨htr⟩
  have HNC : Hid (0 < nc) := ⟨hnc⟩
  have HX0 := Dk.Hid.mk hx0
  have HX1 := Dk.Hid.mk hx1
  have HX2 := Dk.Hid.mk hx2
  have HKs : Hid (Dk.Ks w (.slice ak nk ck) ks) := ⟨hks⟩
  have HKb := Dk.Hid.mk hkb
  have htr4 : tr < 4 := by omega
  have hAtr : ((A : Int) % 4) = (tr : Int) := by omega
  obtain ⟨L', HL'⟩ : ∃ L', Hid (L.take 30 = L') := ⟨_, ⟨rfl⟩⟩
  obtain ⟨LS, HLS⟩ : ∃ l, Hid (strOfNums last = l) := ⟨_, ⟨rfl⟩⟩
  have HF : Hid (Fine (truns L').d 3 ∧ (truns L').d.life = 0 ∧ ∃ m, m ≤ L'.length ∧ Cel (sc0 (truns L').d 1) (sc0 (truns L').d 2) m (truns L').was (truns L').had) := ⟨truns_ok L' (by rw [← HL'.out, List.length_take]; omega)⟩
  have HOut0 : Hid (Out (stE (tripD (truns L').d (tr : Int)) 1 last) (truns L').had (truns L').was last (gt (sc0 (Dk.crD (stD (tripD (truns L').d (tr : Int)) 1 last) cr0) 1) (sc0 (Dk.crD (stD (tripD (truns L').d (tr : Int)) 1 last) cr0) 2)) ∧ (stD (tripD (truns L').d (tr : Int)) 1 last).S.length = 3 ∧ (stD (tripD (truns L').d (tr : Int)) 1 last).life = (truns L').d.life) := ⟨by
    obtain ⟨q1, q2, m, q3, q4⟩ := HF.out
    exact last_out q1 q4 (by have : L'.length ≤ 30 := by rw [← HL'.out, List.length_take]; omega
                             omega) tr htr4 _⟩
  clear hV hnn hL hl hly htr hnl hnc hx0 hx1 hx2 hks hkb
  have t1 := Dk.newdisk_any 3 w (by decide) (by decide)
  go_enter Tryd.func3, Tryd.ntmps3
  go_upto_region 4 with (go_at_call 6; refine t1.mono ?_; rintro e w2 hN; obtain ⟨p, g, bm, rfl, hA2, hb2⟩ := hN; clear t1)
  have HB2 : Hid (Below w.heap.size w w2) := ⟨hb2⟩
  have HA2 : Hid (Dk.At w2 p g bm w.heap.size (Dk.newD 3)) := ⟨hA2⟩
  have t2 := open_good (bs := 1) hA2 (opn_new 3 1 (by decide))
  clear hA2 hb2
  go_upto_region 7 with (go_at_call 7; refine t2.mono ?_; rintro e w3 ⟨rfl, hC3, hb3⟩; clear t2)
  obtain ⟨q, Hq⟩ : ∃ q, Hid (w2.heap.size = q) := ⟨_, ⟨rfl⟩⟩
  rw [Hq.out] at hC3 ⊢
  have HB23 : Hid (Below w2.heap.size w2 w3) := ⟨hb3⟩
  have HC3 : Hid (CellAt w3 q p ((1 : Nat) : Int) 0) := ⟨hC3⟩
  have HB3 : Hid (Below w.heap.size w w3) := ⟨HB2.out.trans (HB23.out.mono HB2.out.size)⟩
  have HA3 : Hid (Dk.At w3 p g bm w.heap.size (truns (L.take 0)).d) := ⟨HA2.out.below HB23.out⟩
  have hBP : Hid (w.heap.size ≤ p ∧ w.heap.size ≤ g ∧ w.heap.size ≤ bm) := ⟨At.bp HA3.out⟩
  clear hC3 hb3
  go_wp2_with fail
  go_loopw [13, 14, 15] (fun s t i wr => ∃ j : Nat, j ≤ min nn 30 ∧ i = .int .i64 (j : Int) ∧ s = .string (strOfNums (truns (L.take j)).was) ∧ t = .bool (truns (L.take j)).had ∧ Hid (Dk.At wr p g bm w.heap.size (truns (L.take j)).d) ∧ Hid (CellAt wr q p ((1 : Nat) : Int) 0) ∧ Hid (Below w.heap.size w wr)) (fun _ _ i _ => 30 - (intOf i).toNat)
  case atStart => exact ⟨0, Nat.zero_le _, rfl, str_nil, rfl, HA3, HC3, HB3⟩
  case round =>
    obtain ⟨j, hj, rfl, rfl, rfl, HAr, HC0, HBr⟩ := hrel
    have HFr : Hid (Fine (truns (L.take j)).d 3 ∧ (truns (L.take j)).d.life = 0) := ⟨by have q := truns_ok (L.take j) (by rw [List.length_take]; omega); exact ⟨q.1, q.2.1⟩⟩
    have HCr : Hid (CellAt wr q p ((1 : Nat) : Int) (truns (L.take j)).d.life) := ⟨by rw [HFr.out.2]; exact HC0.out⟩
    by_cases hjN : j < nn ∧ j < 30
    · obtain ⟨hjn, hj3⟩ := hjN
      exact absurd hjn (by rw [← HNN.out, HLe.out]; simp)
    by_cases hjn : j < nn
    · have hj30 : j = 30 := by omega
      have hjl : (j : Int) < (nn : Int) := by omega
      have hj3 : ¬ (j : Int) < 30 := by omega
      have hTk : Hid (L.take j = L.take 30) := ⟨by rw [hj30]⟩
      clear hjN hjn hj30 hj
      rw [HL'.out] at hTk
      have HT : Hid (truns (L.take j) = truns L') := ⟨by rw [hTk.out]⟩
      have HA' : Hid (Dk.At wr p g bm w.heap.size (truns L').d) := ⟨by rw [← HT.out]; exact HAr.out⟩
      clear HAr HCr
      rw [HT.out]
      obtain ⟨WS, HWS⟩ : ∃ W, Hid (W = strOfNums (truns L').was) := ⟨_, ⟨rfl⟩⟩
      obtain ⟨hd, Hhd⟩ : ∃ h, Hid (h = (truns L').had) := ⟨_, ⟨rfl⟩⟩
      rw [← HWS.out, ← Hhd.out]
      have tt := Dk.trip_any HA'.out (tr : Int) (by omega)
      rw [(trip_ok HF.out.1.down (show (0 : Int) ≤ (tr : Int) by omega)).1, (trip_ok HF.out.1.down (show (0 : Int) ≤ (tr : Int) by omega)).2] at tt
      go_upto_region 15 with (go_at_call 9; first | rw [hAtr] | skip; refine tt.mono ?_; rintro e w5 ⟨rfl, hA5, hc5⟩; clear tt)
      have HA5 : Hid (Dk.At w5 p g bm w.heap.size (tripD (truns L').d (tr : Int))) := ⟨hA5⟩
      have HB5 : Hid (Below w.heap.size w w5) := ⟨HBr.out.trans (hc5.below HBr.out.size (fun x hx => by have h1 := hBP.out; simp at hx; omega))⟩
      have HC5 : Hid (CellAt w5 q p ((1 : Nat) : Int) (tripD (truns L').d (tr : Int)).life) := ⟨by rw [show (tripD (truns L').d (tr : Int)).life = 0 from HF.out.2.1]; exact CellAt.chg HC0.out HA'.out (hc5.mono (by simp))⟩
      clear hA5 hc5
      have ts := set_any HA5.out HC5.out HF.out.1.down (show 1 + 2 ≤ (truns L').d.S.length by rw [HF.out.1.len]; decide) (Dg.NibsAt.below HV.out HB5.out) _ last (Oc.Bs.below HLast.out HB5.out) HLy.out
      obtain ⟨G, HGe⟩ : ∃ G, Hid (stE (tripD (truns L').d (tr : Int)) 1 last = G) := ⟨_, ⟨rfl⟩⟩
      obtain ⟨D2, HD2⟩ : ∃ D, Hid (stD (tripD (truns L').d (tr : Int)) 1 last = D) := ⟨_, ⟨rfl⟩⟩
      rw [HGe.out, HD2.out] at ts
      have HOut := HOut0.out
      rw [HGe.out, HD2.out] at HOut
      have HO : Hid (Out G (truns L').had (truns L').was last (gt (sc0 (Dk.crD D2 cr0) 1) (sc0 (Dk.crD D2 cr0) 2)) ∧ D2.S.length = 3 ∧ D2.life = (truns L').d.life) := ⟨HOut⟩
      clear HOut HGe
      have hG : G = 0 ∨ G = 7 ∨ (G = 6 ∧ 100 < nl) := by
        rcases HO.out.1 with ⟨e, _⟩ | ⟨e, _⟩ | ⟨e, e2, _⟩
        · exact .inl e
        · exact .inr (.inl e)
        · exact .inr (.inr ⟨e, by rw [← HNL.out]; exact e2⟩)
      go_upto_region 16 with (go_at_call 8; refine ts.mono ?_; rintro e w6 ⟨rfl, hA6, hc6⟩; clear ts)
      have HA6 : Hid (Dk.At w6 p g bm w.heap.size D2) := ⟨hA6⟩
      have HB6 : Hid (Below w.heap.size w w6) := ⟨HB5.out.trans (hc6.below HB5.out.size (fun x hx => by have h1 := hBP.out; simp at hx; omega))⟩
      clear hA6 hc6
      have tc := Dk.crash_any HA6.out (.slice none 0 0) [] (-1) 0 (ks_nil w6) (fun q hq => by simp [Value.ownBlock] at hq)
      have fin : ∀ G' : Int, (G' = 0 ∨ G' = 7 ∨ (G' = 6 ∧ ¬ (nl : Int) ≤ 100)) → G = G' → True := fun _ _ _ => trivial
      clear fin
      rcases hG with rfl | rfl | ⟨rfl, hnl⟩
      all_goals
        first | (have hnl' : ¬ (nl : Int) ≤ 100 := by omega) | skip
        go_upto_region 19 with (go_at_call 10; refine tc.mono ?_; rintro e w7 ⟨rfl, hA7, hc7⟩; clear tc)
        have HA7 : Hid (Dk.At w7 p g bm w.heap.size (Dk.crD D2 cr0)) := ⟨hA7⟩
        have HB7 : Hid (Below w.heap.size w w7) := ⟨HB6.out.trans (hc7.below HB6.out.size (fun x hx => by have h1 := hBP.out; simp at hx; omega))⟩
        clear hA7 hc7
        have tl := live_any (w := w7) (Dg.NibsAt.below HV.out HB7.out)
        have hncz : (0 : Int) < (nc : Int) := by have := HNC.out; omega
        go_wp2_with (first
          | (go_at_call 11; refine tl.mono ?_; rintro e w8 ⟨rfl, hb8⟩; clear tl; have HB78 : Hid (Below w7.heap.size w7 w8) := ⟨hb8⟩; clear hb8; have HB8 : Hid (Below w.heap.size w w8) := ⟨HB7.out.trans (HB78.out.mono HB7.out.size)⟩; have y0 : w8.cell? ⟨cb, co, none⟩ = some (.slice ak nk ck) := (HB8.out.cell (p := ⟨cb, co, none⟩) (World.block_lt_of_cell? _ _ HX0.out)).trans HX0.out; have y1 : w8.cell? ⟨cb, co + 1, none⟩ = some (.int .i64 torn) := (HB8.out.cell (p := ⟨cb, co + 1, none⟩) (World.block_lt_of_cell? _ _ HX1.out)).trans HX1.out; have y2 : w8.cell? ⟨cb, co + 2, none⟩ = some (.int .i64 at') := (HB8.out.cell (p := ⟨cb, co + 2, none⟩) (World.block_lt_of_cell? _ _ HX2.out)).trans HX2.out; have tq := torn_nil (w := w8) L nn rcap ao al last nl cl A tr ak nk ck ks torn at' (Dg.NibsAt.below HV.out HB8.out) HNN.out HLe.out (Oc.Bs.below HLast.out HB8.out) HLy.out hA Htr.out (Dk.Ks.below HKs.out HB8.out) (fun h0 z hz => Nat.lt_of_lt_of_le (HKb.out h0 z hz) HB8.out.size); rw [HL'.out, ← HWS.out, ← Hhd.out] at tq)
          | (go_at_call 12; refine tq.mono ?_; rintro e w9 ⟨rfl, hb9⟩; clear tq; have HB9 : Hid (Below w8.heap.size w8 w9) := ⟨hb9⟩; clear hb9))
        go_ret
        exact ⟨rfl, HB8.out.trans (HB9.out.mono HB8.out.size)⟩
    · have hjl : ¬ (j : Int) < (nn : Int) := by omega
      have hTk : Hid (L.take j = L.take 30) := ⟨by rw [List.take_of_length_le (by rw [HNN.out]; omega), List.take_of_length_le (by rw [HNN.out]; omega)]⟩
      clear hjN hjn hj
      rw [HL'.out] at hTk
      have HT : Hid (truns (L.take j) = truns L') := ⟨by rw [hTk.out]⟩
      have HA' : Hid (Dk.At wr p g bm w.heap.size (truns L').d) := ⟨by rw [← HT.out]; exact HAr.out⟩
      clear HAr HCr
      rw [HT.out]
      obtain ⟨WS, HWS⟩ : ∃ W, Hid (W = strOfNums (truns L').was) := ⟨_, ⟨rfl⟩⟩
      obtain ⟨hd, Hhd⟩ : ∃ h, Hid (h = (truns L').had) := ⟨_, ⟨rfl⟩⟩
      rw [← HWS.out, ← Hhd.out]
      have tt := Dk.trip_any HA'.out (tr : Int) (by omega)
      rw [(trip_ok HF.out.1.down (show (0 : Int) ≤ (tr : Int) by omega)).1, (trip_ok HF.out.1.down (show (0 : Int) ≤ (tr : Int) by omega)).2] at tt
      go_upto_region 15 with (go_at_call 9; first | rw [hAtr] | skip; refine tt.mono ?_; rintro e w5 ⟨rfl, hA5, hc5⟩; clear tt)
      have HA5 : Hid (Dk.At w5 p g bm w.heap.size (tripD (truns L').d (tr : Int))) := ⟨hA5⟩
      have HB5 : Hid (Below w.heap.size w w5) := ⟨HBr.out.trans (hc5.below HBr.out.size (fun x hx => by have h1 := hBP.out; simp at hx; omega))⟩
      have HC5 : Hid (CellAt w5 q p ((1 : Nat) : Int) (tripD (truns L').d (tr : Int)).life) := ⟨by rw [show (tripD (truns L').d (tr : Int)).life = 0 from HF.out.2.1]; exact CellAt.chg HC0.out HA'.out (hc5.mono (by simp))⟩
      clear hA5 hc5
      have ts := set_any HA5.out HC5.out HF.out.1.down (show 1 + 2 ≤ (truns L').d.S.length by rw [HF.out.1.len]; decide) (Dg.NibsAt.below HV.out HB5.out) _ last (Oc.Bs.below HLast.out HB5.out) HLy.out
      obtain ⟨G, HGe⟩ : ∃ G, Hid (stE (tripD (truns L').d (tr : Int)) 1 last = G) := ⟨_, ⟨rfl⟩⟩
      obtain ⟨D2, HD2⟩ : ∃ D, Hid (stD (tripD (truns L').d (tr : Int)) 1 last = D) := ⟨_, ⟨rfl⟩⟩
      rw [HGe.out, HD2.out] at ts
      have HOut := HOut0.out
      rw [HGe.out, HD2.out] at HOut
      have HO : Hid (Out G (truns L').had (truns L').was last (gt (sc0 (Dk.crD D2 cr0) 1) (sc0 (Dk.crD D2 cr0) 2)) ∧ D2.S.length = 3 ∧ D2.life = (truns L').d.life) := ⟨HOut⟩
      clear HOut HGe
      have hG : G = 0 ∨ G = 7 ∨ (G = 6 ∧ 100 < nl) := by
        rcases HO.out.1 with ⟨e, _⟩ | ⟨e, _⟩ | ⟨e, e2, _⟩
        · exact .inl e
        · exact .inr (.inl e)
        · exact .inr (.inr ⟨e, by rw [← HNL.out]; exact e2⟩)
      go_upto_region 16 with (go_at_call 8; refine ts.mono ?_; rintro e w6 ⟨rfl, hA6, hc6⟩; clear ts)
      have HA6 : Hid (Dk.At w6 p g bm w.heap.size D2) := ⟨hA6⟩
      have HB6 : Hid (Below w.heap.size w w6) := ⟨HB5.out.trans (hc6.below HB5.out.size (fun x hx => by have h1 := hBP.out; simp at hx; omega))⟩
      clear hA6 hc6
      have tc := Dk.crash_any HA6.out (.slice none 0 0) [] (-1) 0 (ks_nil w6) (fun q hq => by simp [Value.ownBlock] at hq)
      have fin : ∀ G' : Int, (G' = 0 ∨ G' = 7 ∨ (G' = 6 ∧ ¬ (nl : Int) ≤ 100)) → G = G' → True := fun _ _ _ => trivial
      clear fin
      rcases hG with rfl | rfl | ⟨rfl, hnl⟩
      all_goals
        first | (have hnl' : ¬ (nl : Int) ≤ 100 := by omega) | skip
        go_upto_region 19 with (go_at_call 10; refine tc.mono ?_; rintro e w7 ⟨rfl, hA7, hc7⟩; clear tc)
        have HA7 : Hid (Dk.At w7 p g bm w.heap.size (Dk.crD D2 cr0)) := ⟨hA7⟩
        have HB7 : Hid (Below w.heap.size w w7) := ⟨HB6.out.trans (hc7.below HB6.out.size (fun x hx => by have h1 := hBP.out; simp at hx; omega))⟩
        clear hA7 hc7
        have tl := live_any (w := w7) (Dg.NibsAt.below HV.out HB7.out)
        have hncz : (0 : Int) < (nc : Int) := by have := HNC.out; omega
        go_wp2_with (first
          | (go_at_call 11; refine tl.mono ?_; rintro e w8 ⟨rfl, hb8⟩; clear tl; have HB78 : Hid (Below w7.heap.size w7 w8) := ⟨hb8⟩; clear hb8; have HB8 : Hid (Below w.heap.size w w8) := ⟨HB7.out.trans (HB78.out.mono HB7.out.size)⟩; have y0 : w8.cell? ⟨cb, co, none⟩ = some (.slice ak nk ck) := (HB8.out.cell (p := ⟨cb, co, none⟩) (World.block_lt_of_cell? _ _ HX0.out)).trans HX0.out; have y1 : w8.cell? ⟨cb, co + 1, none⟩ = some (.int .i64 torn) := (HB8.out.cell (p := ⟨cb, co + 1, none⟩) (World.block_lt_of_cell? _ _ HX1.out)).trans HX1.out; have y2 : w8.cell? ⟨cb, co + 2, none⟩ = some (.int .i64 at') := (HB8.out.cell (p := ⟨cb, co + 2, none⟩) (World.block_lt_of_cell? _ _ HX2.out)).trans HX2.out; have tq := torn_nil (w := w8) L nn rcap ao al last nl cl A tr ak nk ck ks torn at' (Dg.NibsAt.below HV.out HB8.out) HNN.out HLe.out (Oc.Bs.below HLast.out HB8.out) HLy.out hA Htr.out (Dk.Ks.below HKs.out HB8.out) (fun h0 z hz => Nat.lt_of_lt_of_le (HKb.out h0 z hz) HB8.out.size); rw [HL'.out, ← HWS.out, ← Hhd.out] at tq)
          | (go_at_call 12; refine tq.mono ?_; rintro e w9 ⟨rfl, hb9⟩; clear tq; have HB9 : Hid (Below w8.heap.size w8 w9) := ⟨hb9⟩; clear hb9))
        go_ret
        exact ⟨rfl, HB8.out.trans (HB9.out.mono HB8.out.size)⟩
end
end Go.Proofs.YtgjjjkokmgdmjaaDoor
