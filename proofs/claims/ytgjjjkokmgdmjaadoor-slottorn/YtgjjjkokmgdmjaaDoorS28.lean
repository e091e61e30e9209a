/- SlotTorn: the walk. -/
import Derived.Test.YtgjjjkokmgdmjaaDoorS27
namespace Go.Proofs.YtgjjjkokmgdmjaaDoor
open Go.RowKit
section
variable {w : World}
set_option maxHeartbeats 16000000 in
set_option maxRecDepth 100000 in
theorem slotTorn_rn (L : List (List Int)) (nn rcap : Nat) (rb ro : Nat) (al : Option Addr) (last : List Int) (nl cl A tr nc ccap : Nat) (co : Option Addr) (hV : Vars w) (hnn : L.length = nn) (hrow : ∀ i, i < L.length → ∃ a n c, w.cell? ⟨rb, ro + i, none⟩ = some (.slice a n c) ∧ Oc.Bs w (.slice a n c) (L.getD i []) ∧ Dk.Byt (L.getD i [])) (hl : Oc.Bs w (.slice al nl cl) last) (hly : Dk.Byt last) (hnl : last.length = nl)
    (hA : A < 256) (htr : tr = A % 4) (hnc : nc = 0) :
    Calls Tryd.prog 3 #[.slice (some ⟨rb, ro, none⟩) nn rcap, .slice al nl cl, .int .u8 (A : Int), .slice co nc ccap] w fun e w' => e = .returned (.bool true) ∧ Below w.heap.size w w' := by
  have HV : Hid (Vars w) := ⟨hV⟩
  have HNN : Hid (L.length = nn) := ⟨hnn⟩
  have HROW := Dk.Hid.mk hrow
  have HLast : Hid (Oc.Bs w (.slice al nl cl) last) := ⟨hl⟩
  have HLy : Hid (Dk.Byt last) := ⟨hly⟩
  have HNL : Hid (last.length = nl) := ⟨hnl⟩
  have Htr : Hid (tr = A % 4) := ⟨htr⟩
  have HNC : Hid (nc = 0) := ⟨hnc⟩
  have htr4 : tr < 4 := by omega
  have hAtr : ((A : Int) % 4) = (tr : Int) := by omega
  obtain ⟨L', HL'⟩ : ∃ L', Hid (L.take 30 = L') := ⟨_, ⟨rfl⟩⟩
  obtain ⟨LS, HLS⟩ : ∃ l, Hid (strOfNums last = l) := ⟨_, ⟨rfl⟩⟩
  have HF : Hid (Fine (truns L').d 3 ∧ (truns L').d.life = 0 ∧ ∃ m, m ≤ L'.length ∧ Cel (sc0 (truns L').d 1) (sc0 (truns L').d 2) m (truns L').was (truns L').had) := ⟨truns_ok L' (by rw [← HL'.out, List.length_take]; omega)⟩
  have HOut0 : Hid (Out (stE (tripD (truns L').d (tr : Int)) 1 last) (truns L').had (truns L').was last (gt (sc0 (Dk.crD (stD (tripD (truns L').d (tr : Int)) 1 last) cr0) 1) (sc0 (Dk.crD (stD (tripD (truns L').d (tr : Int)) 1 last) cr0) 2)) ∧ (stD (tripD (truns L').d (tr : Int)) 1 last).S.length = 3 ∧ (stD (tripD (truns L').d (tr : Int)) 1 last).life = (truns L').d.life) := ⟨by
    obtain ⟨q1, q2, m, q3, q4⟩ := HF.out
    exact last_out q1 q4 (by have : L'.length ≤ 30 := by rw [← HL'.out, List.length_take]; omega
                             omega) tr htr4 _⟩
  clear hV hnn hrow hl hly htr hnl hnc
  have t1 := Dk.newdisk_any 3 w (by decide) (by decide)
  go_enter Tryd.func3, Tryd.ntmps3
  go_upto_region 4 with (go_at_call 6; refine t1.mono ?_; rintro e w2 hN; obtain ⟨p, g, bm, rfl, hA2, hb2⟩ := hN; clear t1)
  have HB2 : Hid (Below w.heap.size w w2) := ⟨hb2⟩
  have HA2 : Hid (Dk.At w2 p g bm w.heap.size (Dk.newD 3)) := ⟨hA2⟩
  have t2 := open_good (bs := 1) hA2 (opn_new 3 1 (by decide))
  clear hA2 hb2
  go_upto_region 7 with (go_at_call 7; refine t2.mono ?_; rintro e w3 ⟨rfl, hC3, hb3⟩; clear t2)
  obtain ⟨q, Hq⟩ : ∃ q, Hid (w2.heap.size = q) := ⟨_, ⟨rfl⟩⟩
  rw [Hq.out] at hC3 ⊢
  have HB23 : Hid (Below w2.heap.size w2 w3) := ⟨hb3⟩
  have HC3 : Hid (CellAt w3 q p ((1 : Nat) : Int) 0) := ⟨hC3⟩
  have HB3 : Hid (Below w.heap.size w w3) := ⟨HB2.out.trans (HB23.out.mono HB2.out.size)⟩
  have HA3 : Hid (Dk.At w3 p g bm w.heap.size (truns (L.take 0)).d) := ⟨HA2.out.below HB23.out⟩
  have hBP : Hid (w.heap.size ≤ p ∧ w.heap.size ≤ g ∧ w.heap.size ≤ bm) := ⟨At.bp HA3.out⟩
  clear hC3 hb3
  go_wp2_with fail
  go_loopw [13, 14, 15] (fun s t i wr => ∃ j : Nat, j ≤ min nn 30 ∧ i = .int .i64 (j : Int) ∧ s = .string (strOfNums (truns (L.take j)).was) ∧ t = .bool (truns (L.take j)).had ∧ Hid (Dk.At wr p g bm w.heap.size (truns (L.take j)).d) ∧ Hid (CellAt wr q p ((1 : Nat) : Int) 0) ∧ Hid (Below w.heap.size w wr)) (fun _ _ i _ => 30 - (intOf i).toNat)
  case atStart => exact ⟨0, Nat.zero_le _, rfl, str_nil, rfl, HA3, HC3, HB3⟩
  case round =>
    obtain ⟨j, hj, rfl, rfl, rfl, HAr, HC0, HBr⟩ := hrel
    have HFr : Hid (Fine (truns (L.take j)).d 3 ∧ (truns (L.take j)).d.life = 0) := ⟨by have q := truns_ok (L.take j) (by rw [List.length_take]; omega); exact ⟨q.1, q.2.1⟩⟩
    have HCr : Hid (CellAt wr q p ((1 : Nat) : Int) (truns (L.take j)).d.life) := ⟨by rw [HFr.out.2]; exact HC0.out⟩
    by_cases hjN : j < nn ∧ j < 30
    · obtain ⟨hjn, hj3⟩ := hjN
      obtain ⟨ea, en, ec, hcell, hbs, hby⟩ := HROW.out j (by rw [HNN.out]; exact hjn)
      have hcell' : wr.cell? ⟨rb, ro + j, none⟩ = some (.slice ea en ec) := (HBr.out.cell (p := ⟨rb, ro + j, none⟩) (World.block_lt_of_cell? _ _ hcell)).trans hcell
      have HBs : Hid (Oc.Bs w (.slice ea en ec) (L.getD j [])) := ⟨hbs⟩
      have HCl : Hid (w.cell? ⟨rb, ro + j, none⟩ = some (.slice ea en ec)) := ⟨hcell⟩
      have ts := set_any HAr.out HCr.out HFr.out.1.down (by rw [HFr.out.1.len]; decide) (Dg.NibsAt.below HV.out HBr.out) _ _ (Oc.Bs.below hbs HBr.out) hby
      have HTn : Hid (truns (L.take (j + 1)) = tstep (truns (L.take j)) (L.getD j [])) := ⟨by rw [take_snoc' (by rw [HNN.out]; exact hjn), truns_snoc]⟩
      have htst := truns_set (L.take j) (by rw [List.length_take]; omega) (L.getD j [])
      rw [htst.1, htst.2, ← HTn.out] at ts
      clear hcell hbs hby htst
      have hjl : (j : Int) < (nn : Int) := by omega
      have hj30 : (j : Int) < 30 := by omega
      obtain ⟨WS, HWS⟩ : ∃ W, Hid (W = strOfNums (truns (L.take j)).was) := ⟨_, ⟨rfl⟩⟩
      obtain ⟨hd, Hhd⟩ : ∃ h, Hid (h = (truns (L.take j)).had) := ⟨_, ⟨rfl⟩⟩
      rw [← HWS.out, ← Hhd.out]
      by_cases hlg : 100 < (L.getD j []).length
      · rw [if_pos hlg] at ts
        have HE1 : Hid (WS = strOfNums (truns (L.take (j + 1))).was ∧ hd = (truns (L.take (j + 1))).had) := ⟨by rw [HTn.out]; unfold tstep; rw [if_pos hlg]; exact ⟨HWS.out, Hhd.out⟩⟩
        clear hlg
        go_upto_region 10 with (go_at_call 8; refine ts.mono ?_; rintro e w5 ⟨rfl, hA5, hc5⟩; clear ts; have HA5 : Hid (Dk.At w5 p g bm w.heap.size (truns (L.take (j + 1))).d) := ⟨hA5⟩; have HB5 : Hid (Below w.heap.size w w5) := ⟨HBr.out.trans (hc5.below HBr.out.size (fun x hx => by have h1 := hBP.out; simp at hx; omega))⟩; have HC5 : Hid (CellAt w5 q p ((1 : Nat) : Int) 0) := ⟨CellAt.chg HC0.out HAr.out hc5⟩; clear hA5 hc5)
        go_wp2_with fail
        go_roundw
        case rel => exact ⟨j + 1, by omega, by go_num, by rw [← HE1.out.1], by rw [← HE1.out.2], HA5, HC5, HB5⟩
        case measure => simp [intOf]; omega
      · rw [if_neg hlg] at ts
        have HE1 : Hid ((truns (L.take (j + 1))).was = L.getD j [] ∧ (truns (L.take (j + 1))).had = true) := ⟨by rw [HTn.out]; unfold tstep; rw [if_neg hlg]; exact ⟨rfl, rfl⟩⟩
        clear hlg
        go_upto_region 12 with (go_at_call 8; refine ts.mono ?_; rintro e w5 ⟨rfl, hA5, hc5⟩; clear ts; have HA5 : Hid (Dk.At w5 p g bm w.heap.size (truns (L.take (j + 1))).d) := ⟨hA5⟩; have HB5 : Hid (Below w.heap.size w w5) := ⟨HBr.out.trans (hc5.below HBr.out.size (fun x hx => by have h1 := hBP.out; simp at hx; omega))⟩; have HC5 : Hid (CellAt w5 q p ((1 : Nat) : Int) 0) := ⟨CellAt.chg HC0.out HAr.out hc5⟩; clear hA5 hc5)
        have hcell5 : w5.cell? ⟨rb, ro + j, none⟩ = some (.slice ea en ec) := (HB5.out.cell (p := ⟨rb, ro + j, none⟩) (World.block_lt_of_cell? _ _ HCl.out)).trans HCl.out
        have s5 := Oc.run_str Tryd.bt (Oc.Bs.below HBs.out HB5.out) 9 Tryd.underlying9
        obtain ⟨TS, HTS⟩ : ∃ T, Hid (strOfNums (L.getD j []) = T) := ⟨_, ⟨rfl⟩⟩
        rw [HTS.out] at s5
        go_wp2_with fail
        go_roundw
        case rel => exact ⟨j + 1, by omega, by go_num, by rw [HE1.out.1, HTS.out], by rw [HE1.out.2], HA5, HC5, HB5⟩
        case measure => simp [intOf]; omega
    by_cases hjn : j < nn
    · have hj30 : j = 30 := by omega
      have hjl : (j : Int) < (nn : Int) := by omega
      have hj3 : ¬ (j : Int) < 30 := by omega
      have hTk : Hid (L.take j = L.take 30) := ⟨by rw [hj30]⟩
      clear hjN hjn hj30 hj
      rw [HL'.out] at hTk
      have HT : Hid (truns (L.take j) = truns L') := ⟨by rw [hTk.out]⟩
      have HA' : Hid (Dk.At wr p g bm w.heap.size (truns L').d) := ⟨by rw [← HT.out]; exact HAr.out⟩
      clear HAr HCr
      rw [HT.out]
      obtain ⟨WS, HWS⟩ : ∃ W, Hid (W = strOfNums (truns L').was) := ⟨_, ⟨rfl⟩⟩
      obtain ⟨hd, Hhd⟩ : ∃ h, Hid (h = (truns L').had) := ⟨_, ⟨rfl⟩⟩
      rw [← HWS.out, ← Hhd.out]
      have tt := Dk.trip_any HA'.out (tr : Int) (by omega)
      rw [(trip_ok HF.out.1.down (show (0 : Int) ≤ (tr : Int) by omega)).1, (trip_ok HF.out.1.down (show (0 : Int) ≤ (tr : Int) by omega)).2] at tt
      go_upto_region 15 with (go_at_call 9; first | rw [hAtr] | skip; refine tt.mono ?_; rintro e w5 ⟨rfl, hA5, hc5⟩; clear tt)
      have HA5 : Hid (Dk.At w5 p g bm w.heap.size (tripD (truns L').d (tr : Int))) := ⟨hA5⟩
      have HB5 : Hid (Below w.heap.size w w5) := ⟨HBr.out.trans (hc5.below HBr.out.size (fun x hx => by have h1 := hBP.out; simp at hx; omega))⟩
      have HC5 : Hid (CellAt w5 q p ((1 : Nat) : Int) (tripD (truns L').d (tr : Int)).life) := ⟨by rw [show (tripD (truns L').d (tr : Int)).life = 0 from HF.out.2.1]; exact CellAt.chg HC0.out HA'.out (hc5.mono (by simp))⟩
      clear hA5 hc5
      have ts := set_any HA5.out HC5.out HF.out.1.down (show 1 + 2 ≤ (truns L').d.S.length by rw [HF.out.1.len]; decide) (Dg.NibsAt.below HV.out HB5.out) _ last (Oc.Bs.below HLast.out HB5.out) HLy.out
      obtain ⟨G, HGe⟩ : ∃ G, Hid (stE (tripD (truns L').d (tr : Int)) 1 last = G) := ⟨_, ⟨rfl⟩⟩
      obtain ⟨D2, HD2⟩ : ∃ D, Hid (stD (tripD (truns L').d (tr : Int)) 1 last = D) := ⟨_, ⟨rfl⟩⟩
      rw [HGe.out, HD2.out] at ts
      have HOut := HOut0.out
      rw [HGe.out, HD2.out] at HOut
      have HO : Hid (Out G (truns L').had (truns L').was last (gt (sc0 (Dk.crD D2 cr0) 1) (sc0 (Dk.crD D2 cr0) 2)) ∧ D2.S.length = 3 ∧ D2.life = (truns L').d.life) := ⟨HOut⟩
      clear HOut HGe
      have hG : G = 0 ∨ G = 7 ∨ (G = 6 ∧ 100 < nl) := by
        rcases HO.out.1 with ⟨e, _⟩ | ⟨e, _⟩ | ⟨e, e2, _⟩
        · exact .inl e
        · exact .inr (.inl e)
        · exact .inr (.inr ⟨e, by rw [← HNL.out]; exact e2⟩)
      go_upto_region 16 with (go_at_call 8; refine ts.mono ?_; rintro e w6 ⟨rfl, hA6, hc6⟩; clear ts)
      have HA6 : Hid (Dk.At w6 p g bm w.heap.size D2) := ⟨hA6⟩
      have HB6 : Hid (Below w.heap.size w w6) := ⟨HB5.out.trans (hc6.below HB5.out.size (fun x hx => by have h1 := hBP.out; simp at hx; omega))⟩
      clear hA6 hc6
      have tc := Dk.crash_any HA6.out (.slice none 0 0) [] (-1) 0 (ks_nil w6) (fun q hq => by simp [Value.ownBlock] at hq)
      have fin : ∀ G' : Int, (G' = 0 ∨ G' = 7 ∨ (G' = 6 ∧ ¬ (nl : Int) ≤ 100)) → G = G' → True := fun _ _ _ => trivial
      clear fin
      rcases hG with rfl | rfl | ⟨rfl, hnl⟩
      all_goals
        first | (have hnl' : ¬ (nl : Int) ≤ 100 := by omega) | skip
        go_upto_region 19 with (go_at_call 10; refine tc.mono ?_; rintro e w7 ⟨rfl, hA7, hc7⟩; clear tc)
        have HA7 : Hid (Dk.At w7 p g bm w.heap.size (Dk.crD D2 cr0)) := ⟨hA7⟩
        have HB7 : Hid (Below w.heap.size w w7) := ⟨HB6.out.trans (hc7.below HB6.out.size (fun x hx => by have h1 := hBP.out; simp at hx; omega))⟩
        clear hA7 hc7
        have tl := live_any (w := w7) (Dg.NibsAt.below HV.out HB7.out)
        have hncz : ¬ (0 : Int) < (nc : Int) := by have := HNC.out; omega
        go_wp2_with (first
          | (go_at_call 11; refine tl.mono ?_; rintro e w8 ⟨rfl, hb8⟩; clear tl; have HB78 : Hid (Below w7.heap.size w7 w8) := ⟨hb8⟩; clear hb8; have HB8 : Hid (Below w.heap.size w w8) := ⟨HB7.out.trans (HB78.out.mono HB7.out.size)⟩; have s8 := Oc.run_str Tryd.bt (Oc.Bs.below HLast.out HB8.out) 9 Tryd.underlying9; have hoo := out_tl HO.out.1; have tq := tells_c (HA7.out.below HB78.out) (crD_facts D2 cr0).1 (by rw [(crD_facts D2 cr0).2.1, HO.out.2.1]) (Dg.NibsAt.below HV.out HB8.out) _ _ _ (strOfNums last) (strOfNums (truns L').was) (truns L').had _ _ rfl rfl rfl hoo.2.2 hoo.1 hoo.2.1; clear hoo; rw [HLS.out] at s8; rw [← HWS.out, ← Hhd.out, HLS.out] at tq)
          | (go_at_call 13; refine tq.mono ?_; rintro e w9 ⟨rfl, hb9⟩; clear tq; have HB9 : Hid (Below w8.heap.size w8 w9) := ⟨hb9⟩; clear hb9))
        go_ret
        exact ⟨rfl, HB8.out.trans (HB9.out.mono HB8.out.size)⟩
    · have hjl : ¬ (j : Int) < (nn : Int) := by omega
      have hTk : Hid (L.take j = L.take 30) := ⟨by rw [List.take_of_length_le (by rw [HNN.out]; omega), List.take_of_length_le (by rw [HNN.out]; omega)]⟩
      clear hjN hjn hj
      rw [HL'.out] at hTk
      have HT : Hid (truns (L.take j) = truns L') := ⟨by rw [hTk.out]⟩
      have HA' : Hid (Dk.At wr p g bm w.heap.size (truns L').d) := ⟨by rw [← HT.out]; exact HAr.out⟩
      clear HAr HCr
      rw [HT.out]
      obtain ⟨WS, HWS⟩ : ∃ W, Hid (W = strOfNums (truns L').was) := ⟨_, ⟨rfl⟩⟩
      obtain ⟨hd, Hhd⟩ : ∃ h, Hid (h = (truns L').had) := ⟨_, ⟨rfl⟩⟩
      rw [← HWS.out, ← Hhd.out]
      have tt := Dk.trip_any HA'.out (tr : Int) (by omega)
      rw [(trip_ok HF.out.1.down (show (0 : Int) ≤ (tr : Int) by omega)).1, (trip_ok HF.out.1.down (show (0 : Int) ≤ (tr : Int) by omega)).2] at tt
      go_upto_region 15 with (go_at_call 9; first | rw [hAtr] | skip; refine tt.mono ?_; rintro e w5 ⟨rfl, hA5, hc5⟩; clear tt)
      have HA5 : Hid (Dk.At w5 p g bm w.heap.size (tripD (truns L').d (tr : Int))) := ⟨hA5⟩
      have HB5 : Hid (Below w.heap.size w w5) := ⟨HBr.out.trans (hc5.below HBr.out.size (fun x hx => by have h1 := hBP.out; simp at hx; omega))⟩
      have HC5 : Hid (CellAt w5 q p ((1 : Nat) : Int) (tripD (truns L').d (tr : Int)).life) := ⟨by rw [show (tripD (truns L').d (tr : Int)).life = 0 from HF.out.2.1]; exact CellAt.chg HC0.out HA'.out (hc5.mono (by simp))⟩
      clear hA5 hc5
      have ts := set_any HA5.out HC5.out HF.out.1.down (show 1 + 2 ≤ (truns L').d.S.length by rw [HF.out.1.len]; decide) (Dg.NibsAt.below HV.out HB5.out) _ last (Oc.Bs.below HLast.out HB5.out) HLy.out
      obtain ⟨G, HGe⟩ : ∃ G, Hid (stE (tripD (truns L').d (tr : Int)) 1 last = G) := ⟨_, ⟨rfl⟩⟩
      obtain ⟨D2, HD2⟩ : ∃ D, Hid (stD (tripD (truns L').d (tr : Int)) 1 last = D) := ⟨_, ⟨rfl⟩⟩
      rw [HGe.out, HD2.out] at ts
      have HOut := HOut0.out
      rw [HGe.out, HD2.out] at HOut
      have HO : Hid (Out G (truns L').had (truns L').was last (gt (sc0 (Dk.crD D2 cr0) 1) (sc0 (Dk.crD D2 cr0) 2)) ∧ D2.S.length = 3 ∧ D2.life = (truns L').d.life) := ⟨HOut⟩
      clear HOut HGe
      have hG : G = 0 ∨ G = 7 ∨ (G = 6 ∧ 100 < nl) := by
        rcases HO.out.1 with ⟨e, _⟩ | ⟨e, _⟩ | ⟨e, e2, _⟩
        · exact .inl e
        · exact .inr (.inl e)
        · exact .inr (.inr ⟨e, by rw [← HNL.out]; exact e2⟩)
      go_upto_region 16 with (go_at_call 8; refine ts.mono ?_; rintro e w6 ⟨rfl, hA6, hc6⟩; clear ts)
      have HA6 : Hid (Dk.At w6 p g bm w.heap.size D2) := ⟨hA6⟩
      have HB6 : Hid (Below w.heap.size w w6) := ⟨HB5.out.trans (hc6.below HB5.out.size (fun x hx => by have h1 := hBP.out; simp at hx; omega))⟩
      clear hA6 hc6
      have tc := Dk.crash_any HA6.out (.slice none 0 0) [] (-1) 0 (ks_nil w6) (fun q hq => by simp [Value.ownBlock] at hq)
      have fin : ∀ G' : Int, (G' = 0 ∨ G' = 7 ∨ (G' = 6 ∧ ¬ (nl : Int) ≤ 100)) → G = G' → True := fun _ _ _ => trivial
      clear fin
      rcases hG with rfl | rfl | ⟨rfl, hnl⟩
      all_goals
        first | (have hnl' : ¬ (nl : Int) ≤ 100 := by omega) | skip
        go_upto_region 19 with (go_at_call 10; refine tc.mono ?_; rintro e w7 ⟨rfl, hA7, hc7⟩; clear tc)
        have HA7 : Hid (Dk.At w7 p g bm w.heap.size (Dk.crD D2 cr0)) := ⟨hA7⟩
        have HB7 : Hid (Below w.heap.size w w7) := ⟨HB6.out.trans (hc7.below HB6.out.size (fun x hx => by have h1 := hBP.out; simp at hx; omega))⟩
        clear hA7 hc7
        have tl := live_any (w := w7) (Dg.NibsAt.below HV.out HB7.out)
        have hncz : ¬ (0 : Int) < (nc : Int) := by have := HNC.out; omega
        go_wp2_with (first
          | (go_at_call 11; refine tl.mono ?_; rintro e w8 ⟨rfl, hb8⟩; clear tl; have HB78 : Hid (Below w7.heap.size w7 w8) := ⟨hb8⟩; clear hb8; have HB8 : Hid (Below w.heap.size w w8) := ⟨HB7.out.trans (HB78.out.mono HB7.out.size)⟩; have s8 := Oc.run_str Tryd.bt (Oc.Bs.below HLast.out HB8.out) 9 Tryd.underlying9; have hoo := out_tl HO.out.1; have tq := tells_c (HA7.out.below HB78.out) (crD_facts D2 cr0).1 (by rw [(crD_facts D2 cr0).2.1, HO.out.2.1]) (Dg.NibsAt.below HV.out HB8.out) _ _ _ (strOfNums last) (strOfNums (truns L').was) (truns L').had _ _ rfl rfl rfl hoo.2.2 hoo.1 hoo.2.1; clear hoo; rw [HLS.out] at s8; rw [← HWS.out, ← Hhd.out, HLS.out] at tq)
          | (go_at_call 13; refine tq.mono ?_; rintro e w9 ⟨rfl, hb9⟩; clear tq; have HB9 : Hid (Below w8.heap.size w8 w9) := ⟨hb9⟩; clear hb9))
        go_ret
        exact ⟨rfl, HB8.out.trans (HB9.out.mono HB8.out.size)⟩
end
end Go.Proofs.YtgjjjkokmgdmjaaDoor
