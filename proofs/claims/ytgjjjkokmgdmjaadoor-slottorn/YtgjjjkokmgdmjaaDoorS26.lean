/- SlotTorn: a cell, and a crash that keeps some. -/
import Derived.Test.YtgjjjkokmgdmjaaDoorS25
namespace Go.Proofs.YtgjjjkokmgdmjaaDoor
open Go.RowKit
theorem info37 : (Tryd.prog.info? 37).map (·.size) = some 3 := by kernel_rfl
theorem take_snoc' {L : List (List Int)} {j : Nat} (h : j < L.length) : L.take (j + 1) = L.take j ++ [L.getD j []] := by
  rw [List.take_succ_eq_append_getElem h]
  simp [List.getD, List.getElem?_eq_getElem h]
theorem out_tl {G : Int} {had : Bool} {was last : List Int} {r : Int × List Int} (h : Out G had was last r) : (r.1 = 0 ∨ r.1 = 9 ∨ r.1 = 13) ∧ (G = 0 ∨ G = 7 ∨ G = 6) ∧ tlB r.1 G had ((strOfNums r.2).toList == (strOfNums was).toList) ((strOfNums r.2).toList == (strOfNums last).toList) = true := by
  rcases h with ⟨rfl, rfl⟩ | ⟨rfl, h⟩ | ⟨rfl, _, h⟩
  · exact ⟨.inl rfl, .inl rfl, by simp [tlB]⟩
  · refine ⟨?_, .inr (.inl rfl), ?_⟩
    · rcases h with ⟨_, rfl⟩ | ⟨_, rfl | rfl⟩ | rfl <;> simp
    · rcases h with ⟨rfl, rfl⟩ | ⟨rfl, rfl | rfl⟩ | rfl <;> simp [tlB]
  · refine ⟨?_, .inr (.inr rfl), ?_⟩
    · rcases h with ⟨_, rfl⟩ | ⟨_, rfl⟩ <;> simp
    · rcases h with ⟨rfl, rfl⟩ | ⟨rfl, rfl⟩ <;> simp [tlB]
section
variable {w : World}
set_option maxHeartbeats 16000000 in
set_option maxRecDepth 100000 in
theorem torn_row (L : List (List Int)) (nn rcap : Nat) (rb ro : Nat) (al : Option Addr) (last : List Int) (nl cl A tr : Nat) (ak : Option Addr) (nk ck : Nat) (ks : List Bool) (torn at' : Int) (hV : Vars w) (hnn : L.length = nn) (hrow : ∀ i, i < L.length → ∃ a n c, w.cell? ⟨rb, ro + i, none⟩ = some (.slice a n c) ∧ Oc.Bs w (.slice a n c) (L.getD i []) ∧ Dk.Byt (L.getD i [])) (hl : Oc.Bs w (.slice al nl cl) last) (hly : Dk.Byt last)
    (hA : A < 256) (htr : tr = A % 4) (hks : Dk.Ks w (.slice ak nk ck) ks) (hkb : 0 < ks.length → ∀ z, (Value.slice ak nk ck).ownBlock = some z → z < w.heap.size) :
    Calls Tryd.prog 12 #[.slice (some ⟨rb, ro, none⟩) nn rcap, .slice al nl cl, .int .u8 (A : Int), .agg #[.slice ak nk ck, .int .i64 torn, .int .i64 at'], .string (strOfNums (truns (L.take 30)).was), .bool (truns (L.take 30)).had] w fun e w' => e = .returned (.bool true) ∧ Below w.heap.size w w' := by
  have HV : Hid (Vars w) := ⟨hV⟩
  have HNN : Hid (L.length = nn) := ⟨hnn⟩
  have HROW := Dk.Hid.mk hrow
  have HLast : Hid (Oc.Bs w (.slice al nl cl) last) := ⟨hl⟩
  have HLy : Hid (Dk.Byt last) := ⟨hly⟩
  have HKs : Hid (Dk.Ks w (.slice ak nk ck) ks) := ⟨hks⟩
  have HKb := Dk.Hid.mk hkb
  have htr4 : tr < 4 := by omega
  have hAtr : ((A : Int) % 4) = (tr : Int) := by omega
  obtain ⟨L', HL'⟩ : ∃ L', Hid (L.take 30 = L') := ⟨_, ⟨rfl⟩⟩
  rw [HL'.out]
  obtain ⟨WS, HWS⟩ : ∃ W, Hid (strOfNums (truns L').was = W) := ⟨_, ⟨rfl⟩⟩
  obtain ⟨hd, Hhd⟩ : ∃ h, Hid ((truns L').had = h) := ⟨_, ⟨rfl⟩⟩
  rw [HWS.out, Hhd.out]
  have HF : Hid (Fine (truns L').d 3 ∧ (truns L').d.life = 0 ∧ ∃ m, m ≤ L'.length ∧ Cel (sc0 (truns L').d 1) (sc0 (truns L').d 2) m (truns L').was (truns L').had) := ⟨truns_ok L' (by rw [← HL'.out, List.length_take]; omega)⟩
  have HOut0 : Hid (Out (stE (tripD (truns L').d (tr : Int)) 1 last) (truns L').had (truns L').was last (gt (sc0 (Dk.crD (stD (tripD (truns L').d (tr : Int)) 1 last) ⟨ks, torn, at'⟩) 1) (sc0 (Dk.crD (stD (tripD (truns L').d (tr : Int)) 1 last) ⟨ks, torn, at'⟩) 2)) ∧ (stD (tripD (truns L').d (tr : Int)) 1 last).S.length = 3 ∧ (stD (tripD (truns L').d (tr : Int)) 1 last).life = (truns L').d.life) := ⟨by
    obtain ⟨q1, q2, m, q3, q4⟩ := HF.out
    exact last_out q1 q4 (by have : L'.length ≤ 30 := by rw [← HL'.out, List.length_take]; omega
                             omega) tr htr4 _⟩
  clear hV hnn hrow hl hly htr hks hkb
  obtain ⟨xb, Hxb⟩ : ∃ q, Hid (w.heap.size = q) := ⟨_, ⟨rfl⟩⟩
  obtain ⟨w1, Hw1⟩ : ∃ x, Hid (w.alloc (.cells #[.slice ak nk ck, .int .i64 torn, .int .i64 at'] 37) = x) := ⟨_, ⟨rfl⟩⟩
  have HX1 : Hid (w1.heap[xb]? = some (.cells #[.slice ak nk ck, .int .i64 torn, .int .i64 at'] 37 (0, 0))) := ⟨by rw [← Hw1.out, ← Hxb.out]; exact heap_alloc_new w _⟩
  have HX1lt : Hid (xb < w1.heap.size) := ⟨(Array.getElem?_eq_some_iff.1 HX1.out).1⟩
  have HB1 : Hid (Below w.heap.size w w1) := ⟨by rw [← Hw1.out]; exact (Below.refl _ w).alloc (Nat.le_refl _) _⟩
  have t1 := Dk.newdisk_any 3 w1 (by decide) (by decide)
  go_enter Tryd.func12, Tryd.ntmps12
  go_upto_region 1 with fail
  rw [Hw1.out]
  first | rw [Hxb.out] | skip
  go_upto_region 4 with (go_at_call 6; refine t1.mono ?_; rintro e w2 hN; obtain ⟨p, g, bm, rfl, hA2, hb2⟩ := hN; clear t1)
  have HB12 : Hid (Below w1.heap.size w1 w2) := ⟨hb2⟩
  have HA2 : Hid (Dk.At w2 p g bm w1.heap.size (Dk.newD 3)) := ⟨hA2⟩
  have HB2 : Hid (Below w.heap.size w w2) := ⟨HB1.out.trans (HB12.out.mono HB1.out.size)⟩
  have t2 := open_good (bs := 1) hA2 (opn_new 3 1 (by decide))
  clear hA2 hb2
  go_upto_region 7 with (go_at_call 7; refine t2.mono ?_; rintro e w3 ⟨rfl, hC3, hb3⟩; clear t2)
  obtain ⟨q, Hq⟩ : ∃ q, Hid (w2.heap.size = q) := ⟨_, ⟨rfl⟩⟩
  rw [Hq.out] at hC3 ⊢
  have HB23 : Hid (Below w2.heap.size w2 w3) := ⟨hb3⟩
  have HC3 : Hid (CellAt w3 q p ((1 : Nat) : Int) 0) := ⟨hC3⟩
  have HB3 : Hid (Below w.heap.size w w3) := ⟨HB2.out.trans (HB23.out.mono HB2.out.size)⟩
  have HA3 : Hid (Dk.At w3 p g bm w1.heap.size (truns (L.take 0)).d) := ⟨HA2.out.below HB23.out⟩
  have HX3 : Hid (w3.heap[xb]? = some (.cells #[.slice ak nk ck, .int .i64 torn, .int .i64 at'] 37 (0, 0))) := ⟨(HB23.out.block xb (Nat.lt_of_lt_of_le HX1lt.out HB12.out.size)).trans ((HB12.out.block xb HX1lt.out).trans HX1.out)⟩
  have hBP : Hid (w1.heap.size ≤ p ∧ w1.heap.size ≤ g ∧ w1.heap.size ≤ bm) := ⟨At.bp HA3.out⟩
  clear hC3 hb3
  go_wp2_with fail
  go_loopw [17] (fun i wr => ∃ j : Nat, j ≤ min nn 30 ∧ i = .int .i64 (j : Int) ∧ Hid (Dk.At wr p g bm w1.heap.size (truns (L.take j)).d) ∧ Hid (CellAt wr q p ((1 : Nat) : Int) 0) ∧ Hid (wr.heap[xb]? = some (.cells #[.slice ak nk ck, .int .i64 torn, .int .i64 at'] 37 (0, 0))) ∧ Hid (Below w.heap.size w wr)) (fun i _ => 30 - (intOf i).toNat)
  case atStart => exact ⟨0, Nat.zero_le _, rfl, HA3, HC3, HX3, HB3⟩
  case round =>
    obtain ⟨j, hj, rfl, HAr, HC0, HXr, HBr⟩ := hrel
    have HFr : Hid (Fine (truns (L.take j)).d 3 ∧ (truns (L.take j)).d.life = 0) := ⟨by have q := truns_ok (L.take j) (by rw [List.length_take]; omega); exact ⟨q.1, q.2.1⟩⟩
    have HCr : Hid (CellAt wr q p ((1 : Nat) : Int) (truns (L.take j)).d.life) := ⟨by rw [HFr.out.2]; exact HC0.out⟩
    by_cases hjN : j < nn ∧ j < 30
    · obtain ⟨hjn, hj3⟩ := hjN
      revert hjn hj3
      intro hjn hj3
      skip
      obtain ⟨ea, en, ec, hcell, hbs, hby⟩ := HROW.out j (by rw [HNN.out]; exact hjn)
      have hcell' : wr.cell? ⟨rb, ro + j, none⟩ = some (.slice ea en ec) := (HBr.out.cell (p := ⟨rb, ro + j, none⟩) (World.block_lt_of_cell? _ _ hcell)).trans hcell
      have ts := set_any HAr.out HCr.out HFr.out.1.down (by rw [HFr.out.1.len]; decide) (Dg.NibsAt.below HV.out HBr.out) _ _ (Oc.Bs.below hbs HBr.out) hby
      have HTn : Hid (stD (truns (L.take j)).d 1 (L.getD j []) = (truns (L.take (j + 1))).d) := ⟨by rw [take_snoc' (by rw [HNN.out]; exact hjn), truns_snoc]; exact (truns_set _ (by rw [List.length_take]; omega) _).2⟩
      rw [HTn.out] at ts
      clear hcell hbs hby
      have hjl : (j : Int) < (nn : Int) := by omega
      have hj30 : (j : Int) < 30 := by omega
      go_upto_region 9 with (go_at_call 8; refine ts.mono ?_; rintro e w5 ⟨rfl, hA5, hc5⟩; clear ts)
      have HA5 : Hid (Dk.At w5 p g bm w1.heap.size (truns (L.take (j + 1))).d) := ⟨hA5⟩
      have HB5 : Hid (Below w.heap.size w w5) := ⟨HBr.out.trans (hc5.below HBr.out.size (fun x hx => by have h1 := hBP.out; have h2 := HB1.out.size; simp at hx; omega))⟩
      have HC5 : Hid (CellAt w5 q p ((1 : Nat) : Int) 0) := ⟨CellAt.chg HC0.out HAr.out hc5⟩
      have HX5 : Hid (w5.heap[xb]? = some (.cells #[.slice ak nk ck, .int .i64 torn, .int .i64 at'] 37 (0, 0))) := ⟨(hc5.block xb (Array.getElem?_eq_some_iff.1 HXr.out).1 (by have h1 := hBP.out; have h2 := HX1lt.out; simp; omega)).trans HXr.out⟩
      clear hA5 hc5
      go_wp2_with fail
      go_roundw
      case rel => exact ⟨j + 1, by omega, by go_num, HA5, HC5, HX5, HB5⟩
      case measure => simp [intOf]; omega
    by_cases hjn : j < nn
    · have hj30 : j = 30 := by omega
      have hjl : (j : Int) < (nn : Int) := by omega
      have hj3 : ¬ (j : Int) < 30 := by omega
      have hTk : Hid (L.take j = L.take 30) := ⟨by rw [hj30]⟩
      clear hjN hjn hj30 hj
      rw [HL'.out] at hTk
      have HT : Hid (truns (L.take j) = truns L') := ⟨by rw [hTk.out]⟩
      have HA' : Hid (Dk.At wr p g bm w1.heap.size (truns L').d) := ⟨by rw [← HT.out]; exact HAr.out⟩
      clear HAr HCr
      have tt := Dk.trip_any HA'.out (tr : Int) (by omega)
      rw [(trip_ok HF.out.1.down (show (0 : Int) ≤ (tr : Int) by omega)).1, (trip_ok HF.out.1.down (show (0 : Int) ≤ (tr : Int) by omega)).2] at tt
      go_upto_region 13 with (go_at_call 9; first | rw [hAtr] | skip; refine tt.mono ?_; rintro e w5 ⟨rfl, hA5, hc5⟩; clear tt)
      have HA5 : Hid (Dk.At w5 p g bm w1.heap.size (tripD (truns L').d (tr : Int))) := ⟨hA5⟩
      have HB5 : Hid (Below w.heap.size w w5) := ⟨HBr.out.trans (hc5.below HBr.out.size (fun x hx => by have h1 := hBP.out; have h2 := HB1.out.size; simp at hx; omega))⟩
      have HC5 : Hid (CellAt w5 q p ((1 : Nat) : Int) (tripD (truns L').d (tr : Int)).life) := ⟨by rw [show (tripD (truns L').d (tr : Int)).life = 0 from HF.out.2.1]; exact CellAt.chg HC0.out HA'.out (hc5.mono (by simp))⟩
      have HX5 : Hid (w5.heap[xb]? = some (.cells #[.slice ak nk ck, .int .i64 torn, .int .i64 at'] 37 (0, 0))) := ⟨(hc5.block xb (Array.getElem?_eq_some_iff.1 HXr.out).1 (by have h1 := hBP.out; have h2 := HX1lt.out; simp; omega)).trans HXr.out⟩
      clear hA5 hc5
      have ts := set_any HA5.out HC5.out HF.out.1.down (show 1 + 2 ≤ (truns L').d.S.length by rw [HF.out.1.len]; decide) (Dg.NibsAt.below HV.out HB5.out) _ last (Oc.Bs.below HLast.out HB5.out) HLy.out
      obtain ⟨G, HGe⟩ : ∃ G, Hid (stE (tripD (truns L').d (tr : Int)) 1 last = G) := ⟨_, ⟨rfl⟩⟩
      obtain ⟨D2, HD2⟩ : ∃ D, Hid (stD (tripD (truns L').d (tr : Int)) 1 last = D) := ⟨_, ⟨rfl⟩⟩
      rw [HGe.out, HD2.out] at ts
      have HOut := HOut0.out
      rw [HGe.out, HD2.out] at HOut
      have HO : Hid (Out G (truns L').had (truns L').was last (gt (sc0 (Dk.crD D2 ⟨ks, torn, at'⟩) 1) (sc0 (Dk.crD D2 ⟨ks, torn, at'⟩) 2)) ∧ D2.S.length = 3 ∧ D2.life = (truns L').d.life) := ⟨HOut⟩
      clear HOut
      go_upto_region 14 with (go_at_call 8; refine ts.mono ?_; rintro e w6 ⟨rfl, hA6, hc6⟩; clear ts)
      have HA6 : Hid (Dk.At w6 p g bm w1.heap.size D2) := ⟨hA6⟩
      have HB6 : Hid (Below w.heap.size w w6) := ⟨HB5.out.trans (hc6.below HB5.out.size (fun x hx => by have h1 := hBP.out; have h2 := HB1.out.size; simp at hx; omega))⟩
      have HX6 : Hid (w6.heap[xb]? = some (.cells #[.slice ak nk ck, .int .i64 torn, .int .i64 at'] 37 (0, 0))) := ⟨(hc6.block xb (Array.getElem?_eq_some_iff.1 HX5.out).1 (by have h1 := hBP.out; have h2 := HX1lt.out; simp; omega)).trans HX5.out⟩
      clear hA6 hc6
      have tc := Dk.crash_gen HA6.out _ ks torn at' (Dk.Ks.below HKs.out HB6.out) (fun h0 z hz => by have h1 := HKb.out h0 z hz; have h2 := hBP.out; have h3 := HB1.out.size; omega)
      go_upto_region 15 with (first
        | (refine wpList_load_row rfl 37 (.tmp 9) rfl xb rfl 37 #[.slice ak nk ck, .int .i64 torn, .int .i64 at'] (0, 0) _ HX6.out Tryd.underlying37 rfl info37 ?_)
        | (go_at_call 10; refine tc.mono ?_; rintro e w7 ⟨rfl, hA7, hc7⟩; clear tc; have HA7 : Hid (Dk.At w7 p g bm w1.heap.size (Dk.crD D2 ⟨ks, torn, at'⟩)) := ⟨hA7⟩; have HB7 : Hid (Below w.heap.size w w7) := ⟨HB6.out.trans (hc7.below HB6.out.size (fun x hx => by have h1 := hBP.out; have h2 := HB1.out.size; simp at hx; omega))⟩; clear hA7 hc7))
      have s7 := Oc.run_str Tryd.bt (Oc.Bs.below HLast.out HB7.out) 9 Tryd.underlying9
      have hoo := out_tl HO.out.1
      have tl := tells_c HA7.out (crD_facts D2 ⟨ks, torn, at'⟩).1 (by rw [(crD_facts D2 ⟨ks, torn, at'⟩).2.1, HO.out.2.1]) (Dg.NibsAt.below HV.out HB7.out) _ G _ (strOfNums last) (strOfNums (truns L').was) (truns L').had _ _ rfl rfl rfl hoo.2.2 hoo.1 hoo.2.1
      clear hoo
      obtain ⟨LS, HLS⟩ : ∃ l, Hid (strOfNums last = l) := ⟨_, ⟨rfl⟩⟩
      rw [HWS.out, Hhd.out, HLS.out] at tl
      rw [HLS.out] at s7
      go_wp2_with (go_at_call 13; refine tl.mono ?_; rintro e w8 ⟨rfl, hb8⟩; clear tl; have HB8 : Hid (Below w7.heap.size w7 w8) := ⟨hb8⟩; clear hb8)
      go_ret
      exact ⟨rfl, HB7.out.trans (HB8.out.mono HB7.out.size)⟩
    · have hjl : ¬ (j : Int) < (nn : Int) := by omega
      have hTk : Hid (L.take j = L.take 30) := ⟨by rw [List.take_of_length_le (by rw [HNN.out]; omega), List.take_of_length_le (by rw [HNN.out]; omega)]⟩
      clear hjN hjn hj
      rw [HL'.out] at hTk
      have HT : Hid (truns (L.take j) = truns L') := ⟨by rw [hTk.out]⟩
      have HA' : Hid (Dk.At wr p g bm w1.heap.size (truns L').d) := ⟨by rw [← HT.out]; exact HAr.out⟩
      clear HAr HCr
      have tt := Dk.trip_any HA'.out (tr : Int) (by omega)
      rw [(trip_ok HF.out.1.down (show (0 : Int) ≤ (tr : Int) by omega)).1, (trip_ok HF.out.1.down (show (0 : Int) ≤ (tr : Int) by omega)).2] at tt
      go_upto_region 13 with (go_at_call 9; first | rw [hAtr] | skip; refine tt.mono ?_; rintro e w5 ⟨rfl, hA5, hc5⟩; clear tt)
      have HA5 : Hid (Dk.At w5 p g bm w1.heap.size (tripD (truns L').d (tr : Int))) := ⟨hA5⟩
      have HB5 : Hid (Below w.heap.size w w5) := ⟨HBr.out.trans (hc5.below HBr.out.size (fun x hx => by have h1 := hBP.out; have h2 := HB1.out.size; simp at hx; omega))⟩
      have HC5 : Hid (CellAt w5 q p ((1 : Nat) : Int) (tripD (truns L').d (tr : Int)).life) := ⟨by rw [show (tripD (truns L').d (tr : Int)).life = 0 from HF.out.2.1]; exact CellAt.chg HC0.out HA'.out (hc5.mono (by simp))⟩
      have HX5 : Hid (w5.heap[xb]? = some (.cells #[.slice ak nk ck, .int .i64 torn, .int .i64 at'] 37 (0, 0))) := ⟨(hc5.block xb (Array.getElem?_eq_some_iff.1 HXr.out).1 (by have h1 := hBP.out; have h2 := HX1lt.out; simp; omega)).trans HXr.out⟩
      clear hA5 hc5
      have ts := set_any HA5.out HC5.out HF.out.1.down (show 1 + 2 ≤ (truns L').d.S.length by rw [HF.out.1.len]; decide) (Dg.NibsAt.below HV.out HB5.out) _ last (Oc.Bs.below HLast.out HB5.out) HLy.out
      obtain ⟨G, HGe⟩ : ∃ G, Hid (stE (tripD (truns L').d (tr : Int)) 1 last = G) := ⟨_, ⟨rfl⟩⟩
      obtain ⟨D2, HD2⟩ : ∃ D, Hid (stD (tripD (truns L').d (tr : Int)) 1 last = D) := ⟨_, ⟨rfl⟩⟩
      rw [HGe.out, HD2.out] at ts
      have HOut := HOut0.out
      rw [HGe.out, HD2.out] at HOut
      have HO : Hid (Out G (truns L').had (truns L').was last (gt (sc0 (Dk.crD D2 ⟨ks, torn, at'⟩) 1) (sc0 (Dk.crD D2 ⟨ks, torn, at'⟩) 2)) ∧ D2.S.length = 3 ∧ D2.life = (truns L').d.life) := ⟨HOut⟩
      clear HOut
      go_upto_region 14 with (go_at_call 8; refine ts.mono ?_; rintro e w6 ⟨rfl, hA6, hc6⟩; clear ts)
      have HA6 : Hid (Dk.At w6 p g bm w1.heap.size D2) := ⟨hA6⟩
      have HB6 : Hid (Below w.heap.size w w6) := ⟨HB5.out.trans (hc6.below HB5.out.size (fun x hx => by have h1 := hBP.out; have h2 := HB1.out.size; simp at hx; omega))⟩
      have HX6 : Hid (w6.heap[xb]? = some (.cells #[.slice ak nk ck, .int .i64 torn, .int .i64 at'] 37 (0, 0))) := ⟨(hc6.block xb (Array.getElem?_eq_some_iff.1 HX5.out).1 (by have h1 := hBP.out; have h2 := HX1lt.out; simp; omega)).trans HX5.out⟩
      clear hA6 hc6
      have tc := Dk.crash_gen HA6.out _ ks torn at' (Dk.Ks.below HKs.out HB6.out) (fun h0 z hz => by have h1 := HKb.out h0 z hz; have h2 := hBP.out; have h3 := HB1.out.size; omega)
      go_upto_region 15 with (first
        | (refine wpList_load_row rfl 37 (.tmp 9) rfl xb rfl 37 #[.slice ak nk ck, .int .i64 torn, .int .i64 at'] (0, 0) _ HX6.out Tryd.underlying37 rfl info37 ?_)
        | (go_at_call 10; refine tc.mono ?_; rintro e w7 ⟨rfl, hA7, hc7⟩; clear tc; have HA7 : Hid (Dk.At w7 p g bm w1.heap.size (Dk.crD D2 ⟨ks, torn, at'⟩)) := ⟨hA7⟩; have HB7 : Hid (Below w.heap.size w w7) := ⟨HB6.out.trans (hc7.below HB6.out.size (fun x hx => by have h1 := hBP.out; have h2 := HB1.out.size; simp at hx; omega))⟩; clear hA7 hc7))
      have s7 := Oc.run_str Tryd.bt (Oc.Bs.below HLast.out HB7.out) 9 Tryd.underlying9
      have hoo := out_tl HO.out.1
      have tl := tells_c HA7.out (crD_facts D2 ⟨ks, torn, at'⟩).1 (by rw [(crD_facts D2 ⟨ks, torn, at'⟩).2.1, HO.out.2.1]) (Dg.NibsAt.below HV.out HB7.out) _ G _ (strOfNums last) (strOfNums (truns L').was) (truns L').had _ _ rfl rfl rfl hoo.2.2 hoo.1 hoo.2.1
      clear hoo
      obtain ⟨LS, HLS⟩ : ∃ l, Hid (strOfNums last = l) := ⟨_, ⟨rfl⟩⟩
      rw [HWS.out, Hhd.out, HLS.out] at tl
      rw [HLS.out] at s7
      go_wp2_with (go_at_call 13; refine tl.mono ?_; rintro e w8 ⟨rfl, hb8⟩; clear tl; have HB8 : Hid (Below w7.heap.size w7 w8) := ⟨hb8⟩; clear hb8)
      go_ret
      exact ⟨rfl, HB7.out.trans (HB8.out.mono HB7.out.size)⟩
set_option maxHeartbeats 16000000 in
set_option maxRecDepth 100000 in
theorem torn_nil (L : List (List Int)) (nn rcap : Nat) (ao : Option Addr) (al : Option Addr) (last : List Int) (nl cl A tr : Nat) (ak : Option Addr) (nk ck : Nat) (ks : List Bool) (torn at' : Int) (hV : Vars w) (hnn : L.length = nn) (hL : L = []) (hl : Oc.Bs w (.slice al nl cl) last) (hly : Dk.Byt last)
    (hA : A < 256) (htr : tr = A % 4) (hks : Dk.Ks w (.slice ak nk ck) ks) (hkb : 0 < ks.length → ∀ z, (Value.slice ak nk ck).ownBlock = some z → z < w.heap.size) :
    Calls Tryd.prog 12 #[.slice ao nn rcap, .slice al nl cl, .int .u8 (A : Int), .agg #[.slice ak nk ck, .int .i64 torn, .int .i64 at'], .string (strOfNums (truns (L.take 30)).was), .bool (truns (L.take 30)).had] w fun e w' => e = .returned (.bool true) ∧ Below w.heap.size w w' := by
  have HV : Hid (Vars w) := ⟨hV⟩
  have HNN : Hid (L.length = nn) := ⟨hnn⟩
  have HLe : Hid (L = []) := ⟨hL⟩
  have HLast : Hid (Oc.Bs w (.slice al nl cl) last) := ⟨hl⟩
  have HLy : Hid (Dk.Byt last) := ⟨hly⟩
  have HKs : Hid (Dk.Ks w (.slice ak nk ck) ks) := ⟨hks⟩
  have HKb := Dk.Hid.mk hkb
  have htr4 : tr < 4 := by omega
  have hAtr : ((A : Int) % 4) = (tr : Int) := by omega
  obtain ⟨L', HL'⟩ : ∃ L', Hid (L.take 30 = L') := ⟨_, ⟨rfl⟩⟩
  rw [HL'.out]
  obtain ⟨WS, HWS⟩ : ∃ W, Hid (strOfNums (truns L').was = W) := ⟨_, ⟨rfl⟩⟩
  obtain ⟨hd, Hhd⟩ : ∃ h, Hid ((truns L').had = h) := ⟨_, ⟨rfl⟩⟩
  rw [HWS.out, Hhd.out]
  have HF : Hid (Fine (truns L').d 3 ∧ (truns L').d.life = 0 ∧ ∃ m, m ≤ L'.length ∧ Cel (sc0 (truns L').d 1) (sc0 (truns L').d 2) m (truns L').was (truns L').had) := ⟨truns_ok L' (by rw [← HL'.out, List.length_take]; omega)⟩
  have HOut0 : Hid (Out (stE (tripD (truns L').d (tr : Int)) 1 last) (truns L').had (truns L').was last (gt (sc0 (Dk.crD (stD (tripD (truns L').d (tr : Int)) 1 last) ⟨ks, torn, at'⟩) 1) (sc0 (Dk.crD (stD (tripD (truns L').d (tr : Int)) 1 last) ⟨ks, torn, at'⟩) 2)) ∧ (stD (tripD (truns L').d (tr : Int)) 1 last).S.length = 3 ∧ (stD (tripD (truns L').d (tr : Int)) 1 last).life = (truns L').d.life) := ⟨by
    obtain ⟨q1, q2, m, q3, q4⟩ := HF.out
    exact last_out q1 q4 (by have : L'.length ≤ 30 := by rw [← HL'.out, List.length_take]; omega
                             omega) tr htr4 _⟩
  clear hV hnn hL hl hly htr hks hkb
  obtain ⟨xb, Hxb⟩ : ∃ q, Hid (w.heap.size = q) := ⟨_, ⟨rfl⟩⟩
  obtain ⟨w1, Hw1⟩ : ∃ x, Hid (w.alloc (.cells #[.slice ak nk ck, .int .i64 torn, .int .i64 at'] 37) = x) := ⟨_, ⟨rfl⟩⟩
  have HX1 : Hid (w1.heap[xb]? = some (.cells #[.slice ak nk ck, .int .i64 torn, .int .i64 at'] 37 (0, 0))) := ⟨by rw [← Hw1.out, ← Hxb.out]; exact heap_alloc_new w _⟩
  have HX1lt : Hid (xb < w1.heap.size) := ⟨(Array.getElem?_eq_some_iff.1 HX1.out).1⟩
  have HB1 : Hid (Below w.heap.size w w1) := ⟨by rw [← Hw1.out]; exact (Below.refl _ w).alloc (Nat.le_refl _) _⟩
  have t1 := Dk.newdisk_any 3 w1 (by decide) (by decide)
  go_enter Tryd.func12, Tryd.ntmps12
  go_upto_region 1 with fail
  rw [Hw1.out]
  first | rw [Hxb.out] | skip
  go_upto_region 4 with (go_at_call 6; refine t1.mono ?_; rintro e w2 hN; obtain ⟨p, g, bm, rfl, hA2, hb2⟩ := hN; clear t1)
  have HB12 : Hid (Below w1.heap.size w1 w2) := ⟨hb2⟩
  have HA2 : Hid (Dk.At w2 p g bm w1.heap.size (Dk.newD 3)) := ⟨hA2⟩
  have HB2 : Hid (Below w.heap.size w w2) := ⟨HB1.out.trans (HB12.out.mono HB1.out.size)⟩
  have t2 := open_good (bs := 1) hA2 (opn_new 3 1 (by decide))
  clear hA2 hb2
  go_upto_region 7 with (go_at_call 7; refine t2.mono ?_; rintro e w3 ⟨rfl, hC3, hb3⟩; clear t2)
  obtain ⟨q, Hq⟩ : ∃ q, Hid (w2.heap.size = q) := ⟨_, ⟨rfl⟩⟩
  rw [Hq.out] at hC3 ⊢
  have HB23 : Hid (Below w2.heap.size w2 w3) := ⟨hb3⟩
  have HC3 : Hid (CellAt w3 q p ((1 : Nat) : Int) 0) := ⟨hC3⟩
  have HB3 : Hid (Below w.heap.size w w3) := ⟨HB2.out.trans (HB23.out.mono HB2.out.size)⟩
  have HA3 : Hid (Dk.At w3 p g bm w1.heap.size (truns (L.take 0)).d) := ⟨HA2.out.below HB23.out⟩
  have HX3 : Hid (w3.heap[xb]? = some (.cells #[.slice ak nk ck, .int .i64 torn, .int .i64 at'] 37 (0, 0))) := ⟨(HB23.out.block xb (Nat.lt_of_lt_of_le HX1lt.out HB12.out.size)).trans ((HB12.out.block xb HX1lt.out).trans HX1.out)⟩
  have hBP : Hid (w1.heap.size ≤ p ∧ w1.heap.size ≤ g ∧ w1.heap.size ≤ bm) := ⟨At.bp HA3.out⟩
  clear hC3 hb3
  go_wp2_with fail
  go_loopw [17] (fun i wr => ∃ j : Nat, j ≤ min nn 30 ∧ i = .int .i64 (j : Int) ∧ Hid (Dk.At wr p g bm w1.heap.size (truns (L.take j)).d) ∧ Hid (CellAt wr q p ((1 : Nat) : Int) 0) ∧ Hid (wr.heap[xb]? = some (.cells #[.slice ak nk ck, .int .i64 torn, .int .i64 at'] 37 (0, 0))) ∧ Hid (Below w.heap.size w wr)) (fun i _ => 30 - (intOf i).toNat)
  case atStart => exact ⟨0, Nat.zero_le _, rfl, HA3, HC3, HX3, HB3⟩
  case round =>
    obtain ⟨j, hj, rfl, HAr, HC0, HXr, HBr⟩ := hrel
    have HFr : Hid (Fine (truns (L.take j)).d 3 ∧ (truns (L.take j)).d.life = 0) := ⟨by have q := truns_ok (L.take j) (by rw [List.length_take]; omega); exact ⟨q.1, q.2.1⟩⟩
    have HCr : Hid (CellAt wr q p ((1 : Nat) : Int) (truns (L.take j)).d.life) := ⟨by rw [HFr.out.2]; exact HC0.out⟩
    by_cases hjN : j < nn ∧ j < 30
    · obtain ⟨hjn, hj3⟩ := hjN
      revert hjn hj3
      intro hjn hj3
      skip
      exact absurd hjn (by rw [← HNN.out, HLe.out]; simp)
    by_cases hjn : j < nn
    · have hj30 : j = 30 := by omega
      have hjl : (j : Int) < (nn : Int) := by omega
      have hj3 : ¬ (j : Int) < 30 := by omega
      have hTk : Hid (L.take j = L.take 30) := ⟨by rw [hj30]⟩
      clear hjN hjn hj30 hj
      rw [HL'.out] at hTk
      have HT : Hid (truns (L.take j) = truns L') := ⟨by rw [hTk.out]⟩
      have HA' : Hid (Dk.At wr p g bm w1.heap.size (truns L').d) := ⟨by rw [← HT.out]; exact HAr.out⟩
      clear HAr HCr
      have tt := Dk.trip_any HA'.out (tr : Int) (by omega)
      rw [(trip_ok HF.out.1.down (show (0 : Int) ≤ (tr : Int) by omega)).1, (trip_ok HF.out.1.down (show (0 : Int) ≤ (tr : Int) by omega)).2] at tt
      go_upto_region 13 with (go_at_call 9; first | rw [hAtr] | skip; refine tt.mono ?_; rintro e w5 ⟨rfl, hA5, hc5⟩; clear tt)
      have HA5 : Hid (Dk.At w5 p g bm w1.heap.size (tripD (truns L').d (tr : Int))) := ⟨hA5⟩
      have HB5 : Hid (Below w.heap.size w w5) := ⟨HBr.out.trans (hc5.below HBr.out.size (fun x hx => by have h1 := hBP.out; have h2 := HB1.out.size; simp at hx; omega))⟩
      have HC5 : Hid (CellAt w5 q p ((1 : Nat) : Int) (tripD (truns L').d (tr : Int)).life) := ⟨by rw [show (tripD (truns L').d (tr : Int)).life = 0 from HF.out.2.1]; exact CellAt.chg HC0.out HA'.out (hc5.mono (by simp))⟩
      have HX5 : Hid (w5.heap[xb]? = some (.cells #[.slice ak nk ck, .int .i64 torn, .int .i64 at'] 37 (0, 0))) := ⟨(hc5.block xb (Array.getElem?_eq_some_iff.1 HXr.out).1 (by have h1 := hBP.out; have h2 := HX1lt.out; simp; omega)).trans HXr.out⟩
      clear hA5 hc5
      have ts := set_any HA5.out HC5.out HF.out.1.down (show 1 + 2 ≤ (truns L').d.S.length by rw [HF.out.1.len]; decide) (Dg.NibsAt.below HV.out HB5.out) _ last (Oc.Bs.below HLast.out HB5.out) HLy.out
      obtain ⟨G, HGe⟩ : ∃ G, Hid (stE (tripD (truns L').d (tr : Int)) 1 last = G) := ⟨_, ⟨rfl⟩⟩
      obtain ⟨D2, HD2⟩ : ∃ D, Hid (stD (tripD (truns L').d (tr : Int)) 1 last = D) := ⟨_, ⟨rfl⟩⟩
      rw [HGe.out, HD2.out] at ts
      have HOut := HOut0.out
      rw [HGe.out, HD2.out] at HOut
      have HO : Hid (Out G (truns L').had (truns L').was last (gt (sc0 (Dk.crD D2 ⟨ks, torn, at'⟩) 1) (sc0 (Dk.crD D2 ⟨ks, torn, at'⟩) 2)) ∧ D2.S.length = 3 ∧ D2.life = (truns L').d.life) := ⟨HOut⟩
      clear HOut
      go_upto_region 14 with (go_at_call 8; refine ts.mono ?_; rintro e w6 ⟨rfl, hA6, hc6⟩; clear ts)
      have HA6 : Hid (Dk.At w6 p g bm w1.heap.size D2) := ⟨hA6⟩
      have HB6 : Hid (Below w.heap.size w w6) := ⟨HB5.out.trans (hc6.below HB5.out.size (fun x hx => by have h1 := hBP.out; have h2 := HB1.out.size; simp at hx; omega))⟩
      have HX6 : Hid (w6.heap[xb]? = some (.cells #[.slice ak nk ck, .int .i64 torn, .int .i64 at'] 37 (0, 0))) := ⟨(hc6.block xb (Array.getElem?_eq_some_iff.1 HX5.out).1 (by have h1 := hBP.out; have h2 := HX1lt.out; simp; omega)).trans HX5.out⟩
      clear hA6 hc6
      have tc := Dk.crash_gen HA6.out _ ks torn at' (Dk.Ks.below HKs.out HB6.out) (fun h0 z hz => by have h1 := HKb.out h0 z hz; have h2 := hBP.out; have h3 := HB1.out.size; omega)
      go_upto_region 15 with (first
        | (refine wpList_load_row rfl 37 (.tmp 9) rfl xb rfl 37 #[.slice ak nk ck, .int .i64 torn, .int .i64 at'] (0, 0) _ HX6.out Tryd.underlying37 rfl info37 ?_)
        | (go_at_call 10; refine tc.mono ?_; rintro e w7 ⟨rfl, hA7, hc7⟩; clear tc; have HA7 : Hid (Dk.At w7 p g bm w1.heap.size (Dk.crD D2 ⟨ks, torn, at'⟩)) := ⟨hA7⟩; have HB7 : Hid (Below w.heap.size w w7) := ⟨HB6.out.trans (hc7.below HB6.out.size (fun x hx => by have h1 := hBP.out; have h2 := HB1.out.size; simp at hx; omega))⟩; clear hA7 hc7))
      have s7 := Oc.run_str Tryd.bt (Oc.Bs.below HLast.out HB7.out) 9 Tryd.underlying9
      have hoo := out_tl HO.out.1
      have tl := tells_c HA7.out (crD_facts D2 ⟨ks, torn, at'⟩).1 (by rw [(crD_facts D2 ⟨ks, torn, at'⟩).2.1, HO.out.2.1]) (Dg.NibsAt.below HV.out HB7.out) _ G _ (strOfNums last) (strOfNums (truns L').was) (truns L').had _ _ rfl rfl rfl hoo.2.2 hoo.1 hoo.2.1
      clear hoo
      obtain ⟨LS, HLS⟩ : ∃ l, Hid (strOfNums last = l) := ⟨_, ⟨rfl⟩⟩
      rw [HWS.out, Hhd.out, HLS.out] at tl
      rw [HLS.out] at s7
      go_wp2_with (go_at_call 13; refine tl.mono ?_; rintro e w8 ⟨rfl, hb8⟩; clear tl; have HB8 : Hid (Below w7.heap.size w7 w8) := ⟨hb8⟩; clear hb8)
      go_ret
      exact ⟨rfl, HB7.out.trans (HB8.out.mono HB7.out.size)⟩
    · have hjl : ¬ (j : Int) < (nn : Int) := by omega
      have hTk : Hid (L.take j = L.take 30) := ⟨by rw [List.take_of_length_le (by rw [HNN.out]; omega), List.take_of_length_le (by rw [HNN.out]; omega)]⟩
      clear hjN hjn hj
      rw [HL'.out] at hTk
      have HT : Hid (truns (L.take j) = truns L') := ⟨by rw [hTk.out]⟩
      have HA' : Hid (Dk.At wr p g bm w1.heap.size (truns L').d) := ⟨by rw [← HT.out]; exact HAr.out⟩
      clear HAr HCr
      have tt := Dk.trip_any HA'.out (tr : Int) (by omega)
      rw [(trip_ok HF.out.1.down (show (0 : Int) ≤ (tr : Int) by omega)).1, (trip_ok HF.out.1.down (show (0 : Int) ≤ (tr : Int) by omega)).2] at tt
      go_upto_region 13 with (go_at_call 9; first | rw [hAtr] | skip; refine tt.mono ?_; rintro e w5 ⟨rfl, hA5, hc5⟩; clear tt)
      have HA5 : Hid (Dk.At w5 p g bm w1.heap.size (tripD (truns L').d (tr : Int))) := ⟨hA5⟩
      have HB5 : Hid (Below w.heap.size w w5) := ⟨HBr.out.trans (hc5.below HBr.out.size (fun x hx => by have h1 := hBP.out; have h2 := HB1.out.size; simp at hx; omega))⟩
      have HC5 : Hid (CellAt w5 q p ((1 : Nat) : Int) (tripD (truns L').d (tr : Int)).life) := ⟨by rw [show (tripD (truns L').d (tr : Int)).life = 0 from HF.out.2.1]; exact CellAt.chg HC0.out HA'.out (hc5.mono (by simp))⟩
      have HX5 : Hid (w5.heap[xb]? = some (.cells #[.slice ak nk ck, .int .i64 torn, .int .i64 at'] 37 (0, 0))) := ⟨(hc5.block xb (Array.getElem?_eq_some_iff.1 HXr.out).1 (by have h1 := hBP.out; have h2 := HX1lt.out; simp; omega)).trans HXr.out⟩
      clear hA5 hc5
      have ts := set_any HA5.out HC5.out HF.out.1.down (show 1 + 2 ≤ (truns L').d.S.length by rw [HF.out.1.len]; decide) (Dg.NibsAt.below HV.out HB5.out) _ last (Oc.Bs.below HLast.out HB5.out) HLy.out
      obtain ⟨G, HGe⟩ : ∃ G, Hid (stE (tripD (truns L').d (tr : Int)) 1 last = G) := ⟨_, ⟨rfl⟩⟩
      obtain ⟨D2, HD2⟩ : ∃ D, Hid (stD (tripD (truns L').d (tr : Int)) 1 last = D) := ⟨_, ⟨rfl⟩⟩
      rw [HGe.out, HD2.out] at ts
      have HOut := HOut0.out
      rw [HGe.out, HD2.out] at HOut
      have HO : Hid (Out G (truns L').had (truns L').was last (gt (sc0 (Dk.crD D2 ⟨ks, torn, at'⟩) 1) (sc0 (Dk.crD D2 ⟨ks, torn, at'⟩) 2)) ∧ D2.S.length = 3 ∧ D2.life = (truns L').d.life) := ⟨HOut⟩
      clear HOut
      go_upto_region 14 with (go_at_call 8; refine ts.mono ?_; rintro e w6 ⟨rfl, hA6, hc6⟩; clear ts)
      have HA6 : Hid (Dk.At w6 p g bm w1.heap.size D2) := ⟨hA6⟩
      have HB6 : Hid (Below w.heap.size w w6) := ⟨HB5.out.trans (hc6.below HB5.out.size (fun x hx => by have h1 := hBP.out; have h2 := HB1.out.size; simp at hx; omega))⟩
      have HX6 : Hid (w6.heap[xb]? = some (.cells #[.slice ak nk ck, .int .i64 torn, .int .i64 at'] 37 (0, 0))) := ⟨(hc6.block xb (Array.getElem?_eq_some_iff.1 HX5.out).1 (by have h1 := hBP.out; have h2 := HX1lt.out; simp; omega)).trans HX5.out⟩
      clear hA6 hc6
      have tc := Dk.crash_gen HA6.out _ ks torn at' (Dk.Ks.below HKs.out HB6.out) (fun h0 z hz => by have h1 := HKb.out h0 z hz; have h2 := hBP.out; have h3 := HB1.out.size; omega)
      go_upto_region 15 with (first
        | (refine wpList_load_row rfl 37 (.tmp 9) rfl xb rfl 37 #[.slice ak nk ck, .int .i64 torn, .int .i64 at'] (0, 0) _ HX6.out Tryd.underlying37 rfl info37 ?_)
        | (go_at_call 10; refine tc.mono ?_; rintro e w7 ⟨rfl, hA7, hc7⟩; clear tc; have HA7 : Hid (Dk.At w7 p g bm w1.heap.size (Dk.crD D2 ⟨ks, torn, at'⟩)) := ⟨hA7⟩; have HB7 : Hid (Below w.heap.size w w7) := ⟨HB6.out.trans (hc7.below HB6.out.size (fun x hx => by have h1 := hBP.out; have h2 := HB1.out.size; simp at hx; omega))⟩; clear hA7 hc7))
      have s7 := Oc.run_str Tryd.bt (Oc.Bs.below HLast.out HB7.out) 9 Tryd.underlying9
      have hoo := out_tl HO.out.1
      have tl := tells_c HA7.out (crD_facts D2 ⟨ks, torn, at'⟩).1 (by rw [(crD_facts D2 ⟨ks, torn, at'⟩).2.1, HO.out.2.1]) (Dg.NibsAt.below HV.out HB7.out) _ G _ (strOfNums last) (strOfNums (truns L').was) (truns L').had _ _ rfl rfl rfl hoo.2.2 hoo.1 hoo.2.1
      clear hoo
      obtain ⟨LS, HLS⟩ : ∃ l, Hid (strOfNums last = l) := ⟨_, ⟨rfl⟩⟩
      rw [HWS.out, Hhd.out, HLS.out] at tl
      rw [HLS.out] at s7
      go_wp2_with (go_at_call 13; refine tl.mono ?_; rintro e w8 ⟨rfl, hb8⟩; clear tl; have HB8 : Hid (Below w7.heap.size w7 w8) := ⟨hb8⟩; clear hb8)
      go_ret
      exact ⟨rfl, HB7.out.trans (HB8.out.mono HB7.out.size)⟩
end
end Go.Proofs.YtgjjjkokmgdmjaaDoor
