/- The walk of BloomAnyOrder. -/
import Derived.Lib.MinMax
import Derived.Test.YtiloclekhddkfabDoorFrame2
namespace Go.Proofs.YtiloclekhddkfabDoor
open Go.RowKit
/-- One summary, and the places that are on. -/
structure Sd (w : World) (p c cap size ways : Nat) (cs : List Nat) (l : List Int) : Prop where
  fl : FlAt w p c cap size ways cs
  ag : Agree size cs l
  ok : ft size ways = true
section
variable {w w' : World} {p c cap size ways : Nat} {cs : List Nat} {l : List Int} {X : List Nat}
theorem Sd.far (h : Sd w p c cap size ways cs l) (hc : Chg X w w') (hp : p ∉ X) (hq : c ∉ X) : Sd w' p c cap size ways cs l := ⟨h.fl.far hc hp hq, h.ag, h.ok⟩
theorem Sd.below (h : Sd w p c cap size ways cs l) (hc : Below w.heap.size w w') : Sd w' p c cap size ways cs l := h.far (X := []) (Chg.ofBelow hc) (by simp) (by simp)
theorem Sd.bd (h : Sd w p c cap size ways cs l) : 1 ≤ size ∧ size ≤ 65536 ∧ 1 ≤ ways ∧ ways ≤ 8 := by
  have : 1 ≤ (size : Int) ∧ (size : Int) ≤ 65536 ∧ 1 ≤ (ways : Int) ∧ (ways : Int) ≤ 8 := of_decide_eq_true h.ok
  omega
theorem Sd.add (h : Sd w p c cap size ways cs l) (s : List Int) (hs : Sum32 s) : Calls Tryd.prog 17 #[.pointer (some ⟨p, 0, none⟩), .agg (sc s).toArray] w fun e w' => e = .returned (.int .i64 0) ∧ (∃ cs', Sd w' p c cap size ways cs' (layF l (plc s size ways))) ∧ Chg [c] w w' := by
  refine (add_any s hs h.ok h.fl h.ag.len h.ag.lt).mono ?_
  rintro e w' ⟨rfl, hF, hC⟩
  exact ⟨rfl, ⟨_, hF, h.ag.add s h.ok, h.ok⟩, hC⟩
theorem Sd.has (h : Sd w p c cap size ways cs l) (s : List Int) (hs : Sum32 s) : Calls Tryd.prog 14 #[.pointer (some ⟨p, 0, none⟩), .agg (sc s).toArray] w fun e w' => e = .returned (.bool (decide (∀ x ∈ plc s size ways, x ∈ l))) ∧ Below w.heap.size w w' := by
  refine (has_any s hs h.ok h.fl h.ag.len h.ag.lt).mono ?_
  rintro e w' ⟨rfl, hb⟩
  exact ⟨by rw [h.ag.has s h.ok], hb⟩
theorem Sd.ones (h : Sd w p c cap size ways cs l) (hV : Vars w) : Calls Tryd.prog 21 #[.pointer (some ⟨p, 0, none⟩)] w fun e w' => e = .returned (.int .i64 (l.length : Nat)) ∧ Below w.heap.size w w' := by
  have hb := h.bd
  have hs := h.ag.small
  refine (ones_any h.fl h.ag.lt (by rw [h.ag.len]; omega) hV h.ag.bd (by rw [h.ag.ones]; omega)).mono ?_
  rintro e w' ⟨rfl, hb⟩
  exact ⟨by rw [h.ag.ones], hb⟩
theorem new_sd (hf : ft size ways = true) : Calls Tryd.prog 8 #[.int .i64 (size : Int), .int .i64 (ways : Int)] w fun e w' => ∃ p, w.heap.size < p ∧ e = .returned (.tuple #[.pointer (some ⟨p, 0, none⟩), .int .i64 0]) ∧ Sd w' p w.heap.size ((size + 63) / 64) size ways (List.replicate ((size + 63) / 64) 0) [] ∧ Below w.heap.size w w' := by
  refine (new_ok (w := w) size ways hf).mono ?_
  rintro e w' ⟨p, hp, rfl, hF, hb⟩
  exact ⟨p, hp, rfl, ⟨hF, Agree.none size, hf⟩, hb⟩
end
theorem plc_ways {s : List Int} {size ways : Nat} (hft : ft size ways = true) : (plc s size ways).length = ways := by
  unfold plc
  rw [if_pos hft, pre_len]
  simp
theorem layF_same : ∀ (L l : List Int), (∀ y ∈ L, y ∈ l) → layF l L = l
  | [], _, _ => rfl
  | x :: L, l, h => by
    show layF (if x ∈ l then l else l ++ [x]) L = l
    rw [if_pos (h x (by simp))]
    exact layF_same L l (fun y hy => h y (by simp [hy]))
/-- The places of some sums. -/
def AtMost (L : List (List Int)) (size ways : Nat) (i j : Nat) (y : Int) : Prop := ∃ m, i ≤ m ∧ m < j ∧ y ∈ plc (L.getD m []) size ways
theorem same_len {l m : List Int} (hl : l.Nodup) (hm : m.Nodup) (h : ∀ y, y ∈ l ↔ y ∈ m) : l.length = m.length :=
  Nat.le_antisymm (nodup_len l m hl (fun x hx => (h x).1 hx)) (nodup_len m l hm (fun x hx => (h x).2 hx))
set_option maxHeartbeats 8000000 in
set_option maxRecDepth 100000 in
theorem order_walk {w : World} (a b : Nat) (ha : a < 65536) (hb : b < 256) (v : Value) (L : List (List Int)) (hL : SumsV w v L) (s : List Int) (hs : Sum32 s) (hV : Vars w) : Calls Tryd.prog 6 #[.int .u16 (a : Int), .int .u8 (b : Int), v, .agg (sc s).toArray] w fun e w' => e = .returned (.bool true) ∧ Below w.heap.size w w' := by
  have hbox := run_boxS
  have HV := Hid.mk hV
  have Hs := Hid.mk hs
  have HL := Hid.mk hL
  obtain ⟨g, Hg⟩ : ∃ g, Hid (w.heap.size = g) := ⟨_, ⟨rfl⟩⟩
  obtain ⟨W, HW⟩ : ∃ W, Hid (w.alloc (.cells (sc s).toArray 22) = W) := ⟨_, ⟨rfl⟩⟩
  have HBW : Hid (Below w.heap.size w W) := ⟨by rw [← HW.out]; exact (Below.refl _ w).alloc (Nat.le_refl _) _⟩
  have HA0 : Hid (SumAt W g s) := ⟨by rw [← HW.out, ← Hg.out]; exact heap_alloc_new w _⟩
  have HVW : Hid (Vars W) := ⟨vars_far (X := []) hV (Chg.ofBelow HBW.out) (by simp)⟩
  have HgW : Hid (g < W.heap.size ∧ 0 < g) := ⟨HA0.out.lt, by rw [← Hg.out]; exact vars_pos hV⟩
  have t0 := sizes_any (w := W) a b ha hb
  have hft : ft ((1 + a % 300 : Nat) : Int) ((1 + b % 8 : Nat) : Int) = true := decide_eq_true (by omega)
  have hsz : 1 + a % 300 ≤ 300 := by omega
  have hwy : 1 + b % 8 ≤ 8 := by omega
  generalize 1 + a % 300 = size at t0 hft hsz
  generalize 1 + b % 8 = ways at t0 hft hwy
  have t1 := new_sd (w := W) (size := size) (ways := ways) hft
  obtain ⟨c, Hc⟩ : ∃ c, Hid (W.heap.size = c) := ⟨_, ⟨rfl⟩⟩
  rw [Hc.out] at t1
  obtain ⟨aL, cL, e, hcL, hcM, _⟩ := hL.rd.shape
  obtain ⟨nL, HnL⟩ : ∃ n, Hid (L.length = n) := ⟨_, ⟨rfl⟩⟩
  rw [HnL.out] at e hcL
  have Hv : Hid (v = .slice aL nL cL) := ⟨e⟩
  subst e
  obtain ⟨n, Hn⟩ : ∃ n, Hid (min nL 60 = n) := ⟨_, ⟨rfl⟩⟩
  have hmin : min (nL : Int) 60 = (n : Int) := by rw [← Hn.out]; omega
  have hn60 : n ≤ 60 := by rw [← Hn.out]; omega
  have hnL : n ≤ nL := by rw [← Hn.out]; omega
  have hnb : nL ≤ 9223372036854775807 := by unfold maxLen at hcM; omega
  clear hV hs hL hcL hcM
  go_enter Tryd.func6, Tryd.ntmps6
  go_upto_region 1 with fail
  rw [HW.out, Hg.out]
  go_upto_region 7 with (first
    | (go_at_call 20; refine t0.mono ?_; rintro e wx ⟨rfl, ex⟩; subst ex)
    | (go_at_call 8; refine t1.mono ?_; rintro e w1 ⟨p, hp, rfl, hF1, hb1⟩; have HX1 := Hid.mk hF1; have HB1 := Hid.mk hb1; have Hp := Hid.mk hp; clear hF1 hb1 hp t1; have t2 := new_sd (w := w1) (size := size) (ways := ways) hft)
    | (go_at_call 8; refine t2.mono ?_; rintro e w2 ⟨q, hq, rfl, hF2, hb2⟩; have HY2 := Hid.mk hF2; have HX2 : Hid (Sd w2 p c ((size + 63) / 64) size ways (List.replicate ((size + 63) / 64) 0) []) := ⟨HX1.out.below hb2⟩; have HB2 := Hid.mk hb2; have Hq := Hid.mk hq; clear hF2 hb2 hq))
  obtain ⟨d, Hd⟩ : ∃ d, Hid (w1.heap.size = d) := ⟨_, ⟨rfl⟩⟩
  rw [Hd.out] at HY2 Hq HB2
  have Hge : Hid (W.heap.size ≤ c ∧ c < p ∧ p < d ∧ d < q) := ⟨by
    have h1 := HX1.out.fl.lt
    have h2 := Hp.out
    have h3 := Hc.out
    have h4 := Hd.out
    have h5 := Hq.out
    omega⟩
  have HBw2 : Hid (Below W.heap.size W w2) := ⟨by
    have h1 : Below W.heap.size W w1 := by rw [Hc.out]; exact HB1.out
    exact h1.trans (HB2.out.mono (by rw [← Hd.out]; exact h1.size))⟩
  have HLr : Hid (∀ w', Below W.heap.size W w' → SumsV w' (.slice aL nL cL) L) := ⟨fun w' hb => ⟨HL.out.rd.far (X := []) ((Chg.ofBelow HBW.out).trans (Chg.ofBelow hb)) (by simp), HL.out.ok⟩⟩
  obtain ⟨cap, Hcap⟩ : ∃ c, Hid ((size + 63) / 64 = c) := ⟨_, ⟨rfl⟩⟩
  obtain ⟨cs0, Hcs0⟩ : ∃ c, Hid (List.replicate ((size + 63) / 64) 0 = c) := ⟨_, ⟨rfl⟩⟩
  rw [Hcs0.out] at HX2 HY2
  rw [Hcap.out] at HX2 HY2
  clear HX1 t2
  go_wp2_with fail
  go_loopg [16] n (fun gg s16 wr => ∃ (k : Nat) (cx cy : List Nat) (lx ly : List Int), k ≤ n ∧ n - k ≤ gg ∧ s16 = .int .i64 (k : Int) ∧ Hid (Sd wr p c cap size ways cx lx) ∧ Hid (Sd wr q d cap size ways cy ly) ∧ Hid (∀ y, y ∈ lx ↔ AtMost L size ways 0 k y) ∧ Hid (∀ y, y ∈ ly ↔ AtMost L size ways (n - k) n y) ∧ Hid (Below W.heap.size W wr))
  case atStart => exact ⟨0, cs0, cs0, [], [], Nat.zero_le _, by omega, rfl, HX2, HY2, ⟨fun y => ⟨fun h => (nomatch h), fun ⟨m, _, h, _⟩ => by omega⟩⟩, ⟨fun y => ⟨fun h => (nomatch h), fun ⟨m, h1, h2, _⟩ => by omega⟩⟩, HBw2⟩
  case round =>
    obtain ⟨k, cx, cy, lx, ly, hk, hgg, rfl, HX, HY, HMx, HMy, HGr⟩ := hrel
    have HVr : Hid (Vars wr) := ⟨vars_far (X := []) HVW.out (Chg.ofBelow HGr.out) (by simp)⟩
    by_cases hlt : k < n
    · have hz1 : (k : Int) < (n : Int) := by omega
      have hkz : (k : Int) < (nL : Int) := by omega
      have hkL : k < L.length := by rw [HnL.out]; omega
      obtain ⟨j, Hj⟩ : ∃ j, Hid (n - 1 - k = j) := ⟨_, ⟨rfl⟩⟩
      have hj : (n : Int) - 1 - (k : Int) = (j : Int) := by rw [← Hj.out]; omega
      have hjz : (j : Int) < (nL : Int) := by rw [← Hj.out]; omega
      have hjn : j < n := by rw [← Hj.out]; omega
      have hjL : j < L.length := by rw [HnL.out, ← Hj.out]; omega
      obtain ⟨bL, oL, kL, eL, hAt⟩ := (HLr.out _ HGr.out).rd.at hkL
      rw [HnL.out] at eL
      simp at eL
      obtain ⟨rfl, rfl⟩ := eL
      have HAj : Hid (∀ w', Below W.heap.size W w' → At w' bL (oL + j * 32) (sc (L.getD j []))) := ⟨fun w' hb => by
        obtain ⟨b', o', k', e', hA'⟩ := (HLr.out _ hb).rd.at hjL
        simp at e'
        obtain ⟨⟨rfl, rfl⟩, _⟩ := e'
        exact hA'⟩
      have HAk : Hid (∀ w', Below W.heap.size W w' → At w' bL (oL + k * 32) (sc (L.getD k []))) := ⟨fun w' hb => by
        obtain ⟨b', o', k', e', hA'⟩ := (HLr.out _ hb).rd.at hkL
        simp at e'
        obtain ⟨⟨rfl, rfl⟩, _⟩ := e'
        exact hA'⟩
      clear hAt
      have HMx2 : Hid (∀ y, y ∈ layF lx (plc (L.getD k []) size ways) ↔ AtMost L size ways 0 (k + 1) y) := ⟨fun y => by
        rw [mem_layF, HMx.out]
        constructor
        · rintro (⟨m, h1, h2, h3⟩ | h3)
          · exact ⟨m, h1, by omega, h3⟩
          · exact ⟨k, by omega, by omega, h3⟩
        · rintro ⟨m, h1, h2, h3⟩
          by_cases he : m = k
          · subst he; exact .inr h3
          · exact .inl ⟨m, h1, by omega, h3⟩⟩
      have HMy2 : Hid (∀ y, y ∈ layF ly (plc (L.getD j []) size ways) ↔ AtMost L size ways (n - (k + 1)) n y) := ⟨fun y => by
        rw [mem_layF, HMy.out]
        have hjj := Hj.out
        constructor
        · rintro (⟨m, h1, h2, h3⟩ | h3)
          · exact ⟨m, by omega, h2, h3⟩
          · exact ⟨j, by omega, by omega, h3⟩
        · rintro ⟨m, h1, h2, h3⟩
          by_cases he : m = j
          · subst he; exact .inr h3
          · exact .inl ⟨m, by omega, h2, h3⟩⟩
      have Hsk : Hid (Sum32 (L.getD k [])) := ⟨HL.out.ok _ (getD_mem' hkL)⟩
      have Hsj : Hid (Sum32 (L.getD j [])) := ⟨HL.out.ok _ (getD_mem' hjL)⟩
      have HPw : Hid ((plc (L.getD k []) size ways).length = ways) := ⟨plc_ways hft⟩
      generalize L.getD k [] = sk at HAk HMx2 Hsk HPw
      generalize L.getD j [] = sj at HAj HMy2 Hsj
      have Hln : Hid ((layF lx (plc sk size ways)).length ≤ lx.length + ways) := ⟨by have := lay_len (plc sk size ways) lx; rw [HPw.out] at this; exact this⟩
      obtain ⟨m0, Hm0⟩ : ∃ m, Hid (lx.length = m) := ⟨_, ⟨rfl⟩⟩
      have hm0 : m0 ≤ 300 := by rw [← Hm0.out]; have := HX.out.ag.small; omega
      obtain ⟨lx2, Hlx2⟩ : ∃ l, Hid (layF lx (plc sk size ways) = l) := ⟨_, ⟨rfl⟩⟩
      obtain ⟨ly2, Hly2⟩ : ∃ l, Hid (layF ly (plc sj size ways) = l) := ⟨_, ⟨rfl⟩⟩
      obtain ⟨m2, Hm2⟩ : ∃ m, Hid (lx2.length = m) := ⟨_, ⟨rfl⟩⟩
      rw [Hlx2.out] at HMx2 Hln
      rw [Hly2.out] at HMy2
      rw [Hm2.out, Hm0.out] at Hln
      have hgt : ¬ (m2 : Int) > (m0 : Int) + (ways : Int) := by have := Hln.out; omega
      have t3 := HX.out.ones HVr.out
      rw [Hm0.out] at t3
      go_wp2_with (first
        | (go_at_call 21; refine t3.mono ?_; rintro e w3 ⟨rfl, hb3⟩; have HX3 := Hid.mk (HX.out.below hb3); have HY3 := Hid.mk (HY.out.below hb3); have HB3 : Hid (Below W.heap.size W w3) := ⟨HGr.out.trans (hb3.mono HGr.out.size)⟩; clear hb3 t3; have t4 := HX3.out.add sk Hsk.out; rw [Hlx2.out] at t4)
        | (refine wp_loadS rfl (.tmp 61) rfl bL (oL + k * 32) (by kernel_rfl) sk (HAk.out _ HB3.out) Hsk.out ?_)
        | (go_at_call 17; refine t4.mono ?_; rintro e w4 ⟨rfl, ⟨cx4, hX4⟩, hC4⟩; have HX4 := Hid.mk hX4; have HY4 : Hid (Sd w4 q d cap size ways cy ly) := ⟨HY3.out.far hC4 (by have := Hge.out; simp; omega) (by have := Hge.out; simp; omega)⟩; have HB4 : Hid (Below W.heap.size W w4) := ⟨HB3.out.trans (hC4.below HB3.out.size (by have := Hge.out; simp; omega))⟩; clear hX4 hC4 t4; have t5 := HY4.out.add sj Hsj.out; rw [Hly2.out] at t5)
        | (refine wpList_unguard (by kernel_rfl) ?_; refine wp_loadS rfl (.tmp 72) rfl bL (oL + j * 32) (by kernel_rfl) sj (HAj.out _ HB4.out) Hsj.out ?_)
        | (go_at_call 17; refine t5.mono ?_; rintro e w5 ⟨rfl, ⟨cy5, hY5⟩, hC5⟩; have HY5 := Hid.mk hY5; have HX5 : Hid (Sd w5 p c cap size ways cx4 lx2) := ⟨HX4.out.far hC5 (by have := Hge.out; simp; omega) (by have := Hge.out; simp; omega)⟩; have HB5 : Hid (Below W.heap.size W w5) := ⟨HB4.out.trans (hC5.below HB4.out.size (by have := Hge.out; simp; omega))⟩; clear hY5 hC5 t5; have t6 := HX5.out.ones (vars_far (X := []) HVW.out (Chg.ofBelow HB5.out) (by simp)); rw [Hm2.out] at t6)
        | (go_at_call 21; refine t6.mono ?_; rintro e w6 ⟨rfl, hb6⟩; have HX6 := Hid.mk (HX5.out.below hb6); have HY6 := Hid.mk (HY5.out.below hb6); have HB6 : Hid (Below W.heap.size W w6) := ⟨HB5.out.trans (hb6.mono HB5.out.size)⟩; clear hb6 t6))
      go_roundg (n - (k + 1))
      case measure => omega
      case rel => exact ⟨k + 1, _, _, lx2, ly2, by omega, by omega, by go_num, HX6, HY6, HMx2, HMy2, HB6⟩
    · obtain rfl : k = n := by omega
      have HMs : Hid (∀ y, y ∈ lx ↔ y ∈ ly) := ⟨fun y => by rw [HMx.out, HMy.out, Nat.sub_self]⟩
      have Hin : Hid (∀ m, m < k → ∀ y ∈ plc (L.getD m []) size ways, y ∈ lx ∧ y ∈ ly) := ⟨fun m hm y hy => by
        have h1 : y ∈ lx := (HMx.out y).2 ⟨m, by omega, hm, hy⟩
        exact ⟨h1, (HMs.out y).1 h1⟩⟩
      obtain ⟨m, Hm⟩ : ∃ m, Hid (lx.length = m) := ⟨_, ⟨rfl⟩⟩
      have Hm2 : Hid (ly.length = m) := ⟨by rw [← Hm.out]; exact (same_len HX.out.ag.nd HY.out.ag.nd HMs.out).symm⟩
      have t3 := HX.out.ones HVr.out
      rw [Hm.out] at t3
      have HY0 := HY
      have HX0 := HX
      have HG0 := HGr
      clear HX HY HGr HMx HMy
      go_upto_region 14 with (go_at_call 21; refine t3.mono ?_; rintro e w3 ⟨rfl, hb3⟩; have HX3 := Hid.mk (HX0.out.below hb3); have HY3 := Hid.mk (HY0.out.below hb3); have HB3 : Hid (Below W.heap.size W w3) := ⟨HG0.out.trans (hb3.mono HG0.out.size)⟩; clear hb3 t3)
      clear HVr HX0 HY0 HG0 HX2 HY2
      go_wp2_with fail
      go_loopg [19] k (fun gg s19 wr => ∃ (i : Nat) (cx : List Nat), i ≤ k ∧ k - i ≤ gg ∧ s19 = .int .i64 (i : Int) ∧ Hid (Sd wr p c cap size ways cx lx) ∧ Hid (Sd wr q d cap size ways cy ly) ∧ Hid (Below W.heap.size W wr))
      case atStart => exact ⟨0, _, Nat.zero_le _, by omega, rfl, HX3, HY3, HB3⟩
      case round =>
        clear HX3 HY3 HB3
        obtain ⟨i, cx, hik, hgg, rfl, HX, HY, HGr⟩ := hrel
        have HVr : Hid (Vars wr) := ⟨vars_far (X := []) HVW.out (Chg.ofBelow HGr.out) (by simp)⟩
        by_cases hlt : i < k
        · have hz1 : (i : Int) < (k : Int) := by omega
          have hkz : (i : Int) < (nL : Int) := by omega
          have hkL : i < L.length := by rw [HnL.out]; omega
          obtain ⟨bL, oL, kL, eL, hAt⟩ := (HLr.out _ HGr.out).rd.at hkL
          rw [HnL.out] at eL
          simp at eL
          obtain ⟨rfl, rfl⟩ := eL
          have HAk : Hid (∀ w', Below W.heap.size W w' → At w' bL (oL + i * 32) (sc (L.getD i []))) := ⟨fun w' hb => by
            obtain ⟨b', o', k', e', hA'⟩ := (HLr.out _ hb).rd.at hkL
            simp at e'
            obtain ⟨⟨rfl, rfl⟩, _⟩ := e'
            exact hA'⟩
          clear hAt
          have Hsk : Hid (Sum32 (L.getD i [])) := ⟨HL.out.ok _ (getD_mem' hkL)⟩
          have Hik := Hid.mk (Hin.out i hlt)
          generalize L.getD i [] = sk at HAk Hsk Hik
          have Hsame : Hid (layF lx (plc sk size ways) = lx) := ⟨layF_same _ _ (fun y hy => (Hik.out y hy).1)⟩
          have Hdec : Hid (decide (∀ y ∈ plc sk size ways, y ∈ ly) = true) := ⟨decide_eq_true (fun y hy => (Hik.out y hy).2)⟩
          have t4 := HX.out.add sk Hsk.out
          rw [Hsame.out] at t4
          go_wp2_with (first
            | (refine wp_loadS rfl (.tmp 95) rfl bL (oL + i * 32) (by kernel_rfl) sk (HAk.out _ HGr.out) Hsk.out ?_)
            | (go_at_call 17; refine t4.mono ?_; rintro e w4 ⟨rfl, ⟨cx4, hX4⟩, hC4⟩; have HX4 := Hid.mk hX4; have HY4 : Hid (Sd w4 q d cap size ways cy ly) := ⟨HY.out.far hC4 (by have := Hge.out; simp; omega) (by have := Hge.out; simp; omega)⟩; have HB4 : Hid (Below W.heap.size W w4) := ⟨HGr.out.trans (hC4.below HGr.out.size (by have := Hge.out; simp; omega))⟩; clear hX4 hC4 t4; have t5 := HY4.out.has sk Hsk.out; rw [Hdec.out] at t5)
            | (refine wpList_unguard (by kernel_rfl) ?_; refine wp_loadS rfl (.tmp 103) rfl bL (oL + i * 32) (by kernel_rfl) sk (HAk.out _ HB4.out) Hsk.out ?_)
            | (go_at_call 14; refine t5.mono ?_; rintro e w5 ⟨rfl, hb5⟩; have HX5 := Hid.mk (HX4.out.below hb5); have HY5 := Hid.mk (HY4.out.below hb5); have HB5 : Hid (Below W.heap.size W w5) := ⟨HB4.out.trans (hb5.mono HB4.out.size)⟩; clear hb5 t5))
          go_roundg (k - (i + 1))
          case measure => omega
          case rel => exact ⟨i + 1, _, by omega, by omega, by go_num, HX5, HY5, HB5⟩
        · obtain rfl : i = k := by omega
          obtain ⟨es, Hes⟩ : ∃ es, Hid ((sc s).toArray = es) := ⟨_, ⟨rfl⟩⟩
          rw [Hes.out]
          have Hdec : Hid (decide (∀ y ∈ plc s size ways, y ∈ lx) = decide (∀ y ∈ plc s size ways, y ∈ ly)) := ⟨decide_eq_decide.2 ⟨fun h y hy => (HMs.out y).1 (h y hy), fun h y hy => (HMs.out y).2 (h y hy)⟩⟩
          have HSS : Hid (∀ w', Below wr.heap.size wr w' → (fun w' => (loadVar 22 ⟨g, 0, none⟩).run Tryd.prog w' = .ok (.agg es) w') w') := ⟨fun w' hb => by
            rw [← Hes.out]
            exact run_loadS (At.row ((HA0.out.far (X := []) (Chg.ofBelow HGr.out) (by simp)).far (X := []) (Chg.ofBelow hb) (by simp))) Hs.out⟩
          have HB9 : Hid (Below wr.heap.size wr wr.drew) := ⟨(Chg.refl [] wr).drew.below (Nat.le_refl _) (by simp)⟩
          have hS0 : (fun w' => (loadVar 22 ⟨g, 0, none⟩).run Tryd.prog w' = .ok (.agg es) w') wr.drew := HSS.out _ HB9.out
          have t1 := live_any (w := wr.drew) (vars_far (X := []) HVr.out (Chg.ofBelow HB9.out) (by simp))
          go_upto_region 19 with fail
          refine wp_region_held_drew (S := (fun w' => (loadVar 22 ⟨g, 0, none⟩).run Tryd.prog w' = .ok (.agg es) w')) (by kernel_rfl) hS0 (fun hS => ?_)
          refine wpAnyH_ready (rs := [0]) (by kernel_rfl) (by simp) (AllReadyH.cons rfl (fun Kc hK => ?_) AllReadyH.nil)
          go_simp
          refine t1.mono ?_
          rintro e w2 ⟨rfl, hb⟩
          have HB2 : Hid (Below wr.heap.size wr w2) := ⟨HB9.out.trans (hb.mono HB9.out.size)⟩
          refine hK.out _ _ (HSS.out _ HB2.out) (fun hS => ?_)
          clear hK hb
          have t2 := (HX.out.below HB2.out).ones (vars_far (X := []) HVr.out (Chg.ofBelow HB2.out) (by simp))
          rw [Hm.out] at t2
          refine wpAnyH_take (i := 1) (v := .bool true) rfl (by kernel_rfl) (by kernel_rfl) (by kernel_rfl) (fun _ _ _ h => h) (Or.inl ⟨by kernel_rfl, fun _ _ => by kernel_rfl⟩) hS ?_
          refine wpAnyH_take (i := 2) (v := .pointer (some ⟨p, 0, none⟩)) rfl (by kernel_rfl) (by kernel_rfl) (by kernel_rfl) (fun _ _ _ h => h) (Or.inl ⟨by kernel_rfl, fun _ _ => by kernel_rfl⟩) hS ?_
          refine wpAnyH_take (i := 4) (v := .int .i64 (m : Int)) rfl (by kernel_rfl) (by kernel_rfl) (by kernel_rfl) (fun _ _ _ h => h) (Or.inl ⟨by kernel_rfl, fun _ _ => by kernel_rfl⟩) hS ?_
          refine wpAnyH_ready (rs := [3]) (by kernel_rfl) (by simp) (AllReadyH.cons rfl (fun Kc hK => ?_) AllReadyH.nil)
          go_simp
          refine t2.mono ?_
          rintro e w3 ⟨rfl, hb⟩
          have HB3 : Hid (Below wr.heap.size wr w3) := ⟨HB2.out.trans (hb.mono HB2.out.size)⟩
          refine hK.out _ _ (HSS.out _ HB3.out) (fun hS => ?_)
          clear hK hb
          have t3 := (HY.out.below HB3.out).ones (vars_far (X := []) HVr.out (Chg.ofBelow HB3.out) (by simp))
          rw [Hm2.out] at t3
          refine wpAnyH_take (i := 5) (v := .bool true) rfl (by kernel_rfl) (by kernel_rfl) (by kernel_rfl) (fun _ _ _ h => h) (Or.inl ⟨by kernel_rfl, fun wx hx => by go_simp⟩) hS ?_
          refine wpAnyH_take (i := 6) (v := .bool true) rfl (by kernel_rfl) (by kernel_rfl) (by kernel_rfl) (fun _ _ _ h => h) (Or.inl ⟨by kernel_rfl, fun wx hx => by go_simp⟩) hS ?_
          refine wpAnyH_take (i := 7) (v := .bool true) rfl (by kernel_rfl) (by kernel_rfl) (by kernel_rfl) (fun _ _ _ h => h) (Or.inl ⟨by kernel_rfl, fun _ _ => by kernel_rfl⟩) hS ?_
          refine wpAnyH_take (i := 8) (v := .pointer (some ⟨q, 0, none⟩)) rfl (by kernel_rfl) (by kernel_rfl) (by kernel_rfl) (fun _ _ _ h => h) (Or.inl ⟨by kernel_rfl, fun _ _ => by kernel_rfl⟩) hS ?_
          refine wpAnyH_take (i := 10) (v := .int .i64 (m : Int)) rfl (by kernel_rfl) (by kernel_rfl) (by kernel_rfl) (fun _ _ _ h => h) (Or.inl ⟨by kernel_rfl, fun _ _ => by kernel_rfl⟩) hS ?_
          refine wpAnyH_ready (rs := [9]) (by kernel_rfl) (by simp) (AllReadyH.cons rfl (fun Kc hK => ?_) AllReadyH.nil)
          go_simp
          refine t3.mono ?_
          rintro e w4 ⟨rfl, hb⟩
          have HB4 : Hid (Below wr.heap.size wr w4) := ⟨HB3.out.trans (hb.mono HB3.out.size)⟩
          refine hK.out _ _ (HSS.out _ HB4.out) (fun hS => ?_)
          clear hK hb
          have t4 := (HX.out.below HB4.out).has s Hs.out
          rw [Hes.out] at t4
          refine wpAnyH_take (i := 11) (v := .bool true) rfl (by kernel_rfl) (by kernel_rfl) (by kernel_rfl) (fun _ _ _ h => h) (Or.inl ⟨by kernel_rfl, fun wx hx => by go_simp⟩) hS ?_
          refine wpAnyH_take (i := 12) (v := .bool true) rfl (by kernel_rfl) (by kernel_rfl) (by kernel_rfl) (fun _ _ _ h => h) (Or.inl ⟨by kernel_rfl, fun wx hx => by go_simp⟩) hS ?_
          refine wpAnyH_take (i := 13) (v := .bool true) rfl (by kernel_rfl) (by kernel_rfl) (by kernel_rfl) (fun _ _ _ h => h) (Or.inl ⟨by kernel_rfl, fun _ _ => by kernel_rfl⟩) hS ?_
          refine wpAnyH_take (i := 14) (v := .pointer (some ⟨p, 0, none⟩)) rfl (by kernel_rfl) (by kernel_rfl) (by kernel_rfl) (fun _ _ _ h => h) (Or.inl ⟨by kernel_rfl, fun _ _ => by kernel_rfl⟩) hS ?_
          refine wpAnyH_take (i := 15) (v := .agg es) rfl (by kernel_rfl) (by kernel_rfl) (by kernel_rfl) (fun _ _ _ h => h) (Or.inl ⟨by kernel_rfl, fun wx hx => exec_load rfl g 0 (by kernel_rfl) hx⟩) hS ?_
          refine wpAnyH_take (i := 17) (v := .pointer (some ⟨q, 0, none⟩)) rfl (by kernel_rfl) (by kernel_rfl) (by kernel_rfl) (fun _ _ _ h => h) (Or.inl ⟨by kernel_rfl, fun _ _ => by kernel_rfl⟩) hS ?_
          refine wpAnyH_take (i := 18) (v := .agg es) rfl (by kernel_rfl) (by kernel_rfl) (by kernel_rfl) (fun _ _ _ h => h) (Or.inl ⟨by kernel_rfl, fun wx hx => exec_load rfl g 0 (by kernel_rfl) hx⟩) hS ?_
          refine wpAnyH_ready (rs := [16]) (by kernel_rfl) (by simp) (AllReadyH.cons rfl (fun Kc hK => ?_) AllReadyH.nil)
          go_simp
          refine t4.mono ?_
          rintro e w5 ⟨rfl, hb⟩
          have HB5 : Hid (Below wr.heap.size wr w5) := ⟨HB4.out.trans (hb.mono HB4.out.size)⟩
          refine hK.out _ _ (HSS.out _ HB5.out) (fun hS => ?_)
          clear hK hb
          have t5 := (HY.out.below HB5.out).has s Hs.out
          rw [Hes.out, ← Hdec.out] at t5
          refine wpAnyH_ready (rs := [19]) (by kernel_rfl) (by simp) (AllReadyH.cons rfl (fun Kc hK => ?_) AllReadyH.nil)
          go_simp
          refine t5.mono ?_
          rintro e w6 ⟨rfl, hb⟩
          have HB6 : Hid (Below wr.heap.size wr w6) := ⟨HB5.out.trans (hb.mono HB5.out.size)⟩
          refine hK.out _ _ (HSS.out _ HB6.out) (fun hS => ?_)
          clear hK hb
          refine wpAnyH_take (i := 20) (v := .bool true) rfl (by kernel_rfl) (by kernel_rfl) (by kernel_rfl) (fun _ _ _ h => h) (Or.inl ⟨by kernel_rfl, fun wx hx => by go_simp⟩) hS ?_
          refine wpAnyH_take (i := 21) (v := .bool true) rfl (by kernel_rfl) (by kernel_rfl) (by kernel_rfl) (fun _ _ _ h => h) (Or.inl ⟨by kernel_rfl, fun wx hx => by go_simp⟩) hS ?_
          refine wpAnyH_take (i := 22) (v := .bool true) rfl (by kernel_rfl) (by kernel_rfl) (by kernel_rfl) (fun _ _ _ h => h) (Or.inl ⟨by kernel_rfl, fun _ _ => by kernel_rfl⟩) hS ?_
          refine wpAnyH_done (by kernel_rfl) ?_ _
          clear hS hS0
          go_simp
          go_wp2_with fail
          go_ret
          exact ⟨rfl, HBW.out.trans ((HGr.out.trans (HB6.out.mono HGr.out.size)).mono HBW.out.size)⟩
end Go.Proofs.YtiloclekhddkfabDoor
