/- The document's Take. -/
import Derived.Test.YtoneepoaodoijaaQ6
namespace Go.Proofs.Ytoneepoaodoijaa
open Go.RowKit Go.Lib Go.Shelf Oct

theorem TkR.bad' {b : List Int} {mo : Int} {k : Nat} {z : Int} (h1 : Good b mo k) (h2 : pos b k < b.length) (h3 : err b mo k = z) (h4 : z ≠ 0) : TkR b mo [] z := by
  subst h3
  exact .bad k h1 h2 h4
theorem Good.succ {b : List Int} {mo : Int} {k : Nat} (h1 : Good b mo k) (h2 : pos b k < b.length) (h3 : err b mo k = 0) : Good b mo (k + 1) := fun j hj => by
  by_cases e : j = k
  · subst e; exact ⟨h2, h3⟩
  · exact h1 j (by omega)
section
variable {w : World}
set_option maxHeartbeats 8000000 in
set_option maxRecDepth 100000 in
theorem rtake13 (v : Value) (b : List Int) (most : Int) (hv : RdY w v b) (hb : By b) (hm0 : -9223372036854775808 ≤ most ∧ most ≤ 9223372036854775807) (hbl : b.length ≤ 1000000000000000) :
    Calls Try.prog 13 #[v, .int .i64 most] w fun e w' => TkV w' w.heap.size b (min most 8192) e ∧ Below w.heap.size w w' := by
  obtain ⟨va, vc, rfl, h1, h2, _⟩ := hv.shape
  obtain ⟨mo, Hmo⟩ : ∃ m, Hid (min most 8192 = m) := ⟨_, ⟨rfl⟩⟩
  have hmo : -9223372036854775808 ≤ mo ∧ mo ≤ 8192 := by rw [← Hmo.out]; omega
  rw [Hmo.out]
  have HV0 := Hid.mk hv
  have HBy := Hid.mk hb
  obtain ⟨n, Hn⟩ : ∃ n, Hid (b.length = n) := ⟨_, ⟨rfl⟩⟩
  rw [Hn.out] at h1 HV0 hbl ⊢
  clear hv hb
  have hcs : (8192 < most ∧ mo = 8192) ∨ (¬ 8192 < most ∧ mo = most) := by rw [← Hmo.out]; omega
  obtain ⟨w1, Hw1⟩ : ∃ x, Hid (w.alloc (.cells #[] 5) = x) := ⟨_, ⟨rfl⟩⟩
  have HO1 : Hid (OwnY w1 w.heap.size (.slice (some ⟨w.heap.size, 0, none⟩) 0 0) []) := ⟨by rw [← Hw1.out]; exact owny_none w⟩
  have HB1 : Hid (Below w.heap.size w w1) := ⟨by rw [← Hw1.out]; exact (Below.refl _ w).alloc (Nat.le_refl _) _⟩
  rcases hcs with ⟨hgt, hq⟩ | ⟨hgt, hq⟩
  · have H8 : Hid ((8192 : Int) = mo) := ⟨hq.symm⟩
    clear hq
    go_enter Try.func13, Try.ntmps13
    go_upto_region 5 with fail
    rw [H8.out, Hw1.out]
    clear hgt
    go_loopg [6, 7] n (fun gg s6 s7 wr => ∃ (k p pn : Nat) (ra : Option Addr) (rc : Nat), p ≤ n ∧ n - p ≤ gg ∧ s7 = .int .i64 (p : Int) ∧ s6 = .slice ra pn rc ∧ Hid (Good b mo k) ∧ Hid (pos b k = p) ∧ Hid ((told b k).length = pn) ∧ Hid (OwnY wr w.heap.size (.slice ra pn rc) (told b k)) ∧ Hid (Below w.heap.size w wr))
    case atStart => exact ⟨0, 0, 0, _, _, Nat.zero_le _, by omega, rfl, rfl, ⟨fun j hj => by omega⟩, ⟨rfl⟩, ⟨rfl⟩, HO1, HB1⟩
    case round =>
      clear HO1 HB1
      obtain ⟨k, p, pn, ra, rc, hpn, hgg, rfl, rfl, HG, HP, HPn, HO, HB⟩ := hrel
      rename World => wo
      have hgt2 := HG.out.tle HBy.out
      have hah : pn = 0 ∨ (pn : Int) ≤ mo := by
        rw [← HPn.out]
        rcases hgt2.2 with h | h
        · subst h; exact .inl rfl
        · exact .inr h
      have hpn8 : pn ≤ 8192 := by omega
      have HByt := Hid.mk hgt2.1
      clear hgt2
      by_cases hlt : p < n
      · have hltz : (p : Int) < (n : Int) := by omega
        have HPl : Hid (pos b k < b.length) := ⟨by rw [HP.out, Hn.out]; exact hlt⟩
        obtain ⟨g, off, cap, e, hcap, hat⟩ := (RdY.at (Rd.far HV0.out (Chg.ofBelow (X := []) HB.out) (by simp)) (i := p) (by rw [Hn.out]; exact hlt))
        rw [Hn.out] at e hcap hat
        simp only [Value.slice.injEq] at e
        obtain ⟨rfl, -, rfl⟩ := e
        have c0 := hat p hlt
        have hg := HBy.out.get p
        obtain ⟨c, Hc⟩ : ∃ c : Nat, Hid ((b.getD p 0) = (c : Int)) := ⟨(b.getD p 0).toNat, ⟨by omega⟩⟩
        have HcN : Hid ((b.getD p 0).toNat = c) := ⟨by rw [Hc.out]; simp⟩
        rw [Hc.out] at c0 hg
        have hc256 : c < 256 := by omega
        have HVo : Hid (RdY wo (.slice (some ⟨g, off, none⟩) n vc) b) := ⟨Rd.far HV0.out (Chg.ofBelow (X := []) HB.out) (by simp)⟩
        have hp1 : IntKind.i64.wrap ((p : Int) + 1) = (p : Int) + 1 := IntWalk.i64_in _ ⟨by omega, by omega⟩
        have hp2 : IntKind.i64.wrap ((p : Int) + 1 + c) = (p : Int) + 1 + c := IntWalk.i64_in _ ⟨by omega, by omega⟩
        have hp3 : IntKind.i64.wrap ((p : Int) + 1 + c + 1) = (p : Int) + 1 + c + 1 := IntWalk.i64_in _ ⟨by omega, by omega⟩
        have hp4 : IntKind.i64.wrap ((pn : Int) + c) = (pn : Int) + c := IntWalk.i64_in _ ⟨by omega, by omega⟩
        have hp5 : IntKind.i64.wrap ((pn : Int) + c + 1) = (pn : Int) + c + 1 := IntWalk.i64_in _ ⟨by omega, by omega⟩
        clear hat hg
        by_cases hc : c < 128
        · have hcz : (c : Int) < 128 := by omega
          by_cases hl : n < p + 1 + (c + 1)
          · have hlz : (n : Int) < (p : Int) + 1 + c + 1 := by omega
            have HTT : tkP b p = (⟨[], 0, 0⟩, 0, 3) := by rw [tkP, HcN.out, Hn.out, if_neg (by omega), if_pos hl]
            have HE : Hid (err b mo k = 3) := ⟨by unfold err; rw [HP.out, HTT, if_pos (by simp)]⟩
            clear hl HTT
            go_wp2_with fail
            go_ret2
            exact ⟨⟨none, 0, 0, 3, [], rfl, .bad' HG.out HPl.out HE.out (by decide), owny_nil _ _⟩, HB.out⟩
          · have hlz : ¬ (n : Int) < (p : Int) + 1 + c + 1 := by omega
            have HTT : Hid (tkP b p = (⟨(b.drop (p + 1)).take (c + 1), 0, 0⟩, p + 1 + (c + 1), 0)) := ⟨by rw [tkP, HcN.out, Hn.out, if_neg (by omega), if_neg hl]⟩
            have hpll : ((b.drop (p + 1)).take (c + 1)).length = c + 1 := by rw [List.length_take, List.length_drop, Hn.out]; omega
            have herr : err b mo k = if mo - (pn : Int) < (c : Int) + 1 then 6 else 0 := by
              unfold err
              rw [HP.out, HTT.out, if_neg (by simp), ckP, Pc.size, hpll, if_neg (by omega), HPn.out]
              simp
            by_cases hmx : mo < (pn : Int) + c + 1
            · have HE : Hid (err b mo k = 6) := ⟨by rw [herr, if_pos (by omega)]⟩
              clear hl herr hpll
              go_wp2_with fail
              go_ret2
              exact ⟨⟨none, 0, 0, 6, [], rfl, .bad' HG.out HPl.out HE.out (by decide), owny_nil _ _⟩, HB.out⟩
            · have HGd : Hid (Good b mo (k + 1)) := ⟨HG.out.succ HPl.out (by rw [herr, if_neg (by omega)])⟩
              have HPo : Hid (pos b (k + 1) = p + 1 + (c + 1)) := ⟨by simp only [pos, HP.out, HTT.out]⟩
              have HTo : Hid (told b k ++ (b.drop (p + 1)).take (c + 1) = told b (k + 1)) := ⟨by simp only [told, HP.out, HTT.out, flw, cpy]⟩
              have HTl : Hid ((told b (k + 1)).length = pn + (c + 1)) := ⟨by rw [← HTo.out, List.length_append, hpll, HPn.out]⟩
              have HSb : Hid (RdY wo (.slice (some ⟨g, off + (p + 1), none⟩) (p + 1 + c + 1 - (p + 1)) (vc - (p + 1))) ((b.drop (p + 1)).take (c + 1))) := ⟨by rw [show p + 1 + c + 1 - (p + 1) = c + 1 by omega]; exact rdY_sub HVo.out (by omega) _ ⟨by omega, by omega⟩⟩
              have hlen : (told b k).length + ((b.drop (p + 1)).take (c + 1)).length ≤ 1000000000000 := by rw [HPn.out, hpll]; omega
              have hbs := HB.out.size
              have hx1 : (p : Int) + 1 + c + 1 ≤ (vc : Int) := by omega
              clear hl herr hpll
              go_wp2_with (refine wp_appY rfl (.tmp 43) (.tmp 50) rfl rfl HO.out rfl HSb.out hlen hbs ?_; intro v7 w7 hO7 hG7 hV7; rw [HTo.out] at hO7; have HO7 := Hid.mk hO7; have HG7 : Hid (Chg (ob (.slice ra pn rc)) wo w7) := ⟨hG7⟩; clear hO7 hG7 hV7; obtain ⟨a7, c7, e7, _⟩ := HO7.out.shape; rw [HTl.out] at e7; subst e7)
              have HB7 : Hid (Below w.heap.size w w7) := ⟨HB.out.trans (HG7.out.below HB.out.size (fun g hg => (World.ownsRow.lt HO.out g (mem_ob.1 hg)).1))⟩
              go_roundg (n - (p + 1 + (c + 1)))
              case measure => omega
              case rel => exact ⟨k + 1, p + 1 + (c + 1), pn + (c + 1), a7, c7, by omega, by omega, by go_num, rfl, HGd, HPo, HTl, HO7, HB7⟩
        · have hcz : ¬ (c : Int) < 128 := by omega
          have t1 := rtakeNum_any (.slice (some ⟨g, off, none⟩) n vc) b ((p : Int) + 1) wo (rdy_bs HVo.out) HBy.out
          have hs1 : IntKind.i64.wrap ((pn : Int) + c - 124) = (pn : Int) + c - 124 := IntWalk.i64_in _ ⟨by omega, by omega⟩
          have hs2 : IntKind.i64.wrap ((c : Int) - 124) = (c : Int) - 124 := IntWalk.i64_in _ ⟨by omega, by omega⟩
          by_cases he : (tkNum b ((p : Int) + 1)).2.2 = 0
          · have hok := tkNum_ok b _ HBy.out he
            obtain ⟨far, Hf⟩ : ∃ f : Nat, Hid ((tkNum b ((p : Int) + 1)).1 = (f : Int)) := ⟨(tkNum b ((p : Int) + 1)).1.toNat, ⟨by omega⟩⟩
            obtain ⟨nx, Hx⟩ : ∃ f : Nat, Hid ((tkNum b ((p : Int) + 1)).2.1 = (f : Int)) := ⟨(tkNum b ((p : Int) + 1)).2.1.toNat, ⟨by omega⟩⟩
            have HTT : Hid (tkP b p = (⟨[], far, c - 124⟩, nx, 0)) := ⟨by
              rw [tkP, HcN.out, if_pos (by omega), if_neg (by simpa using he), Hf.out, Hx.out]
              simp⟩
            have hnx : p + 1 < nx ∧ nx ≤ n ∧ far ≤ 9007199254740991 := by
              rw [Hf.out, Hx.out, Hn.out] at hok
              omega
            rw [he, Hf.out, Hx.out] at t1
            have herr : err b mo k = if far = 0 ∨ pn < far then 2 else if mo - (pn : Int) < ((c - 124 : Nat) : Int) then 6 else 0 := by
              unfold err
              rw [HP.out, HTT.out, if_neg (by simp), ckP, Pc.size, HPn.out]
              simp
            clear hok he
            by_cases hfa : far = 0 ∨ pn < far
            · have HE : Hid (err b mo k = 2) := ⟨by rw [herr, if_pos hfa]⟩
              have hd : (far = 0 ∧ (far : Int) = 0) ∨ (¬ (far : Int) = 0 ∧ (pn : Int) < (far : Int) ∧ pn < far) := by omega
              clear herr hfa
              rcases hd with ⟨-, hf0⟩ | ⟨hf0, hf1, hf2⟩
              all_goals
                go_wp2_with fail
                refine t1.mono ?_
                rintro e wx ⟨rfl, rfl⟩
                go_wp2_with fail
                go_ret2
                exact ⟨⟨none, 0, 0, 2, [], rfl, .bad' HG.out HPl.out HE.out (by decide), owny_nil _ _⟩, HB.out⟩
            · have hf0 : ¬ (far : Int) = 0 := by omega
              have hf1 : ¬ (pn : Int) < (far : Int) := by omega
              have hf2 : ¬ pn < far := by omega
              have hf4 : ((far : Int) == 0) = false := by simpa using hf0
              by_cases hmx : mo < (pn : Int) + c - 124
              · have HE : Hid (err b mo k = 6) := ⟨by rw [herr, if_neg hfa, if_pos (by omega)]⟩
                clear herr hfa
                go_wp2_with fail
                refine t1.mono ?_
                rintro e wx ⟨rfl, rfl⟩
                go_wp2_with fail
                go_ret2
                exact ⟨⟨none, 0, 0, 6, [], rfl, .bad' HG.out HPl.out HE.out (by decide), owny_nil _ _⟩, HB.out⟩
              · have HGd : Hid (Good b mo (k + 1)) := ⟨HG.out.succ HPl.out (by rw [herr, if_neg hfa, if_neg (by omega)])⟩
                have HPo : Hid (pos b (k + 1) = nx) := ⟨by simp only [pos, HP.out, HTT.out]⟩
                obtain ⟨m, Hm⟩ : ∃ m, Hid (c - 124 = m) := ⟨_, ⟨rfl⟩⟩
                have HTo : Hid (cpy far m (told b k) = told b (k + 1)) := ⟨by simp only [told, HP.out, HTT.out, flw, Hm.out, List.append_nil]⟩
                have hmc : (c : Int) - 124 = (m : Int) := by rw [← Hm.out]; omega
                rw [hmc] at hs2
                have HCP : Hid (∀ i, (cpy far i (told b k)).length = pn + i) := ⟨fun i => by rw [cpy_len, HPn.out]⟩
                have hf3 : 1 ≤ far ∧ far ≤ pn := by omega
                have hm131 : m ≤ 131 := by rw [← Hm.out]; omega
                have HOO : Hid (OwnY wo w.heap.size (.slice ra (pn + 0) rc) (cpy far 0 (told b k))) := ⟨HO.out⟩
                clear herr hfa
                go_wp2_with fail
                refine t1.mono ?_
                rintro e wx ⟨rfl, rfl⟩
                clear t1
                go_upto_region 23 with fail
                go_loopg [12, 6] m (fun gj s12 s6 wi => ∃ (i : Nat) (ia : Option Addr) (ic : Nat), i ≤ m ∧ m - i ≤ gj ∧ s12 = .int .i64 (i : Int) ∧ s6 = .slice ia (pn + i) ic ∧ Hid (OwnY wi w.heap.size (.slice ia (pn + i) ic) (cpy far i (told b k))) ∧ Hid (Below w.heap.size w wi))
                case atStart => exact ⟨0, ra, rc, Nat.zero_le _, by omega, rfl, rfl, HOO, HB⟩
                case round =>
                  obtain ⟨i, ia, ic, him, hgj, rfl, rfl, HOi, HBi⟩ := hrel
                  rename World => wi
                  by_cases hilt : i < m
                  · have hiltz : (i : Int) < (m : Int) := by omega
                    obtain ⟨gb, go, gcap, eg, hgc, hat⟩ := HOi.out.rd.at (i := pn + i - far) (by rw [HCP.out]; omega)
                    rw [HCP.out] at eg hat hgc
                    simp only [Value.slice.injEq] at eg
                    obtain ⟨rfl, -, rfl⟩ := eg
                    have d3 := hat (pn + i - far) (by omega)
                    obtain ⟨y, Hy⟩ : ∃ y, Hid ((cpy far i (told b k)).getD (pn + i - far) 0 = y) := ⟨_, ⟨rfl⟩⟩
                    rw [Hy.out] at d3
                    have HNX : Hid (cpy far (i + 1) (told b k) = cpy far i (told b k) ++ [y]) := ⟨by rw [cpy_snoc, HCP.out, Hy.out]⟩
                    have hsub : IntKind.i64.wrap (((pn + i : Nat) : Int) - (far : Int)) = ((pn + i - far : Nat) : Int) := by rw [show ((pn + i : Nat) : Int) - (far : Int) = ((pn + i - far : Nat) : Int) by omega]; exact IntWalk.i64_in _ ⟨by omega, by omega⟩
                    have hidx : ((pn + i - far : Nat) : Int) < ((pn + i : Nat) : Int) := by omega
                    obtain ⟨kk, Hkk⟩ : ∃ k, Hid (pn + i - far = k) := ⟨_, ⟨rfl⟩⟩
                    obtain ⟨ss, Hss⟩ : ∃ k, Hid (pn + i = k) := ⟨_, ⟨rfl⟩⟩
                    have hcl : (cpy far i (told b k)).length ≤ 1000000000000 := by rw [HCP.out]; omega
                    have hbo := HBi.out.size
                    have hsk : kk < ss := by rw [← Hkk.out, ← Hss.out]; omega
                    rw [Hkk.out] at d3 hsub hidx
                    rw [Hss.out] at hsub hidx HOi hgc ⊢
                    have hle : ss ≤ 1000000 := by rw [← Hss.out]; omega
                    clear hat
                    go_wp2_with (refine wp_appY1 (y := y) rfl (.tmp 87) (.tmp 95) rfl rfl HOi.out rfl hcl hbo ?_; intro v7 w7 hO7 hG7 hV7; have HO7 := Hid.mk hO7; have HG7 := Hid.mk hG7; clear hO7 hG7 hV7)
                    rw [← HNX.out] at HO7
                    obtain ⟨a7, c7, e7, _⟩ := HO7.out.shape
                    rw [HCP.out] at e7
                    subst e7
                    have HB7 : Hid (Below w.heap.size w w7) := ⟨HBi.out.trans (HG7.out.below HBi.out.size (fun g hg => (World.ownsRow.lt HOi.out g (mem_ob.1 hg)).1))⟩
                    go_roundg (m - (i + 1))
                    case measure => omega
                    case rel => exact ⟨i + 1, a7, c7, by omega, by omega, by go_num, rfl, HO7, HB7⟩
                  · obtain rfl : m = i := by omega
                    rw [HTo.out] at HOi
                    have HTl : Hid ((told b (k + 1)).length = pn + m) := ⟨by rw [← HTo.out, HCP.out]⟩
                    go_wp2_with fail
                    go_roundg (n - nx)
                    case measure => omega
                    case rel => exact ⟨k + 1, nx, pn + m, ia, ic, by omega, by omega, rfl, rfl, HGd, HPo, HTl, HOi, HBi⟩
          · obtain ⟨er, Her⟩ : ∃ er, Hid ((tkNum b ((p : Int) + 1)).2.2 = er) := ⟨_, ⟨rfl⟩⟩
            have HE : Hid (err b mo k = er) := ⟨by
              have HTT : tkP b p = (⟨[], 0, 0⟩, 0, er) := by rw [tkP, HcN.out, if_pos (by omega), if_pos he, Her.out]
              unfold err
              rw [HP.out, HTT, if_pos (by rw [← Her.out]; exact he)]⟩
            rw [Her.out] at t1 he
            have hne : (er != 0) = true := by simpa using he
            have Hne := Hid.mk he
            clear he
            go_wp2_with fail
            refine t1.mono ?_
            rintro e wx ⟨rfl, rfl⟩
            clear t1
            go_wp2_with fail
            go_ret2
            exact ⟨⟨none, 0, 0, er, [], rfl, .bad' HG.out HPl.out HE.out Hne.out, owny_nil _ _⟩, HB.out⟩
      · obtain rfl : n = p := by omega
        by_cases hmore : mo < (pn : Int)
        · go_wp2_with fail
          go_ret2
          exact ⟨⟨none, 0, 0, 6, [], rfl, .over k HG.out (by rw [HP.out, Hn.out]) (by rw [HPn.out]; exact hmore), owny_nil _ _⟩, HB.out⟩
        · go_wp2_with fail
          go_ret2
          exact ⟨⟨_, _, _, 0, told b k, rfl, .all k HG.out (by rw [HP.out, Hn.out]) (by rw [HPn.out]; omega), HO.out⟩, HB.out⟩
  · subst hq
    go_enter Try.func13, Try.ntmps13
    go_upto_region 5 with fail
    rw [Hw1.out]
    clear hgt
    go_loopg [6, 7] n (fun gg s6 s7 wr => ∃ (k p pn : Nat) (ra : Option Addr) (rc : Nat), p ≤ n ∧ n - p ≤ gg ∧ s7 = .int .i64 (p : Int) ∧ s6 = .slice ra pn rc ∧ Hid (Good b mo k) ∧ Hid (pos b k = p) ∧ Hid ((told b k).length = pn) ∧ Hid (OwnY wr w.heap.size (.slice ra pn rc) (told b k)) ∧ Hid (Below w.heap.size w wr))
    case atStart => exact ⟨0, 0, 0, _, _, Nat.zero_le _, by omega, rfl, rfl, ⟨fun j hj => by omega⟩, ⟨rfl⟩, ⟨rfl⟩, HO1, HB1⟩
    case round =>
      clear HO1 HB1
      obtain ⟨k, p, pn, ra, rc, hpn, hgg, rfl, rfl, HG, HP, HPn, HO, HB⟩ := hrel
      rename World => wo
      have hgt2 := HG.out.tle HBy.out
      have hah : pn = 0 ∨ (pn : Int) ≤ mo := by
        rw [← HPn.out]
        rcases hgt2.2 with h | h
        · subst h; exact .inl rfl
        · exact .inr h
      have hpn8 : pn ≤ 8192 := by omega
      have HByt := Hid.mk hgt2.1
      clear hgt2
      by_cases hlt : p < n
      · have hltz : (p : Int) < (n : Int) := by omega
        have HPl : Hid (pos b k < b.length) := ⟨by rw [HP.out, Hn.out]; exact hlt⟩
        obtain ⟨g, off, cap, e, hcap, hat⟩ := (RdY.at (Rd.far HV0.out (Chg.ofBelow (X := []) HB.out) (by simp)) (i := p) (by rw [Hn.out]; exact hlt))
        rw [Hn.out] at e hcap hat
        simp only [Value.slice.injEq] at e
        obtain ⟨rfl, -, rfl⟩ := e
        have c0 := hat p hlt
        have hg := HBy.out.get p
        obtain ⟨c, Hc⟩ : ∃ c : Nat, Hid ((b.getD p 0) = (c : Int)) := ⟨(b.getD p 0).toNat, ⟨by omega⟩⟩
        have HcN : Hid ((b.getD p 0).toNat = c) := ⟨by rw [Hc.out]; simp⟩
        rw [Hc.out] at c0 hg
        have hc256 : c < 256 := by omega
        have HVo : Hid (RdY wo (.slice (some ⟨g, off, none⟩) n vc) b) := ⟨Rd.far HV0.out (Chg.ofBelow (X := []) HB.out) (by simp)⟩
        have hp1 : IntKind.i64.wrap ((p : Int) + 1) = (p : Int) + 1 := IntWalk.i64_in _ ⟨by omega, by omega⟩
        have hp2 : IntKind.i64.wrap ((p : Int) + 1 + c) = (p : Int) + 1 + c := IntWalk.i64_in _ ⟨by omega, by omega⟩
        have hp3 : IntKind.i64.wrap ((p : Int) + 1 + c + 1) = (p : Int) + 1 + c + 1 := IntWalk.i64_in _ ⟨by omega, by omega⟩
        have hp4 : IntKind.i64.wrap ((pn : Int) + c) = (pn : Int) + c := IntWalk.i64_in _ ⟨by omega, by omega⟩
        have hp5 : IntKind.i64.wrap ((pn : Int) + c + 1) = (pn : Int) + c + 1 := IntWalk.i64_in _ ⟨by omega, by omega⟩
        clear hat hg
        by_cases hc : c < 128
        · have hcz : (c : Int) < 128 := by omega
          by_cases hl : n < p + 1 + (c + 1)
          · have hlz : (n : Int) < (p : Int) + 1 + c + 1 := by omega
            have HTT : tkP b p = (⟨[], 0, 0⟩, 0, 3) := by rw [tkP, HcN.out, Hn.out, if_neg (by omega), if_pos hl]
            have HE : Hid (err b mo k = 3) := ⟨by unfold err; rw [HP.out, HTT, if_pos (by simp)]⟩
            clear hl HTT
            go_wp2_with fail
            go_ret2
            exact ⟨⟨none, 0, 0, 3, [], rfl, .bad' HG.out HPl.out HE.out (by decide), owny_nil _ _⟩, HB.out⟩
          · have hlz : ¬ (n : Int) < (p : Int) + 1 + c + 1 := by omega
            have HTT : Hid (tkP b p = (⟨(b.drop (p + 1)).take (c + 1), 0, 0⟩, p + 1 + (c + 1), 0)) := ⟨by rw [tkP, HcN.out, Hn.out, if_neg (by omega), if_neg hl]⟩
            have hpll : ((b.drop (p + 1)).take (c + 1)).length = c + 1 := by rw [List.length_take, List.length_drop, Hn.out]; omega
            have herr : err b mo k = if mo - (pn : Int) < (c : Int) + 1 then 6 else 0 := by
              unfold err
              rw [HP.out, HTT.out, if_neg (by simp), ckP, Pc.size, hpll, if_neg (by omega), HPn.out]
              simp
            by_cases hmx : mo < (pn : Int) + c + 1
            · have HE : Hid (err b mo k = 6) := ⟨by rw [herr, if_pos (by omega)]⟩
              clear hl herr hpll
              go_wp2_with fail
              go_ret2
              exact ⟨⟨none, 0, 0, 6, [], rfl, .bad' HG.out HPl.out HE.out (by decide), owny_nil _ _⟩, HB.out⟩
            · have HGd : Hid (Good b mo (k + 1)) := ⟨HG.out.succ HPl.out (by rw [herr, if_neg (by omega)])⟩
              have HPo : Hid (pos b (k + 1) = p + 1 + (c + 1)) := ⟨by simp only [pos, HP.out, HTT.out]⟩
              have HTo : Hid (told b k ++ (b.drop (p + 1)).take (c + 1) = told b (k + 1)) := ⟨by simp only [told, HP.out, HTT.out, flw, cpy]⟩
              have HTl : Hid ((told b (k + 1)).length = pn + (c + 1)) := ⟨by rw [← HTo.out, List.length_append, hpll, HPn.out]⟩
              have HSb : Hid (RdY wo (.slice (some ⟨g, off + (p + 1), none⟩) (p + 1 + c + 1 - (p + 1)) (vc - (p + 1))) ((b.drop (p + 1)).take (c + 1))) := ⟨by rw [show p + 1 + c + 1 - (p + 1) = c + 1 by omega]; exact rdY_sub HVo.out (by omega) _ ⟨by omega, by omega⟩⟩
              have hlen : (told b k).length + ((b.drop (p + 1)).take (c + 1)).length ≤ 1000000000000 := by rw [HPn.out, hpll]; omega
              have hbs := HB.out.size
              have hx1 : (p : Int) + 1 + c + 1 ≤ (vc : Int) := by omega
              clear hl herr hpll
              go_wp2_with (refine wp_appY rfl (.tmp 43) (.tmp 50) rfl rfl HO.out rfl HSb.out hlen hbs ?_; intro v7 w7 hO7 hG7 hV7; rw [HTo.out] at hO7; have HO7 := Hid.mk hO7; have HG7 : Hid (Chg (ob (.slice ra pn rc)) wo w7) := ⟨hG7⟩; clear hO7 hG7 hV7; obtain ⟨a7, c7, e7, _⟩ := HO7.out.shape; rw [HTl.out] at e7; subst e7)
              have HB7 : Hid (Below w.heap.size w w7) := ⟨HB.out.trans (HG7.out.below HB.out.size (fun g hg => (World.ownsRow.lt HO.out g (mem_ob.1 hg)).1))⟩
              go_roundg (n - (p + 1 + (c + 1)))
              case measure => omega
              case rel => exact ⟨k + 1, p + 1 + (c + 1), pn + (c + 1), a7, c7, by omega, by omega, by go_num, rfl, HGd, HPo, HTl, HO7, HB7⟩
        · have hcz : ¬ (c : Int) < 128 := by omega
          have t1 := rtakeNum_any (.slice (some ⟨g, off, none⟩) n vc) b ((p : Int) + 1) wo (rdy_bs HVo.out) HBy.out
          have hs1 : IntKind.i64.wrap ((pn : Int) + c - 124) = (pn : Int) + c - 124 := IntWalk.i64_in _ ⟨by omega, by omega⟩
          have hs2 : IntKind.i64.wrap ((c : Int) - 124) = (c : Int) - 124 := IntWalk.i64_in _ ⟨by omega, by omega⟩
          by_cases he : (tkNum b ((p : Int) + 1)).2.2 = 0
          · have hok := tkNum_ok b _ HBy.out he
            obtain ⟨far, Hf⟩ : ∃ f : Nat, Hid ((tkNum b ((p : Int) + 1)).1 = (f : Int)) := ⟨(tkNum b ((p : Int) + 1)).1.toNat, ⟨by omega⟩⟩
            obtain ⟨nx, Hx⟩ : ∃ f : Nat, Hid ((tkNum b ((p : Int) + 1)).2.1 = (f : Int)) := ⟨(tkNum b ((p : Int) + 1)).2.1.toNat, ⟨by omega⟩⟩
            have HTT : Hid (tkP b p = (⟨[], far, c - 124⟩, nx, 0)) := ⟨by
              rw [tkP, HcN.out, if_pos (by omega), if_neg (by simpa using he), Hf.out, Hx.out]
              simp⟩
            have hnx : p + 1 < nx ∧ nx ≤ n ∧ far ≤ 9007199254740991 := by
              rw [Hf.out, Hx.out, Hn.out] at hok
              omega
            rw [he, Hf.out, Hx.out] at t1
            have herr : err b mo k = if far = 0 ∨ pn < far then 2 else if mo - (pn : Int) < ((c - 124 : Nat) : Int) then 6 else 0 := by
              unfold err
              rw [HP.out, HTT.out, if_neg (by simp), ckP, Pc.size, HPn.out]
              simp
            clear hok he
            by_cases hfa : far = 0 ∨ pn < far
            · have HE : Hid (err b mo k = 2) := ⟨by rw [herr, if_pos hfa]⟩
              have hd : (far = 0 ∧ (far : Int) = 0) ∨ (¬ (far : Int) = 0 ∧ (pn : Int) < (far : Int) ∧ pn < far) := by omega
              clear herr hfa
              rcases hd with ⟨-, hf0⟩ | ⟨hf0, hf1, hf2⟩
              all_goals
                go_wp2_with fail
                refine t1.mono ?_
                rintro e wx ⟨rfl, rfl⟩
                go_wp2_with fail
                go_ret2
                exact ⟨⟨none, 0, 0, 2, [], rfl, .bad' HG.out HPl.out HE.out (by decide), owny_nil _ _⟩, HB.out⟩
            · have hf0 : ¬ (far : Int) = 0 := by omega
              have hf1 : ¬ (pn : Int) < (far : Int) := by omega
              have hf2 : ¬ pn < far := by omega
              have hf4 : ((far : Int) == 0) = false := by simpa using hf0
              by_cases hmx : mo < (pn : Int) + c - 124
              · have HE : Hid (err b mo k = 6) := ⟨by rw [herr, if_neg hfa, if_pos (by omega)]⟩
                clear herr hfa
                go_wp2_with fail
                refine t1.mono ?_
                rintro e wx ⟨rfl, rfl⟩
                go_wp2_with fail
                go_ret2
                exact ⟨⟨none, 0, 0, 6, [], rfl, .bad' HG.out HPl.out HE.out (by decide), owny_nil _ _⟩, HB.out⟩
              · have HGd : Hid (Good b mo (k + 1)) := ⟨HG.out.succ HPl.out (by rw [herr, if_neg hfa, if_neg (by omega)])⟩
                have HPo : Hid (pos b (k + 1) = nx) := ⟨by simp only [pos, HP.out, HTT.out]⟩
                obtain ⟨m, Hm⟩ : ∃ m, Hid (c - 124 = m) := ⟨_, ⟨rfl⟩⟩
                have HTo : Hid (cpy far m (told b k) = told b (k + 1)) := ⟨by simp only [told, HP.out, HTT.out, flw, Hm.out, List.append_nil]⟩
                have hmc : (c : Int) - 124 = (m : Int) := by rw [← Hm.out]; omega
                rw [hmc] at hs2
                have HCP : Hid (∀ i, (cpy far i (told b k)).length = pn + i) := ⟨fun i => by rw [cpy_len, HPn.out]⟩
                have hf3 : 1 ≤ far ∧ far ≤ pn := by omega
                have hm131 : m ≤ 131 := by rw [← Hm.out]; omega
                have HOO : Hid (OwnY wo w.heap.size (.slice ra (pn + 0) rc) (cpy far 0 (told b k))) := ⟨HO.out⟩
                clear herr hfa
                go_wp2_with fail
                refine t1.mono ?_
                rintro e wx ⟨rfl, rfl⟩
                clear t1
                go_upto_region 23 with fail
                go_loopg [12, 6] m (fun gj s12 s6 wi => ∃ (i : Nat) (ia : Option Addr) (ic : Nat), i ≤ m ∧ m - i ≤ gj ∧ s12 = .int .i64 (i : Int) ∧ s6 = .slice ia (pn + i) ic ∧ Hid (OwnY wi w.heap.size (.slice ia (pn + i) ic) (cpy far i (told b k))) ∧ Hid (Below w.heap.size w wi))
                case atStart => exact ⟨0, ra, rc, Nat.zero_le _, by omega, rfl, rfl, HOO, HB⟩
                case round =>
                  obtain ⟨i, ia, ic, him, hgj, rfl, rfl, HOi, HBi⟩ := hrel
                  rename World => wi
                  by_cases hilt : i < m
                  · have hiltz : (i : Int) < (m : Int) := by omega
                    obtain ⟨gb, go, gcap, eg, hgc, hat⟩ := HOi.out.rd.at (i := pn + i - far) (by rw [HCP.out]; omega)
                    rw [HCP.out] at eg hat hgc
                    simp only [Value.slice.injEq] at eg
                    obtain ⟨rfl, -, rfl⟩ := eg
                    have d3 := hat (pn + i - far) (by omega)
                    obtain ⟨y, Hy⟩ : ∃ y, Hid ((cpy far i (told b k)).getD (pn + i - far) 0 = y) := ⟨_, ⟨rfl⟩⟩
                    rw [Hy.out] at d3
                    have HNX : Hid (cpy far (i + 1) (told b k) = cpy far i (told b k) ++ [y]) := ⟨by rw [cpy_snoc, HCP.out, Hy.out]⟩
                    have hsub : IntKind.i64.wrap (((pn + i : Nat) : Int) - (far : Int)) = ((pn + i - far : Nat) : Int) := by rw [show ((pn + i : Nat) : Int) - (far : Int) = ((pn + i - far : Nat) : Int) by omega]; exact IntWalk.i64_in _ ⟨by omega, by omega⟩
                    have hidx : ((pn + i - far : Nat) : Int) < ((pn + i : Nat) : Int) := by omega
                    obtain ⟨kk, Hkk⟩ : ∃ k, Hid (pn + i - far = k) := ⟨_, ⟨rfl⟩⟩
                    obtain ⟨ss, Hss⟩ : ∃ k, Hid (pn + i = k) := ⟨_, ⟨rfl⟩⟩
                    have hcl : (cpy far i (told b k)).length ≤ 1000000000000 := by rw [HCP.out]; omega
                    have hbo := HBi.out.size
                    have hsk : kk < ss := by rw [← Hkk.out, ← Hss.out]; omega
                    rw [Hkk.out] at d3 hsub hidx
                    rw [Hss.out] at hsub hidx HOi hgc ⊢
                    have hle : ss ≤ 1000000 := by rw [← Hss.out]; omega
                    clear hat
                    go_wp2_with (refine wp_appY1 (y := y) rfl (.tmp 87) (.tmp 95) rfl rfl HOi.out rfl hcl hbo ?_; intro v7 w7 hO7 hG7 hV7; have HO7 := Hid.mk hO7; have HG7 := Hid.mk hG7; clear hO7 hG7 hV7)
                    rw [← HNX.out] at HO7
                    obtain ⟨a7, c7, e7, _⟩ := HO7.out.shape
                    rw [HCP.out] at e7
                    subst e7
                    have HB7 : Hid (Below w.heap.size w w7) := ⟨HBi.out.trans (HG7.out.below HBi.out.size (fun g hg => (World.ownsRow.lt HOi.out g (mem_ob.1 hg)).1))⟩
                    go_roundg (m - (i + 1))
                    case measure => omega
                    case rel => exact ⟨i + 1, a7, c7, by omega, by omega, by go_num, rfl, HO7, HB7⟩
                  · obtain rfl : m = i := by omega
                    rw [HTo.out] at HOi
                    have HTl : Hid ((told b (k + 1)).length = pn + m) := ⟨by rw [← HTo.out, HCP.out]⟩
                    go_wp2_with fail
                    go_roundg (n - nx)
                    case measure => omega
                    case rel => exact ⟨k + 1, nx, pn + m, ia, ic, by omega, by omega, rfl, rfl, HGd, HPo, HTl, HOi, HBi⟩
          · obtain ⟨er, Her⟩ : ∃ er, Hid ((tkNum b ((p : Int) + 1)).2.2 = er) := ⟨_, ⟨rfl⟩⟩
            have HE : Hid (err b mo k = er) := ⟨by
              have HTT : tkP b p = (⟨[], 0, 0⟩, 0, er) := by rw [tkP, HcN.out, if_pos (by omega), if_pos he, Her.out]
              unfold err
              rw [HP.out, HTT, if_pos (by rw [← Her.out]; exact he)]⟩
            rw [Her.out] at t1 he
            have hne : (er != 0) = true := by simpa using he
            have Hne := Hid.mk he
            clear he
            go_wp2_with fail
            refine t1.mono ?_
            rintro e wx ⟨rfl, rfl⟩
            clear t1
            go_wp2_with fail
            go_ret2
            exact ⟨⟨none, 0, 0, er, [], rfl, .bad' HG.out HPl.out HE.out Hne.out, owny_nil _ _⟩, HB.out⟩
      · obtain rfl : n = p := by omega
        by_cases hmore : mo < (pn : Int)
        · go_wp2_with fail
          go_ret2
          exact ⟨⟨none, 0, 0, 6, [], rfl, .over k HG.out (by rw [HP.out, Hn.out]) (by rw [HPn.out]; exact hmore), owny_nil _ _⟩, HB.out⟩
        · go_wp2_with fail
          go_ret2
          exact ⟨⟨_, _, _, 0, told b k, rfl, .all k HG.out (by rw [HP.out, Hn.out]) (by rw [HPn.out]; omega), HO.out⟩, HB.out⟩
end
end Go.Proofs.Ytoneepoaodoijaa
