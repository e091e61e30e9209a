/- The document's Group. -/
import Derived.Test.YtbdmbhpmbklaiaaT1
namespace Go.Proofs.Ytbdmbhpmbklaiaa
open Go.RowKit Gf

theorem lf_stop {L : List Sd} {k : Int} {i : Nat} (h : ¬ ((lfR L k i).length : Int) < k) : ∀ d, lfR L k (i + d) = lfR L k i ∧ lfP L k (i + d) = lfP L k i
  | 0 => ⟨rfl, rfl⟩
  | d + 1 => by
    obtain ⟨h1, h2⟩ := lf_stop h d
    have hl := lf_len L k i
    refine ⟨?_, ?_⟩
    · rw [← Nat.add_assoc, lfR, h1, if_neg (fun h' => h h'.2)]
    · rw [← Nat.add_assoc, lfP, h2, if_neg (fun h' => h (by rw [← hl]; exact h'.2))]
theorem ownG_some {w : World} {base : Nat} {v : Value} {l : List G} (h : OwnG w base v l) (h0 : 0 < l.length) : ∃ a n c, v = .slice (some a) n c := by
  obtain ⟨b, off, cap, rfl, _⟩ := h.rd.at h0
  exact ⟨_, _, _, rfl⟩
theorem grp_take (xs : List G) (R : List Sd) (n : Nat) (x : G) {b : Nat} (h : b < n) : (grp xs R n x).take (b + 1) = (grp xs R n x).take b ++ [acc xs R x xs.length b] := by
  rw [List.take_succ_eq_append_getElem (by rw [grp_len]; exact h)]
  simp only [grp, List.getElem_map, List.getElem_range]
  rfl
section
variable {w : World}
set_option maxHeartbeats 16000000 in
set_option maxRecDepth 100000 in
theorem rgroup27 (v : Value) (L : List Sd) (k : Int) (m N : Nat) {B : Nat × TypeId} (hv : RdR w B v L) (hl : L.length ≤ 256) (hm : m ≤ 256) (h0 : 0 < (lfR L k L.length).length) (hrow : ∀ j, j < (lfR L k L.length).length → (sl ((lfR L k L.length).getD j none)).length = N) (hN : N ≤ 4096) :
    Calls Try.prog 27 #[v, .int .i64 k, .int .i64 m] w fun e w' => ∃ a n c, e = .returned (.slice a n c) ∧ OwnR w' (0, 5) w.heap.size (.slice a n c) ((List.range m).map (fun j => some (grp (lfP L k L.length) (lfR L k L.length) N (gn j)))) ∧ Below w.heap.size w w' := by
  obtain ⟨va, vc, rfl, h1, h2, _⟩ := hv.shape
  have HV0 : Hid (RdR w (w.heap.size, 1000) (.slice va L.length vc) L) := ⟨by obtain ⟨vs, x1, x2⟩ := hv; exact ⟨vs, x1, x2.1, fun i hi => by obtain ⟨u, hu, hs⟩ := x2.2 i hi; exact ⟨u, hu, hs.sh, hs.rd, fun h0 k hk => .inl (hs.rd.lt h0 k hk)⟩⟩⟩
  have H0 := Hid.mk h0
  have HRow := Hid.mk hrow
  obtain ⟨n, Hn⟩ : ∃ n, Hid (L.length = n) := ⟨_, ⟨rfl⟩⟩
  rw [Hn.out] at hl h1 HV0 H0 HRow ⊢
  obtain ⟨w1, Hw1⟩ : ∃ y, Hid ((w.alloc (.cells #[] 5)).alloc (.cells #[] 33) = y) := ⟨_, ⟨rfl⟩⟩
  have HB1 : Hid (Below w.heap.size w w1) := ⟨by rw [← Hw1.out]; exact ((Below.refl _ w).alloc (Nat.le_refl _) _).alloc (by simp) _⟩
  have HO1 : Hid (OwnG w1 w.heap.size (.slice (some ⟨w.heap.size, 0, none⟩) 0 0) (lfP L k 0)) := ⟨by
    rw [← Hw1.out]
    exact OwnG.far (owny_none w) (Chg.ofBelow (X := []) ((Below.refl _ (w.alloc (.cells #[] 5))).alloc (Nat.le_refl _) _)) (by simp)⟩
  have HR1 : Hid (OwnR w1 (w.heap.size, 1000) w.heap.size (.slice (some ⟨w.heap.size + 1, 0, none⟩) 0 0) (lfR L k 0)) := ⟨by
    rw [← Hw1.out]
    have := OwnR.none (w.alloc (.cells #[] 5)) (w.heap.size, 1000)
    rw [World.size_alloc] at this
    exact this.base (Nat.le_succ _)⟩
  obtain ⟨f, Hf⟩ : ∃ f, Hid ((fun j => some (grp (lfP L k n) (lfR L k n) N (gn j))) = f) := ⟨_, ⟨rfl⟩⟩
  rw [Hf.out]
  clear h2 hv h0 hrow
  go_enter Try.func27, Try.ntmps27
  go_upto_region 4 with fail
  rw [Hw1.out]
  go_loopg [7, 8, 9] n (fun gg s7 s8 s9 wr => ∃ i : Nat, i ≤ n ∧ n - i ≤ gg ∧ s9 = .int .i64 (i : Int) ∧ Hid (OwnG wr w.heap.size s7 (lfP L k i)) ∧ Hid (OwnR wr (w.heap.size, 1000) w.heap.size s8 (lfR L k i)) ∧ Hid (Below w.heap.size w wr))
  case atStart => exact ⟨0, Nat.zero_le _, by omega, rfl, HO1, HR1, HB1⟩
  case round =>
    clear HO1 HR1 HB1
    obtain ⟨i, hi, hgg, rfl, HG, HR, HB⟩ := hrel
    rename World => wo
    obtain ⟨pa, pc, e7, _⟩ := HG.out.rd.shape
    subst e7
    obtain ⟨ra, rc, e8, _⟩ := HR.out.rd.shape
    subst e8
    have hlf := lf_len L k i
    have hle := lf_le L k i
    obtain ⟨rl, Hrl⟩ : ∃ r, Hid ((lfR L k i).length = r) := ⟨_, ⟨rfl⟩⟩
    obtain ⟨pl, Hpl⟩ : ∃ r, Hid ((lfP L k i).length = r) := ⟨_, ⟨rfl⟩⟩
    have HSP : Hid (lfP L k (i + 1) = if (L.getD i none).isSome ∧ (rl : Int) < k then lfP L k i ++ [gn i] else lfP L k i) := ⟨by rw [lfP, hlf, Hrl.out]⟩
    have HSR : Hid (lfR L k (i + 1) = if (L.getD i none).isSome ∧ (rl : Int) < k then lfR L k i ++ [L.getD i none] else lfR L k i) := ⟨by rw [lfR, Hrl.out]⟩
    have HST : Hid (¬ (rl : Int) < k → i ≤ n → lfR L k n = lfR L k i ∧ lfP L k n = lfP L k i) := ⟨fun h hin => by
      have := lf_stop (L := L) (k := k) (i := i) (by rw [Hrl.out]; exact h) (n - i)
      rwa [show i + (n - i) = n by omega] at this⟩
    rw [Hrl.out] at HR hle ⊢
    rw [Hpl.out] at HG ⊢
    have hpl : pl ≤ i := by rw [← Hpl.out, hlf, Hrl.out]; exact hle
    clear hlf
    by_cases hgo : i < n ∧ (rl : Int) < k
    · obtain ⟨hlt, hrk⟩ := hgo
      have hltz : (i : Int) < (n : Int) := by omega
      have hiL : i < L.length := by rw [Hn.out]; exact hlt
      obtain ⟨b, off, cap, e, _, hc⟩ := (HV0.out.below HB.out).at hiL
      rw [Hn.out] at e
      simp only [Value.slice.injEq] at e
      obtain ⟨rfl, -, rfl⟩ := e
      obtain ⟨sa, sc, c1, hsn, _, _, hs⟩ := hc i hiL
      have q1 := nilNe33 sa (sl (L.getD i none)).length sc wo
      have HN : Hid (sa.isSome = (L.getD i none).isSome) := ⟨by cases sa <;> cases hh : L.getD i none <;> simp_all⟩
      rw [HN.out] at q1
      have HS := Hid.mk hs
      have Hbl : Hid (b < w.heap.size) := ⟨by
        obtain ⟨b', off', cap', e, _, hc'⟩ := HV0.out.at hiL
        rw [Hn.out] at e
        simp only [Value.slice.injEq, Option.some.injEq, Addr.mk.injEq, and_true] at e
        obtain ⟨⟨rfl, rfl⟩, -, -⟩ := e
        obtain ⟨_, _, c1', _⟩ := hc' i hiL
        exact World.block_lt_of_cell? _ _ c1'⟩
      by_cases hso : (L.getD i none).isSome = true
      · rw [hso] at q1
        rw [if_pos ⟨hso, hrk⟩] at HSP HSR
        generalize (sl (L.getD i none)).length = sn at c1 q1 HS
        have hgn := gi_gn (show i < 256 by omega)
        have hPl : (lfP L k i).length ≤ 1000000000000 := by rw [Hpl.out]; omega
        have hRl : (lfR L k i).length ≤ 1000000000000 := by rw [Hrl.out]; omega
        have hbs := HB.out.size
        obtain ⟨y, Hy⟩ : ∃ y, Hid (gn i = y) := ⟨_, ⟨rfl⟩⟩
        rw [Hy.out] at hgn HSP
        clear hc hs hsn hso HN
        go_upto_region 8 with (rw [← hgn]; refine wp_appG1 rfl (.tmp 36) (.tmp 39) rfl rfl HG.out rfl hPl hbs ?_; intro v7 w7 hO7 hG7 hV7; have HO7 : Hid (OwnG w7 w.heap.size v7 (lfP L k (i + 1))) := ⟨(by rw [HSP.out]; exact hO7)⟩; have HG7 : Hid (Chg (ob (.slice pa pl pc)) wo w7) := ⟨hG7⟩; clear hO7 hG7 hV7)
        obtain ⟨a7, c7', e7, _⟩ := HO7.out.rd.shape
        subst e7
        obtain ⟨pl', Hpl'⟩ : ∃ r, Hid ((lfP L k (i + 1)).length = r) := ⟨_, ⟨rfl⟩⟩
        rw [Hpl'.out] at HO7 ⊢
        have hin : ∀ k', k' < w.heap.size ∨ Ty wo 1000 k' → k' ∉ ob (.slice pa pl pc) := fun k' hk' hm => by
          rcases hk' with hk' | hk'
          · have := (HG.out.lt k' hm).1; omega
          · exact (Ty.ne hk' (own_ty HG.out (mem_ob.1 hm)) (show (1000 : TypeId) ≠ 5 by decide)) rfl
        have HR7 : Hid (OwnR w7 (w.heap.size, 1000) w.heap.size (.slice ra rl rc) (lfR L k i)) := ⟨HR.out.far HG7.out hin (fun k' hk' hm => (Ty.ne (HR.out.ty k' hk') (own_ty HG.out (mem_ob.1 hm)) (by decide)) rfl)⟩
        have HS7 : Hid (RdS w7 (w.heap.size, 1000) (.slice sa sn sc) (L.getD i none)) := ⟨HS.out.far HG7.out hin⟩
        have HB7 : Hid (Below w.heap.size w w7) := ⟨HB.out.trans (HG7.out.below HB.out.size (fun x hx => (HG.out.lt x hx).1))⟩
        have hb7 := HB7.out.size
        have c7 : w7.cell? ⟨b, off + i, none⟩ = some (.slice sa sn sc) := (HG7.out.cell (a := ⟨b, off + i, none⟩) (World.block_lt_of_cell? _ _ c1) (fun hm => by have := (HG.out.lt b hm).1; have := Hbl.out; omega)).trans c1
        clear hin c1 hgn
        go_wp2_with (refine wp_appR1 rfl (.tmp 41) (.tmp 46) rfl rfl HR7.out (Nat.le_refl _) (show (1000 : TypeId) ≠ 33 by decide) HS7.out rfl hRl hb7 ?_; intro v9 w9 hO9 hG9 hV9; have HO9 : Hid (OwnR w9 (w.heap.size, 1000) w.heap.size v9 (lfR L k (i + 1))) := ⟨(by rw [HSR.out]; exact hO9)⟩; have HG9 : Hid (Chg (ob (.slice ra rl rc)) w7 w9) := ⟨hG9⟩; clear hO9 hG9 hV9)
        have HO79 : Hid (OwnG w9 w.heap.size (.slice a7 pl' c7') (lfP L k (i + 1))) := ⟨HO7.out.far HG9.out (fun k' hk' hm => (Ty.ne (own_ty HO7.out (mem_ob.1 hk')) (HR7.out.ty k' hm) (by decide)) rfl)⟩
        have HB9 : Hid (Below w.heap.size w w9) := ⟨HB7.out.trans (HG9.out.below HB7.out.size (fun x hx => (HR7.out.lt x hx).1))⟩
        go_roundg (n - (i + 1))
        case measure => omega
        case rel => exact ⟨i + 1, by omega, by omega, by go_num, HO79, HO9, HB9⟩
      · have hso' : (L.getD i none).isSome = false := by simpa using hso
        rw [hso'] at q1
        rw [if_neg (fun h => hso h.1)] at HSP HSR
        generalize (sl (L.getD i none)).length = sn at c1 q1
        clear hc hs hsn hso HN hso' HS
        go_wp2_with fail
        go_roundg (n - (i + 1))
        case measure => omega
        case rel => exact ⟨i + 1, by omega, by omega, by go_num, ⟨by rw [HSP.out]; exact HG.out⟩, ⟨by rw [HSR.out]; exact HR.out⟩, HB⟩
    · have HE : Hid (lfR L k n = lfR L k i ∧ lfP L k n = lfP L k i) := ⟨by
        by_cases h : i < n
        · exact HST.out (fun h' => hgo ⟨h, h'⟩) hi
        · obtain rfl : n = i := by omega
          exact ⟨rfl, rfl⟩⟩
      have hor : ¬ (i : Int) < (n : Int) ∨ ((i : Int) < (n : Int) ∧ ¬ (rl : Int) < k) := by omega
      clear hgo
      rcases hor with hq | ⟨hq, hq2⟩
      · go_upto_region 9 with fail
        obtain ⟨P, HPd⟩ : ∃ P, Hid (lfP L k n = P) := ⟨_, ⟨rfl⟩⟩
        obtain ⟨R, HRd⟩ : ∃ R, Hid (lfR L k n = R) := ⟨_, ⟨rfl⟩⟩
        have HGP : Hid (OwnG wo w.heap.size (.slice pa pl pc) P) := ⟨by rw [← HPd.out, HE.out.2]; exact HG.out⟩
        have HRP : Hid (OwnR wo (w.heap.size, 1000) w.heap.size (.slice ra rl rc) R) := ⟨by rw [← HRd.out, HE.out.1]; exact HR.out⟩
        have HRl : Hid (R.length = rl) := ⟨by rw [← HRd.out, HE.out.1]; exact Hrl.out⟩
        have HPl : Hid (P.length = rl) := ⟨by rw [← HPd.out, lf_len, HRd.out]; exact HRl.out⟩
        rw [HRd.out] at H0 HRow
        rw [HPd.out, HRd.out] at Hf
        have h0r : 0 < rl := by rw [← HRl.out]; exact H0.out
        have hpr : pl = rl := by
          obtain ⟨a', c', e', _⟩ := HGP.out.rd.shape
          simp only [Value.slice.injEq] at e'
          rw [e'.2.1, HPl.out]
        subst hpr
        clear HG HR HSP HSR HST HE hgg Hpl Hrl hle
        obtain ⟨w2, Hw2⟩ : ∃ y, Hid (wo.alloc (.cells #[] 33) = y) := ⟨_, ⟨rfl⟩⟩
        have HB2 : Hid (Below wo.heap.size wo w2) := ⟨by rw [← Hw2.out]; exact (Below.refl _ wo).alloc (Nat.le_refl _) _⟩
        have HO2 : Hid (OwnR w2 (0, 5) wo.heap.size (.slice (some ⟨wo.heap.size, 0, none⟩) 0 0) ((List.range 0).map f)) := ⟨by rw [← Hw2.out]; exact OwnR.none wo (0, 5)⟩
        go_upto_region 11 with fail
        rw [Hw2.out]
        go_loopg [10, 11, 12, 13, 14, 15, 16] m (fun gg s10 s11 _ _ _ _ _ wr => ∃ i : Nat, i ≤ m ∧ m - i ≤ gg ∧ s11 = .int .i64 (i : Int) ∧ Hid (OwnR wr (0, 5) wo.heap.size s10 ((List.range i).map f)) ∧ Hid (Below wo.heap.size wo wr))
        case atStart => exact ⟨0, Nat.zero_le _, by omega, rfl, HO2, HB2⟩
        case round =>
          clear HO2 HB2
          obtain ⟨i', hi', hgg', rfl, HO, HBo⟩ := hrel
          rename World => wi
          obtain ⟨oa, oc, e10, _⟩ := HO.out.rd.shape
          subst e10
          obtain ⟨on, Hon⟩ : ∃ r, Hid (((List.range i').map f).length = r) := ⟨_, ⟨rfl⟩⟩
          rw [Hon.out] at HO ⊢
          by_cases hlt : i' < m
          · have hltz : (i' : Int) < (m : Int) := by omega
            have hgn := gi_gn (show i' < 256 by omega)
            have HGi : Hid (RdG wi (.slice pa pl pc) P) := ⟨HGP.out.rd.far (Chg.ofBelow (X := []) HBo.out) (by simp)⟩
            have t1 := rweights40 (w := wi) (gn i') _ P HGi.out (by rw [HPl.out]; omega)
            rw [hgn] at t1
            have HFi : Hid (f i' = some (grp P R N (gn i'))) := ⟨by rw [← Hf.out]⟩
            obtain ⟨x, Hx⟩ : ∃ x, Hid (gn i' = x) := ⟨_, ⟨rfl⟩⟩
            rw [Hx.out] at HFi t1
            clear hgn HGi
            go_wp2_with fail
            refine t1.mono ?_
            rintro e w3 ⟨wa, wn, wc, rfl, hW3, hB3⟩
            have hwn : pl = wn := by
              obtain ⟨a', c', e', _⟩ := hW3.rd.shape
              simp only [Value.slice.injEq] at e'
              rw [e'.2.1, wts_len, HPl.out]
            subst hwn
            have HW3 := Hid.mk hW3
            have HB3 := Hid.mk hB3
            have HBo3 : Hid (Below wo.heap.size wo w3) := ⟨HBo.out.trans (hB3.mono HBo.out.size)⟩
            have HO3 : Hid (OwnR w3 (0, 5) wo.heap.size (.slice oa on oc) ((List.range i').map f)) := ⟨HO.out.below hB3⟩
            clear t1 hW3 hB3 HO HBo
            obtain ⟨w4, Hw4⟩ : ∃ y, Hid (w3.alloc (.cells #[] 5) = y) := ⟨_, ⟨rfl⟩⟩
            have HB4 : Hid (Below w3.heap.size w3 w4) := ⟨by rw [← Hw4.out]; exact (Below.refl _ w3).alloc (Nat.le_refl _) _⟩
            have HO4 : Hid (OwnG w4 w3.heap.size (.slice (some ⟨w3.heap.size, 0, none⟩) 0 0) ((grp P R N x).take 0)) := ⟨by rw [← Hw4.out]; exact owny_none w3⟩
            go_upto_region 16 with fail
            rw [Hw4.out]
            go_loopg [13, 14, 15, 16] N (fun gg2 s13 s14 _ _ wr => ∃ (b : Nat) (ga : Addr) (gnn gc : Nat), b ≤ N ∧ N - b ≤ gg2 ∧ s14 = .int .i64 (b : Int) ∧ s13 = .slice (some ga) gnn gc ∧ Hid (OwnG wr w3.heap.size (.slice (some ga) gnn gc) ((grp P R N x).take b)) ∧ Hid (Below w3.heap.size w3 wr))
            case atStart => exact ⟨0, _, _, _, Nat.zero_le _, by omega, rfl, rfl, HO4, HB4⟩
            case round =>
              clear HO4 HB4
              obtain ⟨b, ga, gnn, gc, hb, hgg2, rfl, rfl, HS, HBs⟩ := hrel
              rename World => wb
              have HBob : Hid (Below wo.heap.size wo wb) := ⟨HBo3.out.trans (HBs.out.mono HBo3.out.size)⟩
              have HRb : Hid (RdR wb (w.heap.size, 1000) (.slice ra pl rc) R) := ⟨HRP.out.rd.below HBob.out⟩
              obtain ⟨b6, o6, c6, e6, _, hc6⟩ := HRb.out.at (i := 0) (by rw [HRl.out]; exact h0r)
              rw [HRl.out] at e6
              simp only [Value.slice.injEq] at e6
              obtain ⟨rfl, -, rfl⟩ := e6
              obtain ⟨fa, fc, cf, _⟩ := hc6 0 (by rw [HRl.out]; exact h0r)
              rw [HRow.out 0 H0.out, Nat.add_zero] at cf
              have h0z : (0 : Int) < (pl : Int) := by omega
              clear hc6
              by_cases hbN : b < N
              · have hbNz : (b : Int) < (N : Int) := by omega
                have HGT := Hid.mk (grp_take P R N x hbN)
                go_upto_region 20 with fail
                go_loopg [15, 16] pl (fun gg3 s15 s16 wr => ∃ j : Nat, j ≤ pl ∧ pl - j ≤ gg3 ∧ s16 = .int .i64 (j : Int) ∧ s15 = .int .u8 (gi (acc P R x j b)) ∧ Hid (OwnG wr w3.heap.size (.slice (some ga) gnn gc) ((grp P R N x).take b)) ∧ Hid (Below w3.heap.size w3 wr))
                case atStart => exact ⟨0, Nat.zero_le _, by omega, rfl, rfl, HS, HBs⟩
                case round =>
                  clear HS HBs HBob HRb cf
                  obtain ⟨j, hj, hgg3, rfl, rfl, HS, HBs⟩ := hrel
                  rename World => wj
                  by_cases hjr : j < pl
                  · have hjrz : (j : Int) < (pl : Int) := by omega
                    have HBoj : Hid (Below wo.heap.size wo wj) := ⟨HBo3.out.trans (HBs.out.mono HBo3.out.size)⟩
                    obtain ⟨b7, o7, c7, e7, _, hc7⟩ := (HRP.out.rd.below HBoj.out).at (i := j) (by rw [HRl.out]; exact hjr)
                    rw [HRl.out] at e7
                    simp only [Value.slice.injEq, Option.some.injEq, Addr.mk.injEq, and_true] at e7
                    obtain ⟨⟨rfl, rfl⟩, -, rfl⟩ := e7
                    obtain ⟨ja, jc, cj, _, _, _, hjs⟩ := hc7 j (by rw [HRl.out]; exact hjr)
                    have hrj := HRow.out j (by rw [HRl.out]; exact hjr)
                    rw [hrj] at cj hjs
                    obtain ⟨b8, o8, c8, e8, _, hc8⟩ := hjs.rd.at (i := b) (by rw [hrj]; exact hbN)
                    rw [hrj] at e8
                    simp only [Value.slice.injEq] at e8
                    obtain ⟨rfl, -, rfl⟩ := e8
                    have cb := hc8 b (by rw [hrj]; exact hbN)
                    obtain ⟨b9, o9, c9, e9, _, hc9⟩ := (HW3.out.rd.far (Chg.ofBelow (X := []) HBs.out) (by simp)).at (i := j) (by rw [wts_len, HPl.out]; exact hjr)
                    rw [wts_len, HPl.out] at e9
                    simp only [Value.slice.injEq] at e9
                    obtain ⟨rfl, -, rfl⟩ := e9
                    have cw := hc9 j (by rw [wts_len, HPl.out]; exact hjr)
                    rw [wts_get _ _ (by rw [HPl.out]; exact hjr)] at cw
                    have HA : Hid (acc P R x (j + 1) b = acc P R x j b + wg P j x P.length * (sl (R.getD j none)).getD b 0) := ⟨acc_succ P R x j b⟩
                    have x1 := gi_xor (acc P R x j b) (wg P j x P.length * (sl (R.getD j none)).getD b 0)
                    rw [← HA.out] at x1
                    have t2 := fun w => rmul41q (wg P j x P.length) ((sl (R.getD j none)).getD b 0) w
                    obtain ⟨z, Hz⟩ : ∃ z, Hid (gi (acc P R x (j + 1) b) = z) := ⟨_, ⟨rfl⟩⟩
                    rw [Hz.out] at x1
                    generalize gi (acc P R x j b) = y0 at *
                    generalize gi (wg P j x P.length * (sl (R.getD j none)).getD b 0) = y1 at *
                    generalize gi (wg P j x P.length) = y2 at *
                    generalize gi ((sl (R.getD j none)).getD b 0) = y3 at *
                    clear hc7 hc8 hc9 hjs hrj
                    go_upto_region 22 with fail
                    go_quiet ((go_at_call 41; exact Calls.quiet_of_same (t2 _)))
                    go_wp2_with fail
                    go_roundg (pl - (j + 1))
                    case measure => omega
                    case rel => exact ⟨j + 1, by omega, by omega, by go_num, by rw [Hz.out], ⟨HS.out.far (Chg.ofBelow (X := []) (below_drewN (Below.refl _ wj) nq)) (by simp)⟩, ⟨below_drewN HBs.out nq⟩⟩
                  · obtain rfl : pl = j := by omega
                    have hl5 : ((grp P R N x).take b).length ≤ 1000000000000 := by rw [List.length_take, grp_len]; omega
                    have hz5 : w3.heap.size ≤ wj.heap.size := HBs.out.size
                    rw [HPl.out] at HGT
                    generalize acc P R x pl b = Y at HGT ⊢
                    go_wp2_with (refine wp_appG1 rfl (.tmp 87) (.tmp 89) rfl rfl HS.out rfl hl5 hz5 ?_; intro v7 w7 hO7 hG7 hV7)
                    have HO7 : Hid (OwnG w7 w3.heap.size v7 ((grp P R N x).take (b + 1))) := ⟨by rw [HGT.out]; exact hO7⟩
                    have HB7 : Hid (Below w3.heap.size w3 w7) := ⟨HBs.out.trans (hG7.below HBs.out.size (fun x hx => (HS.out.lt x hx).1))⟩
                    obtain ⟨g7, n7, c7, e7⟩ := ownG_some HO7.out (by rw [List.length_take, grp_len]; omega)
                    subst e7
                    clear hO7 hG7 hV7
                    go_roundg (N - (b + 1))
                    case measure => omega
                    case rel => exact ⟨b + 1, _, _, _, by omega, by omega, by go_num, rfl, HO7, HB7⟩
              · obtain rfl : N = b := by omega
                have HSd : Hid (RdS wb (0, 5) (.slice (some ga) gnn gc) (f i')) := ⟨by
                  rw [HFi.out, show grp P R N x = (grp P R N x).take N by rw [List.take_of_length_le (by rw [grp_len]; exact Nat.le_refl _)]]
                  exact HS.out.sd rfl ⟨_, _, _, rfl⟩⟩
                have HOb : Hid (OwnR wb (0, 5) wo.heap.size (.slice oa on oc) ((List.range i').map f)) := ⟨HO3.out.below HBs.out⟩
                have HNX : Hid ((List.range (i' + 1)).map f = (List.range i').map f ++ [f i']) := ⟨by rw [List.range_succ, List.map_append]; rfl⟩
                have hl5 : ((List.range i').map f).length ≤ 1000000000000 := by rw [List.length_map, List.length_range]; omega
                have hz5 : wo.heap.size ≤ wb.heap.size := HBob.out.size
                go_wp2_with (refine wp_appR1 rfl (.tmp 91) (.tmp 93) rfl rfl HOb.out (Nat.zero_le _) (show (5 : TypeId) ≠ 33 by decide) HSd.out rfl hl5 hz5 ?_; intro v7 w7 hO7 hG7 hV7)
                have HO7 : Hid (OwnR w7 (0, 5) wo.heap.size v7 ((List.range (i' + 1)).map f)) := ⟨by rw [HNX.out]; exact hO7⟩
                have HB7 : Hid (Below wo.heap.size wo w7) := ⟨HBob.out.trans (hG7.below HBob.out.size (fun x hx => (HOb.out.lt x hx).1))⟩
                clear hO7 hG7 hV7
                go_roundg (m - (i' + 1))
                case measure => omega
                case rel => exact ⟨i' + 1, by omega, by omega, by go_num, HO7, HB7⟩
          · obtain rfl : m = i' := by omega
            go_wp2_with fail
            go_ret
            exact ⟨_, _, _, rfl, HO.out.base HB.out.size, HB.out.trans (HBo.out.mono HB.out.size)⟩
      · go_upto_region 9 with fail
        obtain ⟨P, HPd⟩ : ∃ P, Hid (lfP L k n = P) := ⟨_, ⟨rfl⟩⟩
        obtain ⟨R, HRd⟩ : ∃ R, Hid (lfR L k n = R) := ⟨_, ⟨rfl⟩⟩
        have HGP : Hid (OwnG wo w.heap.size (.slice pa pl pc) P) := ⟨by rw [← HPd.out, HE.out.2]; exact HG.out⟩
        have HRP : Hid (OwnR wo (w.heap.size, 1000) w.heap.size (.slice ra rl rc) R) := ⟨by rw [← HRd.out, HE.out.1]; exact HR.out⟩
        have HRl : Hid (R.length = rl) := ⟨by rw [← HRd.out, HE.out.1]; exact Hrl.out⟩
        have HPl : Hid (P.length = rl) := ⟨by rw [← HPd.out, lf_len, HRd.out]; exact HRl.out⟩
        rw [HRd.out] at H0 HRow
        rw [HPd.out, HRd.out] at Hf
        have h0r : 0 < rl := by rw [← HRl.out]; exact H0.out
        have hpr : pl = rl := by
          obtain ⟨a', c', e', _⟩ := HGP.out.rd.shape
          simp only [Value.slice.injEq] at e'
          rw [e'.2.1, HPl.out]
        subst hpr
        clear HG HR HSP HSR HST HE hgg Hpl Hrl hle
        obtain ⟨w2, Hw2⟩ : ∃ y, Hid (wo.alloc (.cells #[] 33) = y) := ⟨_, ⟨rfl⟩⟩
        have HB2 : Hid (Below wo.heap.size wo w2) := ⟨by rw [← Hw2.out]; exact (Below.refl _ wo).alloc (Nat.le_refl _) _⟩
        have HO2 : Hid (OwnR w2 (0, 5) wo.heap.size (.slice (some ⟨wo.heap.size, 0, none⟩) 0 0) ((List.range 0).map f)) := ⟨by rw [← Hw2.out]; exact OwnR.none wo (0, 5)⟩
        go_upto_region 11 with fail
        rw [Hw2.out]
        go_loopg [10, 11, 12, 13, 14, 15, 16] m (fun gg s10 s11 _ _ _ _ _ wr => ∃ i : Nat, i ≤ m ∧ m - i ≤ gg ∧ s11 = .int .i64 (i : Int) ∧ Hid (OwnR wr (0, 5) wo.heap.size s10 ((List.range i).map f)) ∧ Hid (Below wo.heap.size wo wr))
        case atStart => exact ⟨0, Nat.zero_le _, by omega, rfl, HO2, HB2⟩
        case round =>
          clear HO2 HB2
          obtain ⟨i', hi', hgg', rfl, HO, HBo⟩ := hrel
          rename World => wi
          obtain ⟨oa, oc, e10, _⟩ := HO.out.rd.shape
          subst e10
          obtain ⟨on, Hon⟩ : ∃ r, Hid (((List.range i').map f).length = r) := ⟨_, ⟨rfl⟩⟩
          rw [Hon.out] at HO ⊢
          by_cases hlt : i' < m
          · have hltz : (i' : Int) < (m : Int) := by omega
            have hgn := gi_gn (show i' < 256 by omega)
            have HGi : Hid (RdG wi (.slice pa pl pc) P) := ⟨HGP.out.rd.far (Chg.ofBelow (X := []) HBo.out) (by simp)⟩
            have t1 := rweights40 (w := wi) (gn i') _ P HGi.out (by rw [HPl.out]; omega)
            rw [hgn] at t1
            have HFi : Hid (f i' = some (grp P R N (gn i'))) := ⟨by rw [← Hf.out]⟩
            obtain ⟨x, Hx⟩ : ∃ x, Hid (gn i' = x) := ⟨_, ⟨rfl⟩⟩
            rw [Hx.out] at HFi t1
            clear hgn HGi
            go_wp2_with fail
            refine t1.mono ?_
            rintro e w3 ⟨wa, wn, wc, rfl, hW3, hB3⟩
            have hwn : pl = wn := by
              obtain ⟨a', c', e', _⟩ := hW3.rd.shape
              simp only [Value.slice.injEq] at e'
              rw [e'.2.1, wts_len, HPl.out]
            subst hwn
            have HW3 := Hid.mk hW3
            have HB3 := Hid.mk hB3
            have HBo3 : Hid (Below wo.heap.size wo w3) := ⟨HBo.out.trans (hB3.mono HBo.out.size)⟩
            have HO3 : Hid (OwnR w3 (0, 5) wo.heap.size (.slice oa on oc) ((List.range i').map f)) := ⟨HO.out.below hB3⟩
            clear t1 hW3 hB3 HO HBo
            obtain ⟨w4, Hw4⟩ : ∃ y, Hid (w3.alloc (.cells #[] 5) = y) := ⟨_, ⟨rfl⟩⟩
            have HB4 : Hid (Below w3.heap.size w3 w4) := ⟨by rw [← Hw4.out]; exact (Below.refl _ w3).alloc (Nat.le_refl _) _⟩
            have HO4 : Hid (OwnG w4 w3.heap.size (.slice (some ⟨w3.heap.size, 0, none⟩) 0 0) ((grp P R N x).take 0)) := ⟨by rw [← Hw4.out]; exact owny_none w3⟩
            go_upto_region 16 with fail
            rw [Hw4.out]
            go_loopg [13, 14, 15, 16] N (fun gg2 s13 s14 _ _ wr => ∃ (b : Nat) (ga : Addr) (gnn gc : Nat), b ≤ N ∧ N - b ≤ gg2 ∧ s14 = .int .i64 (b : Int) ∧ s13 = .slice (some ga) gnn gc ∧ Hid (OwnG wr w3.heap.size (.slice (some ga) gnn gc) ((grp P R N x).take b)) ∧ Hid (Below w3.heap.size w3 wr))
            case atStart => exact ⟨0, _, _, _, Nat.zero_le _, by omega, rfl, rfl, HO4, HB4⟩
            case round =>
              clear HO4 HB4
              obtain ⟨b, ga, gnn, gc, hb, hgg2, rfl, rfl, HS, HBs⟩ := hrel
              rename World => wb
              have HBob : Hid (Below wo.heap.size wo wb) := ⟨HBo3.out.trans (HBs.out.mono HBo3.out.size)⟩
              have HRb : Hid (RdR wb (w.heap.size, 1000) (.slice ra pl rc) R) := ⟨HRP.out.rd.below HBob.out⟩
              obtain ⟨b6, o6, c6, e6, _, hc6⟩ := HRb.out.at (i := 0) (by rw [HRl.out]; exact h0r)
              rw [HRl.out] at e6
              simp only [Value.slice.injEq] at e6
              obtain ⟨rfl, -, rfl⟩ := e6
              obtain ⟨fa, fc, cf, _⟩ := hc6 0 (by rw [HRl.out]; exact h0r)
              rw [HRow.out 0 H0.out, Nat.add_zero] at cf
              have h0z : (0 : Int) < (pl : Int) := by omega
              clear hc6
              by_cases hbN : b < N
              · have hbNz : (b : Int) < (N : Int) := by omega
                have HGT := Hid.mk (grp_take P R N x hbN)
                go_upto_region 20 with fail
                go_loopg [15, 16] pl (fun gg3 s15 s16 wr => ∃ j : Nat, j ≤ pl ∧ pl - j ≤ gg3 ∧ s16 = .int .i64 (j : Int) ∧ s15 = .int .u8 (gi (acc P R x j b)) ∧ Hid (OwnG wr w3.heap.size (.slice (some ga) gnn gc) ((grp P R N x).take b)) ∧ Hid (Below w3.heap.size w3 wr))
                case atStart => exact ⟨0, Nat.zero_le _, by omega, rfl, rfl, HS, HBs⟩
                case round =>
                  clear HS HBs HBob HRb cf
                  obtain ⟨j, hj, hgg3, rfl, rfl, HS, HBs⟩ := hrel
                  rename World => wj
                  by_cases hjr : j < pl
                  · have hjrz : (j : Int) < (pl : Int) := by omega
                    have HBoj : Hid (Below wo.heap.size wo wj) := ⟨HBo3.out.trans (HBs.out.mono HBo3.out.size)⟩
                    obtain ⟨b7, o7, c7, e7, _, hc7⟩ := (HRP.out.rd.below HBoj.out).at (i := j) (by rw [HRl.out]; exact hjr)
                    rw [HRl.out] at e7
                    simp only [Value.slice.injEq, Option.some.injEq, Addr.mk.injEq, and_true] at e7
                    obtain ⟨⟨rfl, rfl⟩, -, rfl⟩ := e7
                    obtain ⟨ja, jc, cj, _, _, _, hjs⟩ := hc7 j (by rw [HRl.out]; exact hjr)
                    have hrj := HRow.out j (by rw [HRl.out]; exact hjr)
                    rw [hrj] at cj hjs
                    obtain ⟨b8, o8, c8, e8, _, hc8⟩ := hjs.rd.at (i := b) (by rw [hrj]; exact hbN)
                    rw [hrj] at e8
                    simp only [Value.slice.injEq] at e8
                    obtain ⟨rfl, -, rfl⟩ := e8
                    have cb := hc8 b (by rw [hrj]; exact hbN)
                    obtain ⟨b9, o9, c9, e9, _, hc9⟩ := (HW3.out.rd.far (Chg.ofBelow (X := []) HBs.out) (by simp)).at (i := j) (by rw [wts_len, HPl.out]; exact hjr)
                    rw [wts_len, HPl.out] at e9
                    simp only [Value.slice.injEq] at e9
                    obtain ⟨rfl, -, rfl⟩ := e9
                    have cw := hc9 j (by rw [wts_len, HPl.out]; exact hjr)
                    rw [wts_get _ _ (by rw [HPl.out]; exact hjr)] at cw
                    have HA : Hid (acc P R x (j + 1) b = acc P R x j b + wg P j x P.length * (sl (R.getD j none)).getD b 0) := ⟨acc_succ P R x j b⟩
                    have x1 := gi_xor (acc P R x j b) (wg P j x P.length * (sl (R.getD j none)).getD b 0)
                    rw [← HA.out] at x1
                    have t2 := fun w => rmul41q (wg P j x P.length) ((sl (R.getD j none)).getD b 0) w
                    obtain ⟨z, Hz⟩ : ∃ z, Hid (gi (acc P R x (j + 1) b) = z) := ⟨_, ⟨rfl⟩⟩
                    rw [Hz.out] at x1
                    generalize gi (acc P R x j b) = y0 at *
                    generalize gi (wg P j x P.length * (sl (R.getD j none)).getD b 0) = y1 at *
                    generalize gi (wg P j x P.length) = y2 at *
                    generalize gi ((sl (R.getD j none)).getD b 0) = y3 at *
                    clear hc7 hc8 hc9 hjs hrj
                    go_upto_region 22 with fail
                    go_quiet ((go_at_call 41; exact Calls.quiet_of_same (t2 _)))
                    go_wp2_with fail
                    go_roundg (pl - (j + 1))
                    case measure => omega
                    case rel => exact ⟨j + 1, by omega, by omega, by go_num, by rw [Hz.out], ⟨HS.out.far (Chg.ofBelow (X := []) (below_drewN (Below.refl _ wj) nq)) (by simp)⟩, ⟨below_drewN HBs.out nq⟩⟩
                  · obtain rfl : pl = j := by omega
                    have hl5 : ((grp P R N x).take b).length ≤ 1000000000000 := by rw [List.length_take, grp_len]; omega
                    have hz5 : w3.heap.size ≤ wj.heap.size := HBs.out.size
                    rw [HPl.out] at HGT
                    generalize acc P R x pl b = Y at HGT ⊢
                    go_wp2_with (refine wp_appG1 rfl (.tmp 87) (.tmp 89) rfl rfl HS.out rfl hl5 hz5 ?_; intro v7 w7 hO7 hG7 hV7)
                    have HO7 : Hid (OwnG w7 w3.heap.size v7 ((grp P R N x).take (b + 1))) := ⟨by rw [HGT.out]; exact hO7⟩
                    have HB7 : Hid (Below w3.heap.size w3 w7) := ⟨HBs.out.trans (hG7.below HBs.out.size (fun x hx => (HS.out.lt x hx).1))⟩
                    obtain ⟨g7, n7, c7, e7⟩ := ownG_some HO7.out (by rw [List.length_take, grp_len]; omega)
                    subst e7
                    clear hO7 hG7 hV7
                    go_roundg (N - (b + 1))
                    case measure => omega
                    case rel => exact ⟨b + 1, _, _, _, by omega, by omega, by go_num, rfl, HO7, HB7⟩
              · obtain rfl : N = b := by omega
                have HSd : Hid (RdS wb (0, 5) (.slice (some ga) gnn gc) (f i')) := ⟨by
                  rw [HFi.out, show grp P R N x = (grp P R N x).take N by rw [List.take_of_length_le (by rw [grp_len]; exact Nat.le_refl _)]]
                  exact HS.out.sd rfl ⟨_, _, _, rfl⟩⟩
                have HOb : Hid (OwnR wb (0, 5) wo.heap.size (.slice oa on oc) ((List.range i').map f)) := ⟨HO3.out.below HBs.out⟩
                have HNX : Hid ((List.range (i' + 1)).map f = (List.range i').map f ++ [f i']) := ⟨by rw [List.range_succ, List.map_append]; rfl⟩
                have hl5 : ((List.range i').map f).length ≤ 1000000000000 := by rw [List.length_map, List.length_range]; omega
                have hz5 : wo.heap.size ≤ wb.heap.size := HBob.out.size
                go_wp2_with (refine wp_appR1 rfl (.tmp 91) (.tmp 93) rfl rfl HOb.out (Nat.zero_le _) (show (5 : TypeId) ≠ 33 by decide) HSd.out rfl hl5 hz5 ?_; intro v7 w7 hO7 hG7 hV7)
                have HO7 : Hid (OwnR w7 (0, 5) wo.heap.size v7 ((List.range (i' + 1)).map f)) := ⟨by rw [HNX.out]; exact hO7⟩
                have HB7 : Hid (Below wo.heap.size wo w7) := ⟨HBob.out.trans (hG7.below HBob.out.size (fun x hx => (HOb.out.lt x hx).1))⟩
                clear hO7 hG7 hV7
                go_roundg (m - (i' + 1))
                case measure => omega
                case rel => exact ⟨i' + 1, by omega, by omega, by go_num, HO7, HB7⟩
          · obtain rfl : m = i' := by omega
            go_wp2_with fail
            go_ret
            exact ⟨_, _, _, rfl, HO.out.base HB.out.size, HB.out.trans (HBo.out.mono HB.out.size)⟩
end
end Go.Proofs.Ytbdmbhpmbklaiaa
