/- The document's Locate. -/
import Derived.Test.YtbdmbhpmbklaiaaX9
namespace Go.Proofs.Ytbdmbhpmbklaiaa
open Go.RowKit Go.Lib Go.Shelf Gf

/-- What Locate answers. -/
def lcA (L : List Sd) (k : Int) : Int × Int := if chwE L k = 0 then locA L k.toNat else (0, chwE L k)
/-- Are the first of two rows the same, but for one? -/
def smB (A L : List Sd) (i j : Nat) : Bool := decide (∀ t, t < j → t = i ∨ sl (A.getD t none) = sl (L.getD t none))
theorem smB_zero (A L : List Sd) (i : Nat) : smB A L i 0 = true := decide_eq_true (fun t ht => by omega)
theorem smB_succ (A L : List Sd) (i j : Nat) : smB A L i (j + 1) = (smB A L i j && (decide (j = i) || decide (sl (A.getD j none) = sl (L.getD j none)))) := by
  rw [Bool.eq_iff_iff]
  simp only [smB, Bool.and_eq_true, Bool.or_eq_true, decide_eq_true_eq]
  constructor
  · intro h
    exact ⟨fun t ht => h t (by omega), h j (by omega)⟩
  · rintro ⟨h1, h2⟩ t ht
    by_cases e : t = j
    · subst e; exact h2
    · exact h1 t (by omega)
theorem gw_sm {L : List Sd} {k i : Nat} (hs : ∀ t, t < L.length → (L.getD t none).isSome = true) (hc : chkE (L.set i none) (k : Int) = 0) : gwB L k i = smB ((List.range L.length).map (repS (L.set i none) k)) L i L.length := by
  unfold gwB smB isGrp
  rw [decide_eq_true hc, Bool.true_and, decide_eq_decide, List.length_set]
  have hg : ∀ t, t < L.length → ((List.range L.length).map (repS (L.set i none) k)).getD t none = repS (L.set i none) k t := fun t ht => by simp [List.getD, ht]
  constructor
  · intro h t ht
    by_cases e : t = i
    · exact .inl e
    · right
      have h1 := h t ht
      rw [set_get (fun h => e h.symm)] at h1
      rw [hg t ht, ← h1 (hs t ht)]
  · intro h t ht hst
    by_cases e : i = t
    · subst e
      rw [set_self ht] at hst
      cases hst
    · rw [set_get e] at hst ⊢
      rcases h t ht with h1 | h1
      · exact absurd h1.symm e
      · rw [hg t ht] at h1
        cases hq : L.getD t none with
        | none => rw [hq] at hst; cases hst
        | some s =>
          rw [hq] at h1
          have e2 : repS (L.set i none) k t = some (sl (repS (L.set i none) k t)) := rfl
          rw [e2, h1]
          rfl
theorem bool_eq {v : Value} {a b : Bool} (h : a = b) (hv : v = .bool a) : v = .bool b := by rw [hv, h]
theorem owni_made (w : World) : OwnI (w.alloc (.cells #[] 3)) w.heap.size (.slice (some ⟨w.heap.size, 0, none⟩) 0 0) [] :=
  World.ownsRow_made (e := 3) (size := 1) w #[] 0 (Nat.le_refl _) (by unfold maxLen; omega) (by simp)
section
variable {w : World}
theorem loc18 (v : Value) (L : List Sd) (k : Int) {B : Nat × TypeId} (hv : RdR w B v L) (hl : L.length ≤ 1000000) (h4 : ∀ i, i < L.length → (sl (L.getD i none)).length ≤ 4096) :
    Calls Try.prog 18 #[v, .int .i64 k] w fun e w' => e = .returned (.tuple #[.int .i64 (lcA L k).1, .int .i64 (lcA L k).2]) ∧ Below w.heap.size w w' := by
  unfold lcA
  by_cases hc : chwE L k = 0
  · rw [if_pos hc]
    obtain ⟨n, rfl, hF, hs⟩ := chw_fine hc
    exact loc_ok v L n hv h4 hc hF hs
  · rw [if_neg hc]
    exact loc_no v L k hv hl h4 hc
set_option maxHeartbeats 8000000 in
set_option maxRecDepth 100000 in
theorem rloc19 (v : Value) (L : List Sd) (k : Int) {B : Nat × TypeId} (hv : RdR w B v L) (hl : L.length ≤ 1000000) (hk0 : -9223372036854775808 ≤ k ∧ k ≤ 9223372036854775807) (h4 : ∀ i, i < L.length → (sl (L.getD i none)).length ≤ 4096) :
    Calls Try.prog 19 #[v, .int .i64 k] w fun e w' => e = .returned (.tuple #[.int .i64 (lcA L k).1, .int .i64 (lcA L k).2]) ∧ Below w.heap.size w w' := by
  have t1 := rcheck17 (w := w) v L k hv hl hk0 h4
  obtain ⟨A, HA⟩ : ∃ A, Hid (lcA L k = A) := ⟨_, ⟨rfl⟩⟩
  rw [HA.out]
  by_cases hc : chwE L k = 0
  · obtain ⟨kn, rfl, hF, hs⟩ := chw_fine hc
    have hlo := hF.lo
    have hhi := hF.hi
    have hk2 := hF.k32
    have HA2 : Hid (A = locA L kn) := ⟨by rw [← HA.out, lcA, if_pos hc]; rfl⟩
    have hck : ckA L (kn : Int) = (isGrp L kn, 0) := by rw [ckA, if_pos hc]; rfl
    rw [hck] at t1
    have HV : Hid (RdR w (w.heap.size, 1000) v L) := ⟨by obtain ⟨vs, x1, x2⟩ := hv; exact ⟨vs, x1, x2.1, fun i hi => by obtain ⟨u, hu, hs⟩ := x2.2 i hi; exact ⟨u, hu, hs.sh, hs.rd, fun h0 k hk => .inl (hs.rd.lt h0 k hk)⟩⟩⟩
    have HT : Hid (∀ (W : World) (u : Value) (i : Nat), RdR W (w.heap.size, 1000) u (L.set i none) → Calls Try.prog 15 #[u, .int .i64 (kn : Int)] W fun e w' => ∃ a n c z, e = .returned (.tuple #[.slice a n c, .int .i64 z]) ∧ RepV w' W.heap.size (L.set i none) (kn : Int) (.slice a n c) z ∧ Below W.heap.size W w') := ⟨fun W u i hu => rrep15 (w := W) u _ _ hu (by rw [List.length_set]; exact hl) hk0 (set_rows h4)⟩
    have HGS : Hid (∀ i, chkE (L.set i none) (kn : Int) = 0 → gwB L kn i = smB ((List.range L.length).map (repS (L.set i none) kn)) L i L.length) := ⟨fun i h => gw_sm hs h⟩
    have HGN : Hid (∀ i, chkE (L.set i none) (kn : Int) ≠ 0 → gwB L kn i = false) := ⟨fun i h => by unfold gwB; rw [decide_eq_false h]; rfl⟩
    obtain ⟨va, vc, rfl, h1, h2, _⟩ := hv.shape
    obtain ⟨n, Hn⟩ : ∃ n, Hid (L.length = n) := ⟨_, ⟨rfl⟩⟩
    rw [Hn.out] at hl h1 HV t1 hlo hhi HGS ⊢
    clear hv h4 h2 hF hs hc hck hk0 HA
    cases hg : isGrp L kn with
    | true =>
      rw [hg] at t1
      have HAA : Hid (A = (-1, 0)) := ⟨by rw [HA2.out, locA, if_pos hg]⟩
      clear hg
      go_enter Try.func19, Try.ntmps19
      go_wp2_with fail
      refine t1.mono ?_
      rintro e w1 ⟨rfl, hb⟩
      have HB := Hid.mk hb
      clear t1 hb
      go_wp2_with fail
      go_ret2
      exact ⟨by rw [HAA.out]; rfl, HB.out⟩
    | false =>
      rw [hg] at t1
      have HAA : Hid (A = if (fndI L kn n).length = 1 then ((fndI L kn n).getD 0 0, 0) else (0, 13)) := ⟨by rw [HA2.out, locA, hg, Hn.out]; rfl⟩
      clear hg
      go_enter Try.func19, Try.ntmps19
      go_wp2_with fail
      refine t1.mono ?_
      rintro e w1 ⟨rfl, hb⟩
      have HB1 := Hid.mk hb
      clear t1 hb
      go_wp2_with fail
      obtain ⟨w2, Hw2⟩ : ∃ x, Hid (w1.alloc (.cells #[] 3) = x) := ⟨_, ⟨rfl⟩⟩
      have HO2 : Hid (OwnI w2 w1.heap.size (.slice (some ⟨w1.heap.size, 0, none⟩) 0 0) []) := ⟨by rw [← Hw2.out]; exact owni_made w1⟩
      have HB2 : Hid (Below w1.heap.size w1 w2) := ⟨by rw [← Hw2.out]; exact (Below.refl _ w1).alloc (Nat.le_refl _) _⟩
      rw [Hw2.out]
      go_loopg [9, 8] n (fun gg s9 s8 wr => ∃ (i : Nat) (fa : Option Addr) (fl fc : Nat), i ≤ n ∧ n - i ≤ gg ∧ s9 = .int .i64 (i : Int) ∧ s8 = .slice fa fl fc ∧ Hid ((fndI L kn i).length = fl) ∧ Hid (OwnI wr w1.heap.size (.slice fa fl fc) (fndI L kn i)) ∧ Hid (Below w1.heap.size w1 wr))
      case atStart => exact ⟨0, _, 0, 0, Nat.zero_le _, by omega, rfl, rfl, ⟨rfl⟩, HO2, HB2⟩
      case round =>
        clear HO2 HB2
        obtain ⟨i, fa, fl, fc, hi, hgg, rfl, rfl, HFl, HO, HB⟩ := hrel
        rename World => wo
        have HBw : Hid (Below w.heap.size w wo) := ⟨HB1.out.trans (HB.out.mono HB1.out.size)⟩
        by_cases hlt : i < n
        · have hltz : (i : Int) < (n : Int) := by omega
          have hfl : fl ≤ i := by rw [← HFl.out]; exact fnd_len L kn i
          obtain ⟨w3, Hw3⟩ : ∃ y, Hid (wo.alloc (.cells #[] 33) = y) := ⟨_, ⟨rfl⟩⟩
          have HB3 : Hid (Below wo.heap.size wo w3) := ⟨by rw [← Hw3.out]; exact (Below.refl _ wo).alloc (Nat.le_refl _) _⟩
          have HE3 : Hid (OwnR w3 (w.heap.size, 1000) wo.heap.size (.slice (some ⟨wo.heap.size, 0, none⟩) 0 0) []) := ⟨by rw [← Hw3.out]; exact OwnR.none wo (w.heap.size, 1000)⟩
          have HV3 : Hid (RdR w3 (w.heap.size, 1000) (.slice va n vc) L) := ⟨(HV.out.below HBw.out).below HB3.out⟩
          have hlen : ([] : List Sd).length + L.length ≤ 1000000000000 := by rw [Hn.out]; simp; omega
          have hs3 := HB3.out.size
          have hwo : w.heap.size ≤ wo.heap.size := HBw.out.size
          go_upto_region 11 with (rw [Hw3.out]; refine wp_appR rfl (.tmp 32) (.tmp 33) rfl rfl HE3.out hwo (show (1000 : TypeId) ≠ 33 by decide) rfl HV3.out hlen hs3 ?_; intro v4 w4 hO4 hG4 hV4; have HO4 := Hid.mk hO4; have HG4 := Hid.mk hG4; clear hO4 hG4 hV4)
          obtain ⟨g, c4, cur, e4, hcap, hcm, hcur, hcs⟩ := ownR_cap HO4.out (by rw [List.nil_append, Hn.out]; omega)
          subst e4
          rw [List.nil_append, Hn.out] at hcap
          rw [List.nil_append, Hn.out] at HO4 ⊢
          have HB4 : Hid (Below wo.heap.size wo w4) := ⟨HB3.out.trans (HG4.out.below HB3.out.size (fun x hx => (HE3.out.lt x hx).1))⟩
          have hfz := ownR_frozenAt HO4.out i
          have hg : wo.heap.size ≤ g := (HO4.out.lt g (by simp [ob, Value.ownBlock])).1
          obtain ⟨ci, hci⟩ : ∃ ci, w4.cell? ⟨g, i, none⟩ = some ci := by
            obtain ⟨b', o', cp', e, _, hat⟩ := HO4.out.rd.at (i := i) (by rw [Hn.out]; exact hlt)
            simp only [Value.slice.injEq, Option.some.injEq, Addr.mk.injEq] at e
            obtain ⟨⟨rfl, rfl, -⟩, -, -⟩ := e
            obtain ⟨a, c, hc, _⟩ := hat i (by rw [Hn.out]; exact hlt)
            exact ⟨_, by simpa using hc⟩
          obtain ⟨w5, Hw5⟩ : ∃ x, Hid (w4.setCell ⟨g, i, none⟩ (.slice none 0 0) = x) := ⟨_, ⟨rfl⟩⟩
          have HO5 : Hid (OwnR w5 (w.heap.size, 1000) wo.heap.size (.slice (some ⟨g, 0, none⟩) n c4) (L.set i none)) := ⟨by rw [← Hw5.out]; exact ownR_stored HO4.out hwo (show (1000 : TypeId) ≠ 33 by decide) i (RdS.nil w4 (w.heap.size, 1000))⟩
          have HB5 : Hid (Below wo.heap.size wo w5) := ⟨by
            rw [← Hw5.out]
            exact HB4.out.trans (((Chg.refl [g] w4).setCell (a := ⟨g, i, none⟩) (.inl (by simp)) (.slice none 0 0)).below HB4.out.size (by simp; omega))⟩
          have t6 := HT.out w5 _ i HO5.out.rd
          clear HE3 HV3 hlen hs3 HO4 HG4 hcur hcs
          go_wp2_with fail
          rw [Hw5.out]
          refine t6.mono ?_
          rintro e w6 ⟨a6, n6, c6, z6, rfl, ⟨hz, _, hO6⟩, hb6⟩
          have HB6 : Hid (Below wo.heap.size wo w6) := ⟨HB5.out.trans (hb6.mono HB5.out.size)⟩
          have HB16 : Hid (Below w1.heap.size w1 w6) := ⟨HB.out.trans (HB6.out.mono HB.out.size)⟩
          have HI6 : Hid (OwnI w6 w1.heap.size (.slice fa fl fc) (fndI L kn i)) := ⟨own_far HO.out (Chg.ofBelow (X := []) HB6.out) (by simp)⟩
          by_cases hz0 : z6 = 0
          · subst hz0
            have HO6 := Hid.mk (hO6 rfl)
            rw [List.length_set, Hn.out] at HO6
            have HG := Hid.mk (HGS.out i hz.symm)
            obtain ⟨R, HR⟩ : ∃ R, Hid ((List.range n).map (repS (L.set i none) kn) = R) := ⟨_, ⟨rfl⟩⟩
            rw [show ((kn : Int).toNat) = kn by simp, HR.out] at HO6
            rw [HR.out] at HG
            have HRl : Hid (R.length = n) := ⟨by rw [← HR.out]; simp⟩
            have hn6 : n6 = n := by obtain ⟨_, _, e, _⟩ := HO6.out.rd.shape; simp only [Value.slice.injEq] at e; rw [HRl.out] at e; exact e.2.1
            subst hn6
            have HSZ : Hid (smB R L i 0 = true) := ⟨smB_zero R L i⟩
            have HBw6 : Hid (Below w.heap.size w w6) := ⟨HB1.out.trans (HB16.out.mono HB1.out.size)⟩
            clear t6 hz hO6 hb6 HGS HGN
            go_wp2_with fail
            go_loopg [14, 13] n6 (fun gj s14 s13 wi => ∃ (j : Nat) (y : Bool), j ≤ n6 ∧ n6 - j ≤ gj ∧ s14 = .int .i64 (j : Int) ∧ s13 = .bool y ∧ Hid (smB R L i j = y) ∧ Hid (Below w6.heap.size w6 wi))
            case atStart => exact ⟨0, true, Nat.zero_le _, by omega, rfl, rfl, HSZ, ⟨Below.refl _ _⟩⟩
            case round =>
              obtain ⟨j, y, hj, hgj, rfl, rfl, HS, HBi⟩ := hrel
              rename World => wi
              by_cases hjn : j < n6
              · have hjnz : (j : Int) < (n6 : Int) := by omega
                have hjR : j < R.length := by rw [HRl.out]; exact hjn
                have hjL : j < L.length := by rw [Hn.out]; exact hjn
                cases y with
                | false =>
                  have HS2 : Hid (smB R L i (j + 1) = false) := ⟨by rw [smB_succ, HS.out]; rfl⟩
                  go_upto_region 18 with fail
                  go_quiet (fail)
                  go_wp2_with fail
                  go_roundg (n6 - (j + 1))
                  case measure => omega
                  case rel => exact ⟨j + 1, false, by omega, by omega, by go_num, rfl, HS2, ⟨below_drewN HBi.out nq⟩⟩
                | true =>
                  by_cases hji : j = i
                  · subst hji
                    have HS2 : Hid (smB R L j (j + 1) = true) := ⟨by rw [smB_succ, HS.out, decide_eq_true rfl]; rfl⟩
                    go_upto_region 18 with fail
                    go_quiet (fail)
                    go_wp2_with fail
                    go_roundg (n6 - (j + 1))
                    case measure => omega
                    case rel => exact ⟨j + 1, true, by omega, by omega, by go_num, rfl, HS2, ⟨below_drewN HBi.out nq⟩⟩
                  · have hjiz : ¬ (j : Int) = (i : Int) := by omega
                    have hjib : ((j : Int) == (i : Int)) = false := by simpa using hjiz
                    obtain ⟨b1, o1, p1, e1, _, hc1⟩ := (HO6.out.rd.below HBi.out).at hjR
                    rw [HRl.out] at e1
                    simp only [Value.slice.injEq] at e1
                    obtain ⟨rfl, -, rfl⟩ := e1
                    obtain ⟨b2, o2, p2, e2, _, hc2⟩ := ((HV.out.below HBw6.out).below HBi.out).at hjL
                    rw [Hn.out] at e2
                    simp only [Value.slice.injEq] at e2
                    obtain ⟨rfl, -, rfl⟩ := e2
                    obtain ⟨a1, s1, c1, _, _, _, r1⟩ := hc1 j hjR
                    obtain ⟨a2, s2, c2, _, _, _, r2⟩ := hc2 j hjL
                    have k1 : ∀ nq, (convert 33 9 (.slice a1 (sl (R.getD j none)).length s1)).run Try.prog (wi.drewN nq) = .ok (.string (strG (sl (R.getD j none)))) (wi.drewN nq) := fun nq => run_strG (r1.rd.far (Chg.ofBelow (X := []) (below_drewN (Below.refl _ _) nq)) (by simp))
                    have k2 : ∀ nq, (convert 33 9 (.slice a2 (sl (L.getD j none)).length s2)).run Try.prog (wi.drewN nq) = .ok (.string (strG (sl (L.getD j none)))) (wi.drewN nq) := fun nq => run_strG (r2.rd.far (Chg.ofBelow (X := []) (below_drewN (Below.refl _ _) nq)) (by simp))
                    by_cases he : sl (R.getD j none) = sl (L.getD j none)
                    · have HS2 : Hid (smB R L i (j + 1) = true) := ⟨by rw [smB_succ, HS.out, decide_eq_true he, Bool.or_true]; rfl⟩
                      rw [he] at k1 c1
                      generalize (sl (L.getD j none)).length = sn at c1 c2 k1 k2
                      generalize strG (sl (L.getD j none)) = st at k1 k2
                      clear hc1 hc2 r1 r2 he hji
                      go_upto_region 18 with fail
                      go_quiet (fail)
                      go_wp2_with fail
                      go_roundg (n6 - (j + 1))
                      case measure => omega
                      case rel => exact ⟨j + 1, true, by omega, by omega, by go_num, rfl, HS2, ⟨below_drewN HBi.out nq⟩⟩
                    · have HS2 : Hid (smB R L i (j + 1) = false) := ⟨by rw [smB_succ, HS.out, decide_eq_false he, decide_eq_false hji]; rfl⟩
                      have hst : ¬ (strG (sl (R.getD j none))).toList = (strG (sl (L.getD j none))).toList := fun h => he (strG_inj h)
                      generalize (sl (R.getD j none)).length = sn at c1 k1
                      generalize (sl (L.getD j none)).length = sm at c2 k2
                      generalize strG (sl (R.getD j none)) = st1 at k1 hst
                      generalize strG (sl (L.getD j none)) = st2 at k2 hst
                      have hst2 : (st1.toList == st2.toList) = false := by rw [beq_eq_false_iff_ne]; exact hst
                      clear hc1 hc2 r1 r2 he hji
                      go_upto_region 18 with fail
                      go_quiet (fail)
                      go_wp2_with fail
                      go_roundg (n6 - (j + 1))
                      case measure => omega
                      case rel => exact ⟨j + 1, false, by omega, by omega, by go_num, rfl, HS2, ⟨below_drewN HBi.out nq⟩⟩
              · obtain rfl : n6 = j := by omega
                have HBo : Hid (Below wo.heap.size wo wi) := ⟨HB6.out.trans (HBi.out.mono HB6.out.size)⟩
                have HB17 : Hid (Below w1.heap.size w1 wi) := ⟨HB16.out.trans (HBi.out.mono HB16.out.size)⟩
                have HI7 : Hid (OwnI wi w1.heap.size (.slice fa fl fc) (fndI L kn i)) := ⟨own_far HI6.out (Chg.ofBelow (X := []) HBi.out) (by simp)⟩
                cases y with
                | false =>
                  have HNX : Hid (fndI L kn (i + 1) = fndI L kn i) := ⟨by rw [fndI, HG.out, HS.out, if_neg (by simp)]⟩
                  have HF7 : Hid ((fndI L kn (i + 1)).length = fl) := ⟨by rw [HNX.out]; exact HFl.out⟩
                  have HI8 : Hid (OwnI wi w1.heap.size (.slice fa fl fc) (fndI L kn (i + 1))) := ⟨by rw [HNX.out]; exact HI7.out⟩
                  go_wp2_with fail
                  go_roundg (n6 - (i + 1))
                  case measure => omega
                  case rel => exact ⟨i + 1, _, _, _, by omega, by omega, by go_num, rfl, HF7, HI8, HB17⟩
                | true =>
                  have HNX : Hid (fndI L kn (i + 1) = fndI L kn i ++ [(i : Int)]) := ⟨by rw [fndI, HG.out, HS.out, if_pos rfl]⟩
                  have HF6 : Hid ((fndI L kn i ++ [(i : Int)]).length = fl + 1) := ⟨by rw [List.length_append, HFl.out]; rfl⟩
                  have hln : (fndI L kn i).length ≤ 1000000000000 := by rw [HFl.out]; omega
                  have hbs := HB17.out.size
                  go_wp2_with (refine wp_appI1 rfl (.tmp 72) (.tmp 74) rfl rfl HI7.out rfl hln hbs ?_; intro v7 w7 hO7 hG7 hV7; obtain ⟨a7, c7, e7, _⟩ := hO7.rd.shape; rw [HF6.out] at e7; subst e7; rw [← HNX.out] at hO7; have HO7 := Hid.mk hO7; have HG7 : Hid (Chg (ob (.slice fa fl fc)) wi w7) := ⟨hG7⟩; clear hO7 hG7 hV7)
                  have HB7 : Hid (Below w1.heap.size w1 w7) := ⟨HB17.out.trans (HG7.out.below HB17.out.size (fun k hk => (World.ownsRow.lt HI7.out k (mem_ob.1 hk)).1))⟩
                  rw [← HNX.out] at HF6
                  go_roundg (n6 - (i + 1))
                  case measure => omega
                  case rel => exact ⟨i + 1, _, _, _, by omega, by omega, by go_num, rfl, HF6, HO7, HB7⟩
          · have hne : (z6 != 0) = true := by simpa using hz0
            have HNX : Hid (fndI L kn (i + 1) = fndI L kn i) := ⟨by rw [fndI, HGN.out i (by rw [← hz]; exact hz0), if_neg (by simp)]⟩
            have HF7 : Hid ((fndI L kn (i + 1)).length = fl) := ⟨by rw [HNX.out]; exact HFl.out⟩
            have HI7 : Hid (OwnI w6 w1.heap.size (.slice fa fl fc) (fndI L kn (i + 1))) := ⟨by rw [HNX.out]; exact HI6.out⟩
            clear hz0 hz hO6 hb6 t6
            go_wp2_with fail
            go_roundg (n - (i + 1))
            case measure => omega
            case rel => exact ⟨i + 1, _, _, _, by omega, by omega, by go_num, rfl, HF7, HI7, HB16⟩
        · obtain rfl : n = i := by omega
          by_cases h1f : fl = 1
          · subst h1f
            have HAF : Hid (A = ((fndI L kn n).getD 0 0, 0)) := ⟨by rw [HAA.out, if_pos HFl.out]⟩
            obtain ⟨b, off, cap, e, _, hat⟩ := HO.out.rd.at (i := 0) (by rw [HFl.out]; omega)
            simp only [Value.slice.injEq] at e
            obtain ⟨rfl, -, rfl⟩ := e
            have hc0 := hat 0 (by rw [HFl.out]; omega)
            simp only [Nat.add_zero] at hc0
            generalize (fndI L kn n).getD 0 0 = y at HAF hc0
            clear hat
            go_wp2_with fail
            go_ret2
            exact ⟨by rw [HAF.out]; rfl, HBw.out⟩
          · have HAF : Hid (A = (0, 13)) := ⟨by rw [HAA.out, if_neg (by rw [HFl.out]; exact h1f)]⟩
            have hz : ¬ (fl : Int) = 1 := by omega
            have hz2 : ((fl : Int) != 1) = true := by simpa using hz
            clear h1f
            go_wp2_with fail
            go_ret2
            exact ⟨by rw [HAF.out]; rfl, HBw.out⟩
  · have hck : ckA L k = (false, chwE L k) := by rw [ckA, if_neg hc]
    rw [hck] at t1
    have HAA : Hid (A = (0, chwE L k)) := ⟨by rw [← HA.out, lcA, if_neg hc]⟩
    have hne : (chwE L k != 0) = true := by simpa using hc
    obtain ⟨va, vc, rfl, h1, h2, _⟩ := hv.shape
    generalize chwE L k = r at *
    generalize L.length = n at *
    clear hv h4 hc hck HA
    go_enter Try.func19, Try.ntmps19
    go_wp2_with fail
    refine t1.mono ?_
    rintro e w1 ⟨rfl, hb⟩
    have HB := Hid.mk hb
    clear t1 hb
    go_wp2_with fail
    go_ret2
    exact ⟨by rw [HAA.out]; rfl, HB.out⟩
end
end Go.Proofs.Ytbdmbhpmbklaiaa
