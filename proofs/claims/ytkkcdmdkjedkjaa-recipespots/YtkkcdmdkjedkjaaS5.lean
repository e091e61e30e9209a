/- slices.Compact of spots. -/
import Derived.Test.YtkkcdmdkjedkjaaS4
namespace Go.Proofs.Ytkkcdmdkjedkjaa
open Go.RowKit Go.Lib

section
variable {w : World}
theorem own_cells2 {base g n cap : Nat} {L : List Sp} (h : OwnE sp2 2 61 w base (.slice (some ⟨g, 0, none⟩) n cap) L) {i : Nat} (hi : i < L.length) : w.cell? ⟨g, i * 2, none⟩ = some (.int .i64 (L.getD i q0).1) ∧ w.cell? ⟨g, i * 2 + 1, none⟩ = some (.int .i64 (L.getD i q0).2) := by
  obtain ⟨b, o, c, e, hc⟩ := (h.rd q0).at' i hi
  simp at e
  obtain ⟨⟨rfl, rfl⟩, _, rfl⟩ := e
  have h0 := hc 0 (by decide)
  have h1 := hc 1 (by decide)
  simp only [Nat.zero_add, Nat.add_zero] at h0 h1
  exact ⟨h0.trans rfl, h1.trans rfl⟩
theorem wp_clearQ {ops : Array Oper} {rest : List Oper} {o : Oper} {ac : Act} {Q : Exit → Act → World → Prop} (hgd : o.guard = none) (s : Operand)
    (ho : o.op = .call { callee := .builtin .clear, args := #[s], argTypes := #[58] })
    {base g n cap c kk : Nat} {L : List Sp} (hown : OwnE sp2 2 61 w base (.slice (some ⟨g, 0, none⟩) n cap) L) (hn : L.length = n) (hk : kk < n) (hs : ac.eval s = .slice (some ⟨g, kk * 2, none⟩) (n - kk) c)
    (h : ∀ w', RdE sp2 2 (0, 0) w' (.slice (some ⟨g, 0, none⟩) kk cap) (L.take kk) → Chg [g] w w' → wpList Try.prog ops Q rest (ac.put o.dst (.tuple #[])) w') : wpList Try.prog ops Q (o :: rest) ac w :=
  wpList_plain hgd fun _ hK => by
    have h0 := hown.own
    rw [hn] at h0
    rcases h0.2 with ⟨hz, _⟩ | ⟨g', cap', cur, e', hb, hh, h1, h2, h3, h4⟩
    · cases hz
    simp at e'
    obtain ⟨rfl, rfl⟩ := e'
    have hfit : kk * 2 + (n - kk) * 2 ≤ cur.size := by rw [h3]; omega
    have hr := run_clearQ w o.type g (kk * 2) (n - kk) c cur hh (by omega) hfit
    unfold Oper.wp execOp
    simp only [ho, resolve, invoke, builtin, Sem.run_bind, Sem.run_pure, Result.andThen_ok, List.map_toArray, List.map_cons, List.map_nil, hs, hr]
    refine hK _ _ (h _ ⟨⟨_, _, by rw [List.length_take, Nat.min_eq_left (by omega)], by rw [List.length_take]; omega, h2, by simp⟩, fun i hi => ?_, fun x hx => sp2_one x⟩ ⟨rfl, rfl, rfl, by simp, fun k _ hx => setRow_other _ _ k _ (by simpa using hx)⟩)
    have hik : i < kk := by rw [List.length_take] at hi; omega
    refine ⟨g, 0, cap, by rw [List.length_take, Nat.min_eq_left (by omega)], fun j hj => ?_⟩
    rw [cell_of_row _ g _ _ 61 _ (setRow_heap _ _ _ _ 61 (0, 0) hh)]
    have hp : 0 + i * 2 + j < kk * 2 := by omega
    have hpc : 0 + i * 2 + j < cur.size := by omega
    obtain ⟨b', o', c', e2, hc2⟩ := (hown.rd q0).at' i (by omega)
    simp at e2
    obtain ⟨⟨rfl, rfl⟩, _, rfl⟩ := e2
    have h5 := hc2 j hj
    rw [cell_of_row _ g _ _ 61 _ hh] at h5
    have e5 : (L.take kk).getD i (0, 0) = L.getD i q0 := by simp only [List.getD]; rw [List.getElem?_take, if_pos hik]; rfl
    rw [e5, ← h5]
    rw [← Array.getElem?_toList, ← Array.getElem?_toList]
    simp only [List.append_assoc]
    rw [List.getElem?_append_left (by simp; omega), List.getElem?_take, if_pos hp]
set_option maxHeartbeats 8000000 in
set_option maxRecDepth 100000 in
theorem compact_any : ShutsBy (fun L => cp L L.length) := by
  intro w base v L h hL
  have H := Hid.mk h
  obtain ⟨av, cv, rfl, hcv, hcm, _⟩ := (h.rd q0).shape
  obtain ⟨n, Hn⟩ : ∃ n, Hid (L.length = n) := ⟨_, ⟨rfl⟩⟩
  simp only
  rw [Hn.out] at H hcv hL ⊢
  have hcm' : cv ≤ 9223372036854775807 := hcm
  by_cases h2 : n < 2
  · have Hcp : Hid (cp L n = L) := ⟨by
      have hn := Hn.out
      match L, n, hn, h2 with
      | [], 0, _, _ => rfl
      | [x], 1, _, _ => rfl⟩
    rw [Hcp.out]
    have hz : (n : Int) < 2 := by omega
    have HR : Hid (RdE sp2 2 (0, 0) w (.slice av n cv) L) := ⟨H.out.rd (0, 0)⟩
    clear h
    go_enter Try.func41, Try.ntmps41
    go_wp2_with fail
    go_ret
    exact ⟨_, rfl, HR.out, Chg.refl _ _⟩
  have hz : ¬ (n : Int) < 2 := by omega
  obtain ⟨g, cur, eg, hgb, hgh⟩ := own_row (by rw [← Hn.out]; have := h.own; rw [Hn.out] at this ⊢; exact this) (show 0 < n by omega)
  subst eg
  have Hob : Hid (ob (.slice (some ⟨g, 0, none⟩) n cv) = [g]) := ⟨by simp [ob, Value.ownBlock]⟩
  obtain ⟨R, HRs⟩ : ∃ R, Hid (cp L n = R) := ⟨_, ⟨rfl⟩⟩
  rw [HRs.out, Hob.out]
  have hg := guard61
  clear h hgh
  go_enter Try.func41, Try.ntmps41
  go_wp2_with fail
  go_loopg [3, 4, 5] n (fun gg s3 _ _ wr => ∃ k : Nat, 1 ≤ k ∧ k ≤ n ∧ n - k ≤ gg ∧ s3 = .int .i64 (k : Int) ∧ Hid (cp L k = L.take k) ∧ Hid (Chg [] w wr))
  case atStart => exact ⟨1, Nat.le_refl _, by omega, by omega, rfl, ⟨by have := Hn.out; match L, this with | x :: l, _ => rfl | [], h => simp at h; omega⟩, ⟨Chg.refl _ _⟩⟩
  case round =>
    obtain ⟨k, hk1, hk, hgg, rfl, HC, HG⟩ := hrel
    rename World => wo
    by_cases hlt : k < n
    · have hltz : (k : Int) < (n : Int) := by omega
      have HO : Hid (OwnE sp2 2 61 wo base (.slice (some ⟨g, 0, none⟩) n cv) L) := ⟨H.out.far HG.out (by simp)⟩
      have hc1 := own_cells2 HO.out (i := k) (by rw [Hn.out]; exact hlt)
      have hc0 := own_cells2 HO.out (i := k - 1) (by rw [Hn.out]; omega)
      have Hsame := Hid.mk (cp_same (L := L) (j := k) hk1)
      have Hnext := Hid.mk (cp_next (L := L) (j := k))
      have Hsn := Hid.mk (take_snoc (L := L) (j := k) (by rw [Hn.out]; exact hlt))
      obtain ⟨x, Hx⟩ : ∃ x, Hid (L.getD k q0 = x) := ⟨_, ⟨rfl⟩⟩
      obtain ⟨y, Hy⟩ : ∃ x, Hid (L.getD (k - 1) q0 = x) := ⟨_, ⟨rfl⟩⟩
      rw [Hx.out] at hc1 Hsame Hnext Hsn
      rw [Hy.out] at hc0 Hsame Hnext
      obtain ⟨m0, m1⟩ := hc1
      obtain ⟨p0, p1⟩ := hc0
      have k1 : (k : Int) - 1 = ((k - 1 : Nat) : Int) := by omega
      have k2 : IntKind.i64.wrap ((k - 1 : Nat) : Int) = ((k - 1 : Nat) : Int) := IntWalk.i64_in _ ⟨by omega, by omega⟩
      have k3 : ((k - 1 : Nat) : Int) < (n : Int) := by omega
      have k4 : ¬ n ≤ k - 1 := by omega
      by_cases hxy : x = y
      · have Hc' : Hid (cp L (k + 1) = L.take k) := ⟨by rw [Hsame.out hxy, HC.out]⟩
        have hq : ∀ w : World, (binOp .eql 61 (.agg #[.int .i64 x.1, .int .i64 x.2]) (.agg #[.int .i64 y.1, .int .i64 y.2])).run Try.prog w = .ok (.bool true) w := fun w => by rw [eq61]; simp [hxy]
        clear hxy
        go_upto_region 6 with fail
        go_quiet (fail)
        have HGq : Hid (Chg [g] w (wo.drewN nq)) := ⟨(HG.out.mono (by simp)).trans (Chg.ofBelow (below_drewN (Below.refl _ wo) nq))⟩
        have HOq : Hid (OwnE sp2 2 61 (wo.drewN nq) base (.slice (some ⟨g, 0, none⟩) n cv) (mid L (k + 1))) := ⟨by
          have e : mid L (k + 1) = L := by
            unfold mid
            rw [Hc'.out, List.length_take, Nat.min_eq_left (by rw [Hn.out]; omega), List.take_append_drop]
          rw [e]
          exact HO.out.far (Chg.ofBelow (X := []) (below_drewN (Below.refl _ wo) nq)) (by simp)⟩
        have Hck : Hid ((cp L (k + 1)).length = k) := ⟨by rw [Hc'.out, List.length_take, Nat.min_eq_left (by rw [Hn.out]; omega)]⟩
        clear HG HO HC Hsame Hnext Hsn Hx Hy m0 m1 p0 p1 hq Hc'
        obtain ⟨wq, Hwq⟩ : ∃ V, Hid (wo.drewN nq = V) := ⟨_, ⟨rfl⟩⟩
        rw [Hwq.out] at HGq HOq ⊢
        clear Hwq
        have hkn : k ≤ n := by omega
        have hkc : k ≤ cv := by omega
        go_wp2_with fail
        obtain ⟨m, Hm⟩ : ∃ m, Hid (n - k = m) := ⟨_, ⟨rfl⟩⟩
        obtain ⟨ck, Hck'⟩ : ∃ m, Hid (cv - k = m) := ⟨_, ⟨rfl⟩⟩
        have hm1 : 1 ≤ m := by have := Hm.out; omega
        have hmn : m ≤ 2513169434843 := by have := Hm.out; omega
        have hmc : m ≤ ck := by have := Hm.out; have := Hck'.out; omega
        have hcc : ck ≤ 9223372036854775807 := by have := Hck'.out; omega
        rw [Hm.out, Hck'.out]
        clear hgg
        go_loopg [3, 5] m (fun gg s3 s5 wr => ∃ k2 : Nat, 1 ≤ k2 ∧ k2 ≤ m ∧ m - k2 ≤ gg ∧ s5 = .int .i64 (k2 : Int) ∧ s3 = .int .i64 (((cp L (k + k2)).length : Nat) : Int) ∧ Hid ((cp L (k + k2)).length + 1 ≤ k + k2) ∧ Hid (OwnE sp2 2 61 wr base (.slice (some ⟨g, 0, none⟩) n cv) (mid L (k + k2))) ∧ Hid (Chg [g] w wr))
        case atStart => exact ⟨1, Nat.le_refl _, hm1, by omega, rfl, by rw [Hck.out], ⟨by rw [Hck.out]; exact Nat.le_refl _⟩, HOq, HGq⟩
        case round =>
          clear HOq HGq Hck
          obtain ⟨k2, hk21, hk2, hgg, rfl, rfl, HL1, HO, HG⟩ := hrel
          by_cases hlt2 : k2 < m
          · have hlt2z : (k2 : Int) < (m : Int) := by omega
            have Hjn : Hid (k + k2 < n) := ⟨by have := Hm.out; omega⟩
            have Hml : Hid ((mid L (k + k2)).length = n) := ⟨by rw [mid_len (by rw [Hn.out]; exact Nat.le_of_lt Hjn.out), Hn.out]⟩
            have hc1 := own_cells2 HO.out (i := k + k2) (by rw [Hml.out]; exact Hjn.out)
            have hc0 := own_cells2 HO.out (i := k + k2 - 1) (by rw [Hml.out]; have := Hjn.out; omega)
            rw [mid_far (by have := HL1.out; omega)] at hc1
            rw [mid_far (by have := HL1.out; omega)] at hc0
            have Hsame := Hid.mk (cp_same (L := L) (j := k + k2) (by omega))
            have Hnext := Hid.mk (cp_next (L := L) (j := k + k2))
            have Hmn := Hid.mk (mid_next (L := L) (j := k + k2) (by rw [Hn.out]; exact Hjn.out))
            obtain ⟨x', Hx⟩ : ∃ x, Hid (L.getD (k + k2) q0 = x) := ⟨_, ⟨rfl⟩⟩
            obtain ⟨y', Hy⟩ : ∃ x, Hid (L.getD (k + k2 - 1) q0 = x) := ⟨_, ⟨rfl⟩⟩
            rw [Hx.out] at hc1 Hsame Hnext Hmn
            rw [Hy.out] at hc0 Hsame Hnext Hmn
            rw [show (k + k2) * 2 = k * 2 + k2 * 2 by omega] at hc1
            rw [show (k + k2 - 1) * 2 = k * 2 + (k2 - 1) * 2 by omega] at hc0
            obtain ⟨e0, e1⟩ := hc1
            obtain ⟨f0, f1⟩ := hc0
            have j1 : (k2 : Int) - 1 = ((k2 - 1 : Nat) : Int) := by omega
            have j2 : IntKind.i64.wrap ((k2 - 1 : Nat) : Int) = ((k2 - 1 : Nat) : Int) := IntWalk.i64_in _ ⟨by omega, by omega⟩
            have j3 : ((k2 - 1 : Nat) : Int) < (m : Int) := by omega
            have j4 : ¬ m ≤ k2 - 1 := by omega
            obtain ⟨kk, Hkk⟩ : ∃ x, Hid ((cp L (k + k2)).length = x) := ⟨_, ⟨rfl⟩⟩
            rw [Hkk.out] at HL1 Hmn ⊢
            have hkkn : kk < n := by have := HL1.out; have := Hjn.out; omega
            have hkknz : (kk : Int) < (n : Int) := by omega
            have hkk63 : kk ≤ 2513169434843 := by omega
            by_cases hxy : x' = y'
            · have hq : ∀ w : World, (binOp .neq 61 (.agg #[.int .i64 x'.1, .int .i64 x'.2]) (.agg #[.int .i64 y'.1, .int .i64 y'.2])).run Try.prog w = .ok (.bool false) w := fun w => by rw [ne61]; simp [hxy]
              have Hs := Hid.mk (Hsame.out hxy)
              have HO2 : Hid (mid L (k + k2 + 1) = mid L (k + k2)) := ⟨by unfold mid; rw [Hs.out]⟩
              clear hxy
              go_upto_region 11 with fail
              go_quiet (fail)
              go_wp2_with fail
              go_roundg (m - (k2 + 1))
              case measure => omega
              case rel => exact ⟨k2 + 1, by omega, by omega, by omega, by go_num, by rw [← Nat.add_assoc, Hs.out, Hkk.out], ⟨by rw [← Nat.add_assoc, Hs.out, Hkk.out]; have := HL1.out; omega⟩, ⟨by rw [← Nat.add_assoc, HO2.out]; exact HO.out.far (Chg.ofBelow (X := []) (below_drewN (Below.refl _ wr) nq)) (by simp)⟩, ⟨HG.out.trans (Chg.ofBelow (below_drewN (Below.refl _ wr) nq))⟩⟩
            · have hq : ∀ w : World, (binOp .neq 61 (.agg #[.int .i64 x'.1, .int .i64 x'.2]) (.agg #[.int .i64 y'.1, .int .i64 y'.2])).run Try.prog w = .ok (.bool true) w := fun w => by rw [ne61]; simp only [decide_eq_false (show ¬ ((x'.1, x'.2) = (y'.1, y'.2)) from hxy)]; rfl
              have Hs := Hid.mk (Hnext.out (.inr hxy))
              have Hmm := Hid.mk (Hmn.out (.inr hxy))
              have HOq : Hid (OwnE sp2 2 61 (wr.drewN 1) base (.slice (some ⟨g, 0, none⟩) n cv) (mid L (k + k2))) := ⟨HO.out.far (Chg.ofBelow (X := []) (below_drewN (Below.refl _ wr) 1)) (by simp)⟩
              clear hxy
              go_upto_region 11 with fail
              go_quiet (fail)
              have g0 : (wr.drewN nq).cell? ⟨g, k * 2 + k2 * 2, none⟩ = some (.int .i64 x'.1) := e0
              have g1 : (wr.drewN nq).cell? ⟨g, k * 2 + k2 * 2 + 1, none⟩ = some (.int .i64 x'.2) := e1
              have hkc := own_cells2 HO.out (i := kk) (by rw [Hml.out]; exact hkkn)
              have i0 : (wr.drewN nq).cell? ⟨g, kk * 2, none⟩ = _ := hkc.1
              have i1 : (wr.drewN nq).cell? ⟨g, kk * 2 + 1, none⟩ = _ := hkc.2
              clear hkc
              obtain ⟨g', cur', eg', _, hgh'⟩ := own_row (by have := HO.out.own; rw [Hml.out] at this; exact this) (show 0 < n by omega)
              simp at eg'
              subst eg'
              have z0 : (wr.drewN nq).frozen? ⟨g, kk * 2, none⟩ = false := frozen_of_row wr g _ _ 61 hgh'
              have z1 : (wr.drewN nq).frozen? ⟨g, kk * 2 + 1, none⟩ = false := frozen_of_row wr g _ _ 61 hgh'
              clear hgh'
              go_upto_region 13 with fail
              obtain ⟨V, HV⟩ : ∃ V, Hid (((wr.drewN nq).setCell ⟨g, kk * 2, none⟩ (.int .i64 x'.1)).setCell ⟨g, kk * 2 + 1, none⟩ (.int .i64 x'.2) = V) := ⟨_, ⟨rfl⟩⟩
              have HCq : Hid (Chg [g] wr (wr.drewN nq)) := ⟨Chg.ofBelow (below_drewN (Below.refl _ wr) nq)⟩
              have HGV : Hid (Chg [g] w V) := ⟨by rw [← HV.out]; exact (((HG.out.trans HCq.out).setCell (.inl (by simp)) _).setCell (.inl (by simp)) _)⟩
              have HOV : Hid (OwnE sp2 2 61 V base (.slice (some ⟨g, 0, none⟩) n cv) (mid L (k + k2 + 1))) := ⟨by
                rw [← HV.out, Hmm.out]
                exact set_spot (HO.out.far (Chg.ofBelow (X := []) (below_drewN (Below.refl _ wr) nq)) (by simp)) Hml.out hkkn x'⟩
              have Hln : Hid ((cp L (k + k2 + 1)).length = kk + 1) := ⟨by rw [Hs.out, List.length_append, Hkk.out]; rfl⟩
              rw [HV.out]
              clear i0 i1 z0 z1 g0 g1 e0 e1 f0 f1
              go_wp2_with fail
              go_roundg (m - (k2 + 1))
              case measure => omega
              case rel => exact ⟨k2 + 1, by omega, by omega, by omega, by go_num, by rw [← Nat.add_assoc, Hln.out]; go_num, ⟨by rw [← Nat.add_assoc, Hln.out]; have := HL1.out; omega⟩, ⟨by rw [← Nat.add_assoc]; exact HOV.out⟩, HGV⟩
          · obtain rfl : m = k2 := by omega
            have Hkm : Hid (k + m = n) := ⟨by have := Hm.out; omega⟩
            rw [Hkm.out] at HL1 HO ⊢
            have Hml : Hid ((mid L n).length = n) := ⟨by rw [mid_len (by rw [Hn.out]; exact Nat.le_refl _), Hn.out]⟩
            have Hmt := Hid.mk (mid_take L n)
            rw [HRs.out] at HL1 Hmt ⊢
            obtain ⟨kk, Hkk⟩ : ∃ x, Hid (R.length = x) := ⟨_, ⟨rfl⟩⟩
            rw [Hkk.out] at HL1 Hmt ⊢
            have hkkn : kk < n := by have := HL1.out; omega
            have hk1' : kk ≤ n := by omega
            have hk2' : kk ≤ cv := by omega
            have hk3' : (kk : Int) ≤ (n : Int) := by omega
            have hk4' : (kk : Int) ≤ (cv : Int) := by omega
            clear hlt2
            go_wp2_with (refine wp_clearQ rfl (.tmp 56) rfl HO.out Hml.out hkkn rfl ?_; intro w7 hR7 hC7; have HR7 := Hid.mk hR7; have HC7 : Hid (Chg [g] w w7) := ⟨HG.out.trans hC7⟩; clear hR7 hC7)
            go_ret
            rw [Hmt.out] at HR7
            exact ⟨_, rfl, HR7.out, HC7.out⟩
      · have Hc' : Hid (cp L (k + 1) = L.take (k + 1)) := ⟨by rw [Hnext.out (.inr hxy), HC.out, Hsn.out]⟩
        have hq : ∀ w : World, (binOp .eql 61 (.agg #[.int .i64 x.1, .int .i64 x.2]) (.agg #[.int .i64 y.1, .int .i64 y.2])).run Try.prog w = .ok (.bool false) w := fun w => by rw [eq61]; simp only [decide_eq_false (show ¬ ((x.1, x.2) = (y.1, y.2)) from hxy)]
        clear hxy
        go_upto_region 6 with fail
        go_quiet (fail)
        go_wp2_with fail
        go_roundg (n - (k + 1))
        case measure => omega
        case rel => exact ⟨k + 1, by omega, by omega, by omega, by go_num, Hc', ⟨HG.out.trans (Chg.ofBelow (below_drewN (Below.refl _ wo) nq))⟩⟩
    · obtain rfl : n = k := by omega
      have HO : Hid (RdE sp2 2 (0, 0) wo (.slice (some ⟨g, 0, none⟩) n cv) R) := ⟨by
        have e : R = L := by rw [← HRs.out, HC.out, List.take_of_length_le (by rw [Hn.out]; exact Nat.le_refl _)]
        rw [e]
        exact (H.out.far HG.out (by simp)).rd (0, 0)⟩
      go_wp2_with fail
      go_ret
      exact ⟨_, rfl, HO.out, HG.out.mono (by simp)⟩
end
end Go.Proofs.Ytkkcdmdkjedkjaa
