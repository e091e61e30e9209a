/- The walk of ParityLost. -/
import Derived.Test.YtbdmbhpmbklaiaaU2
import Derived.Test.YtbdmbhpmbklaiaaW1
namespace Go.Proofs.Ytbdmbhpmbklaiaa
open Go.RowKit Gf

theorem tmod_nat (a b : Nat) : Int.tmod (a : Int) (b : Int) = ((a % b : Nat) : Int) := rfl
section
variable {w : World}
set_option maxHeartbeats 8000000 in
set_option maxRecDepth 100000 in
theorem lost6 (v : Value) (L : List Sd) (xn : Nat) (u : Value) (q : List G) (hv : ShV w v L) (hx : xn ≤ 255) (hu : GV w u q) : Calls Try.prog 6 #[v, .int .u8 (xn : Int), u] w fun e w' => e = .returned (.bool true) ∧ Below w.heap.size w w' := by
  obtain ⟨m, Hm⟩ : ∃ m, Hid (xn % 7 = m) := ⟨_, ⟨rfl⟩⟩
  have hm : m ≤ 6 := by rw [← Hm.out]; omega
  have hrem : Int.tmod (xn : Int) 7 = (m : Int) := by rw [← Hm.out]; exact tmod_nat xn 7
  have t1 := whole20 (w := w) v L m hv.rd (by omega)
  obtain ⟨va, vc, rfl, h1, h2, _⟩ := hv.rd.shape
  have HU := Hid.mk hu.rd
  obtain ⟨ua, uc, rfl, hu1, hu2, _⟩ := hu.rd.shape
  obtain ⟨n, Hn⟩ : ∃ n, Hid (L.length = n) := ⟨_, ⟨rfl⟩⟩
  obtain ⟨ql, Hql⟩ : ∃ n, Hid (q.length = n) := ⟨_, ⟨rfl⟩⟩
  rw [Hn.out] at t1 h1 ⊢
  rw [Hql.out] at HU hu1 ⊢
  clear hv hu
  have huc : (uc : Int) ≤ 9223372036854775807 := by unfold maxLen at hu2; omega
  go_enter Try.func6, Try.ntmps6
  go_wp2_with fail
  refine t1.mono ?_
  rintro e w1 ⟨ga, gl, gc, D, z, rfl, hW, hb1⟩
  have HB1 := Hid.mk hb1
  clear t1 hb1
  rcases hW with ⟨h0, rfl⟩ | ⟨N, hD, hN, h8, rfl, hO⟩
  · go_wp2_with fail
    refine (live10 (w := w1)).mono ?_
    rintro e w3 ⟨rfl, hb3⟩
    have HB3 : Hid (Below w.heap.size w w3) := ⟨HB1.out.trans (hb3.mono HB1.out.size)⟩
    clear hb3
    go_wp2_with fail
    go_ret
    exact ⟨rfl, HB3.out⟩
  · have HD := Hid.mk hD
    have HO := Hid.mk hO
    have hk1 := hD.lo
    obtain ⟨g, cap, cur, e, hcap, hcm, _⟩ := ownR_cap hO (by rw [whl_len]; omega)
    simp only [Value.slice.injEq] at e
    obtain ⟨rfl, rfl, rfl⟩ := e
    rw [whl_len] at HO hcap ⊢
    obtain ⟨k, Hk⟩ : ∃ n, Hid (D.length = n) := ⟨_, ⟨rfl⟩⟩
    rw [Hk.out] at HO hcap hk1 h8 ⊢
    have hne : ¬ (k : Int) = 0 := by omega
    have hsum : IntKind.i64.wrap ((k : Int) + m) = (k : Int) + m := IntWalk.i64_in _ ⟨by omega, by omega⟩
    have hgc : (gc : Int) ≤ 9223372036854775807 := by unfold maxLen at hcm; omega
    clear hD hO
    obtain ⟨w2, Hw2⟩ : ∃ y, Hid (w1.alloc (.cells #[] 33) = y) := ⟨_, ⟨rfl⟩⟩
    have HB2 : Hid (Below w1.heap.size w1 w2) := ⟨by rw [← Hw2.out]; exact (Below.refl _ w1).alloc (Nat.le_refl _) _⟩
    have HO2 : Hid (OwnR w2 (0, 5) w1.heap.size (.slice (some ⟨w1.heap.size, 0, none⟩) 0 0) []) := ⟨by rw [← Hw2.out]; exact OwnR.none w1 (0, 5)⟩
    have HG2 : Hid (RdR w2 (0, 5) (.slice (some ⟨g, 0, none⟩) (k + m) gc) (whl D m)) := ⟨(HO.out.below HB2.out).rd⟩
    have hlen : ([] : List Sd).length + (whl D m).length ≤ 1000000000000 := by rw [whl_len, Hk.out]; simp; omega
    have hs2 := HB2.out.size
    go_upto_region 9 with (rw [Hw2.out]; refine wp_appR rfl (.tmp 42) (.tmp 43) rfl rfl HO2.out (Nat.zero_le _) (show (5 : TypeId) ≠ 33 by decide) rfl HG2.out hlen hs2 ?_; intro v3 w3 hO3 hG3 hV3; have HO3 := Hid.mk hO3; have HG3 := Hid.mk hG3; clear hO3 hG3 hV3)
    obtain ⟨g3, c3, cur3, e3, hcap3, hcm3, _⟩ := ownR_cap HO3.out (by rw [List.nil_append, whl_len, Hk.out]; omega)
    subst e3
    rw [List.nil_append, whl_len, Hk.out] at hcap3
    rw [List.nil_append, whl_len, Hk.out] at HO3 ⊢
    have HB3 : Hid (Below w1.heap.size w1 w3) := ⟨HB2.out.trans (HG3.out.below HB2.out.size (fun x hx => (HO2.out.lt x hx).1))⟩
    have hg3 : w1.heap.size ≤ g3 := (HO3.out.lt g3 (by simp [ob, Value.ownBlock])).1
    have HL3 : Hid (Lost D m 0 (whl D m)) := ⟨Lost.none m HD.out⟩
    clear HO2 HG2 HG3 hs2 hlen
    go_loopg [12] m (fun gg s12 wr => ∃ (i : Nat) (K : List Sd), i ≤ m ∧ i ≤ ql ∧ m - i ≤ gg ∧ s12 = .int .i64 (i : Int) ∧ Hid (Lost D m i K) ∧ Hid (OwnR wr (0, 5) w1.heap.size (.slice (some ⟨g3, 0, none⟩) (k + m) c3) K) ∧ Hid (Below w1.heap.size w1 wr))
    case atStart => exact ⟨0, whl D m, by omega, by omega, by omega, rfl, HL3, HO3, HB3⟩
    case round =>
      clear HL3 HO3 HB3
      obtain ⟨i, K, him, hiq, hgg, rfl, HL, HOK, HBK⟩ := hrel
      rename World => wo
      have HKl : Hid (K.length = k + m) := ⟨by rw [HL.out.len, Hk.out]⟩
      by_cases hlt : i < ql ∧ i < m
      · obtain ⟨hlq, hlm⟩ := hlt
        have hlqz : (i : Int) < (ql : Int) := by omega
        have hlmz : (i : Int) < (m : Int) := by omega
        have HB0 : Hid (Below w.heap.size w wo) := ⟨HB1.out.trans (HBK.out.mono HB1.out.size)⟩
        obtain ⟨b, off, cap, e, _, hc⟩ := (HU.out.far (Chg.ofBelow (X := []) HB0.out) (by simp)).at (i := i) (by rw [Hql.out]; exact hlq)
        rw [Hql.out] at e
        simp only [Value.slice.injEq] at e
        obtain ⟨rfl, -, rfl⟩ := e
        have c1 := hc i (by rw [Hql.out]; exact hlq)
        obtain ⟨y, Hy⟩ : ∃ y : Nat, gi (q.getD i 0) = (y : Int) ∧ y < 256 := ⟨(q.getD i 0).1, rfl, (q.getD i 0).2⟩
        rw [Hy.1] at c1
        obtain ⟨p, Hp⟩ : ∃ p, Hid (y % (k + m) = p) := ⟨_, ⟨rfl⟩⟩
        have hp : p < k + m := by rw [← Hp.out]; exact Nat.mod_lt _ (by omega)
        have hpz : (p : Int) < (k : Int) + m := by omega
        have hrem2 : Int.tmod (y : Int) ((k : Int) + m) = (p : Int) := by rw [← Hp.out]; exact tmod_nat y (k + m)
        have hy := Hy.2
        have hfz := ownR_frozenAt HOK.out p
        obtain ⟨b5, off5, cap5, e5, _, hc5⟩ := HOK.out.rd.at (i := p) (by rw [HKl.out]; exact hp)
        simp only [Value.slice.injEq, Option.some.injEq, Addr.mk.injEq, and_true] at e5
        obtain ⟨⟨rfl, rfl⟩, -, -⟩ := e5
        obtain ⟨_, _, c5, _⟩ := hc5 p (by rw [HKl.out]; exact hp)
        rw [Nat.zero_add] at c5
        have HSt : Hid (OwnR (wo.setCell ⟨g3, p, none⟩ (.slice none 0 0)) (0, 5) w1.heap.size (.slice (some ⟨g3, 0, none⟩) (k + m) c3) (K.set p none)) := ⟨ownR_stored HOK.out (Nat.zero_le _) (show (5 : TypeId) ≠ 33 by decide) p (RdS.nil wo (0, 5))⟩
        have HBS : Hid (Below w1.heap.size w1 (wo.setCell ⟨g3, p, none⟩ (.slice none 0 0))) := ⟨HBK.out.setCell (p := ⟨g3, p, none⟩) hg3 _⟩
        have HLS : Hid (Lost D m (i + 1) (K.set p none)) := ⟨HL.out.more p⟩
        clear hc hc5 Hy
        go_wp2_with fail
        go_roundg (m - (i + 1))
        case measure => omega
        case rel => exact ⟨i + 1, K.set p none, by omega, by omega, by omega, by go_num, HLS, HSt, HBS⟩
      · have hR := HL.out.rest (by omega) him
        have hchk := hR.chk HD.out
        have hsame := hR.same HD.out
        rw [Hk.out] at hchk hsame
        have h4 : ∀ j, j < K.length → (sl (K.getD j none)).length ≤ 4096 := fun j hj => by
          by_cases hs : (K.getD j none).isSome = true
          · rw [hR.row HD.out hj hs]
            simp only [sl, Option.getD_some, grp_len]
            omega
          · have : K.getD j none = none := by simpa using hs
            rw [this]
            simp [sl]
        have t2 := rep14 (w := wo) _ K (k : Int) HOK.out.rd (by rw [HKl.out]; omega) h4
        have HCK := Hid.mk hchk
        have HSM := Hid.mk hsame
        have HGo : Hid (RdR wo (0, 5) (.slice (some ⟨g, 0, none⟩) (k + m) gc) (whl D m)) := ⟨(HO.out.below HBK.out).rd⟩
        have hex : ¬ ((i : Int) < (ql : Int)) ∨ ((i : Int) < (ql : Int) ∧ ¬ ((i : Int) < (m : Int))) := by omega
        clear hR hchk hsame h4 hlt HO
        rcases hex with hex | ⟨hex, hex8⟩
        all_goals
          go_wp2_with fail
          refine t2.mono ?_
          rintro e w4 ⟨a4, n4, c4, z4, rfl, hr4, hb4⟩
          have hz4 : z4 = 0 := by rw [hr4.1]; exact HCK.out
          subst hz4
          have HR4 : Hid (RdR w4 (0, 5) (.slice a4 n4 c4) (whl D m)) := ⟨by have h := (hr4.2.2 rfl).rd; rw [Int.toNat_natCast, HSM.out] at h; exact h⟩
          have HG4 : Hid (RdR w4 (0, 5) (.slice (some ⟨g, 0, none⟩) (k + m) gc) (whl D m)) := ⟨HGo.out.below hb4⟩
          have HB4 : Hid (Below w.heap.size w w4) := ⟨HB1.out.trans ((HBK.out.trans (hb4.mono HBK.out.size)).mono HB1.out.size)⟩
          clear t2 hr4 hb4
          go_wp2_with fail
          refine (live10 (w := w4)).mono ?_
          rintro e w5 ⟨rfl, hb5⟩
          have t5 := rsame13 (w := w5) _ _ (whl D m) (whl D m) (HR4.out.below hb5) (HG4.out.below hb5) (by rw [whl_len, Hk.out]; omega) (by rw [whl_len, Hk.out]; omega)
          rw [smR_self] at t5
          have HB5 : Hid (Below w.heap.size w w5) := ⟨HB4.out.trans (hb5.mono HB4.out.size)⟩
          clear hb5
          go_wp2_with fail
          refine t5.mono ?_
          rintro e w6 ⟨rfl, hb6⟩
          have HB6 : Hid (Below w.heap.size w w6) := ⟨HB5.out.trans (hb6.mono HB5.out.size)⟩
          clear t5 hb6
          go_wp2_with fail
          go_ret
          exact ⟨rfl, HB6.out⟩
end
theorem walk_parityLost (v : Value) (L : List Sd) (x : Int) (u : Value) (q : List G) (W : World) (hv : ShV W v L) (w1 : (Lit.int .u8 x).wf = true) (hu : GV W u q) : Calls Try.prog 6 #[v, .int .u8 x, u] W fun e w' => e = .returned (.bool true) ∧ Below W.heap.size W w' := by
  obtain ⟨y, rfl⟩ := of_u8 w1
  exact lost6 v L y.1 u q hv (by have := y.2; omega) hu
end Go.Proofs.Ytbdmbhpmbklaiaa
