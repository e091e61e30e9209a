/- The walk of ParityLocates. -/
import Derived.Test.YtbdmbhpmbklaiaaY4
import Derived.Test.YtbdmbhpmbklaiaaY5
import Derived.Test.YtbdmbhpmbklaiaaW1
namespace Go.Proofs.Ytbdmbhpmbklaiaa
open Go.RowKit Go.Lib Go.Shelf Gf

theorem tmodn (a b : Nat) : Int.tmod (a : Int) (b : Int) = ((a % b : Nat) : Int) := rfl
section
variable {w : World}
set_option maxHeartbeats 8000000 in
set_option maxRecDepth 100000 in
theorem locates7 (v : Value) (L : List Sd) (xm xi xa xb : Nat) (hv : ShV w v L) (hxm : xm ≤ 255) (hxi : xi ≤ 255) (hxa : xa ≤ 255) (hxb : xb ≤ 255) :
    Calls Try.prog 7 #[v, .int .u8 (xm : Int), .int .u8 (xi : Int), .int .u8 (xa : Int), .int .u8 (xb : Int)] w fun e w' => e = .returned (.bool true) ∧ Below w.heap.size w w' := by
  obtain ⟨r, Hr⟩ : ∃ m, Hid (xm % 5 = m) := ⟨_, ⟨rfl⟩⟩
  have hr : r ≤ 4 := by rw [← Hr.out]; omega
  have hrem : Int.tmod (xm : Int) 5 = (r : Int) := by rw [← Hr.out]; exact tmodn xm 5
  obtain ⟨m, Hm⟩ : ∃ m, Hid (2 + r = m) := ⟨_, ⟨rfl⟩⟩
  have hm : 2 ≤ m ∧ m ≤ 6 := by rw [← Hm.out]; omega
  have hmz : (2 : Int) + (r : Int) = (m : Int) := by rw [← Hm.out]; omega
  have hmw : IntKind.i64.wrap ((2 : Int) + (r : Int)) = (m : Int) := by rw [hmz]; exact IntWalk.i64_in _ ⟨by omega, by omega⟩
  have t1 := whole20A (w := w) v L m hv.rd (by omega)
  obtain ⟨va, vc, rfl, h1, h2, _⟩ := hv.rd.shape
  obtain ⟨n, Hn⟩ : ∃ n, Hid (L.length = n) := ⟨_, ⟨rfl⟩⟩
  rw [Hn.out] at t1 h1 ⊢
  clear hv
  go_enter Try.func7, Try.ntmps7
  go_wp2_with fail
  refine t1.mono ?_
  rintro e w1 ⟨ga, gl, gc, D, z, rfl, hW, hb1⟩
  have HB1 := Hid.mk hb1
  clear t1 hb1
  rcases hW with ⟨h0, rfl⟩ | ⟨N, hD, hN, h8, rfl, hO⟩
  · have h0z : (D.length : Int) = 0 := by omega
    go_wp2_with fail
    refine (live10 (w := w1)).mono ?_
    rintro e w3 ⟨rfl, hb3⟩
    have HB3 : Hid (Below w.heap.size w w3) := ⟨HB1.out.trans (hb3.mono HB1.out.size)⟩
    clear hb3
    go_wp2_with fail
    go_ret
    exact ⟨rfl, HB3.out⟩
  · have HD := Hid.mk hD
    have HO := Hid.mk hO
    have hk1 := hD.lo
    obtain ⟨k, Hk⟩ : ∃ n, Hid (D.length = n) := ⟨_, ⟨rfl⟩⟩
    obtain ⟨i, Hi⟩ : ∃ p, Hid (xi % (k + m) = p) := ⟨_, ⟨rfl⟩⟩
    have hlen : (whl D m).length = k + m := by rw [whl_len, Hk.out]
    have hi : i < k + m := by rw [← Hi.out]; exact Nat.mod_lt _ (by omega)
    have hrow : ∀ j, j < k + m → (sl ((whl D m).getD j none)).length = N := fun j hj => by rw [whl_get hD (by rw [Hk.out]; exact hj)]; simp [sl, grp_len]
    obtain ⟨va', vc', e, hcap, hcm, _⟩ := hO.rd.shape
    simp only [Value.slice.injEq] at e
    obtain ⟨rfl, rfl, rfl⟩ := e
    obtain ⟨b, off, cap, e, _, hc⟩ := hO.rd.at (i := i) (by rw [hlen]; exact hi)
    simp only [Value.slice.injEq] at e
    obtain ⟨rfl, -, rfl⟩ := e
    obtain ⟨sa, sc, c1, _, hsc, hscm, _⟩ := hc i (by rw [hlen]; exact hi)
    rw [hrow i hi] at c1 hsc
    rw [hlen] at hcap ⊢
    rw [Hk.out] at hk1 h8 ⊢
    have hne : ¬ (k : Int) = 0 := by omega
    have hsum : IntKind.i64.wrap ((k : Int) + m) = (k : Int) + m := IntWalk.i64_in _ ⟨by omega, by omega⟩
    have hgc : (gc : Int) ≤ 9223372036854775807 := by unfold maxLen at hcm; omega
    have hrem2 : Int.tmod (xi : Int) ((k : Int) + m) = (i : Int) := by rw [← Hi.out]; exact tmodn xi (k + m)
    have hiz : (i : Int) < (k : Int) + m := by omega
    have hkm : ¬ (k : Int) + m = 0 := by omega
    have h4w : Hid (∀ j, j < (whl D m).length → (sl ((whl D m).getD j none)).length ≤ 4096) := ⟨fun j hj => by rw [hrow j (by omega)]; omega⟩
    have HLn := Hid.mk hlen
    have HRow := Hid.mk hrow
    clear hD hO hc hlen hrow
    by_cases hun : N = 0 ∨ xb = 0
    · have t2 : Calls Try.prog 18 #[.slice (some ⟨b, off, none⟩) (k + m) gc, .int .i64 (k : Int)] w1 fun e w' => e = .returned (.tuple #[.int .i64 (-1), .int .i64 0]) ∧ Below w1.heap.size w1 w' := by
        obtain ⟨q1, q2, q3, q4⟩ := loc_whole (m := m) HD.out (by omega)
        have := loc_ok (w := w1) _ (whl D m) D.length (by rw [← HLn.out] at *; exact HO.out.rd) h4w.out q1 q2 q3
        rw [q4, Hk.out] at this
        rw [HLn.out] at this
        exact this
      have hun2 : (N = 0 ∧ (N : Int) = 0) ∨ (¬ (N : Int) = 0 ∧ xb = 0) := by omega
      clear hun
      rcases hun2 with ⟨rfl, -⟩ | ⟨hN0, rfl⟩
      all_goals
        go_wp2_with fail
        refine t2.mono ?_
        rintro e w2 ⟨rfl, hb2⟩
        have HB2 : Hid (Below w.heap.size w w2) := ⟨HB1.out.trans (hb2.mono HB1.out.size)⟩
        clear t2 hb2
        go_wp2_with fail
        refine (live10 (w := w2)).mono ?_
        rintro e w3 ⟨rfl, hb3⟩
        have HB3 : Hid (Below w.heap.size w w3) := ⟨HB2.out.trans (hb3.mono HB2.out.size)⟩
        clear hb3
        go_wp2_with fail
        go_ret
        exact ⟨rfl, HB3.out⟩
    · have hN0 : 0 < N := by omega
      have hb0 : xb ≠ 0 := by omega
      obtain ⟨gr, gcc, g, o, cs, cn, ev, hcell, hcs, hlo, hat, hset⟩ := HO.out.at (i := i) (by rw [HLn.out]; exact hi) (by rw [HRow.out i hi]; exact hN0)
      rw [HLn.out] at ev
      simp only [Value.slice.injEq, Option.some.injEq, Addr.mk.injEq, and_true, true_and] at ev
      obtain ⟨⟨rfl, rfl⟩, rfl⟩ := ev
      rw [HRow.out i hi] at hcell hat hset
      rw [Nat.zero_add, hcell] at c1
      simp only [Option.some.injEq, Value.slice.injEq] at c1
      obtain ⟨rfl, -, rfl⟩ := c1
      obtain ⟨p, Hp⟩ : ∃ p, Hid (xa % N = p) := ⟨_, ⟨rfl⟩⟩
      have hp : p < N := by rw [← Hp.out]; exact Nat.mod_lt _ hN0
      have hpz : (p : Int) < (N : Int) := by omega
      have hrem3 : Int.tmod (xa : Int) (N : Int) = (p : Int) := by rw [← Hp.out]; exact tmodn xa N
      have hcp := hat p hp
      have hfz : w1.frozen? ⟨g, o + p, none⟩ = false := frozen_of_row w1 g (o + p) _ 5 hcs
      obtain ⟨y, Hy⟩ : ∃ y, Hid ((sl ((whl D m).getD i none)).getD p 0 = y) := ⟨_, ⟨rfl⟩⟩
      rw [Hy.out] at hcp
      have hxor := gi_xor y (ge xb (by omega))
      have hge : gi (ge xb (by omega)) = (xb : Int) := rfl
      rw [hge] at hxor
      have hNn : ¬ (N : Int) = 0 := by omega
      have hbn : ¬ (xb : Int) = 0 := by omega
      have hbb : ((xb : Int) == 0) = false := by simpa using hbn
      have hS := hset p (y + ge xb (by omega)) hp
      have HS := Hid.mk hS
      have hi' : i < D.length + m := by rw [Hk.out]; exact hi
      obtain ⟨l, hl⟩ : ∃ l, (whl D m).getD i none = some l := ⟨_, whl_get HD.out hi'⟩
      have hll : l.length = N := by have := HRow.out i hi; rw [hl] at this; exact this
      rw [hl] at HS Hy
      have hyl : l.getD p 0 = y := Hy.out
      obtain ⟨q1, q2, q3, q4⟩ := loc_one (m := m) (i := i) (s := l.set p (y + ge xb (by omega))) HD.out (by omega) hi' (by rw [List.length_set]; exact hll) (by
        rw [hl]
        intro e
        have e2 := congrArg (fun z => (Option.getD z []).getD p 0) e
        simp only [Option.getD_some] at e2
        rw [hyl] at e2
        simp only [List.getD, List.getElem?_set_self (show p < l.length by rw [hll]; exact hp), Option.getD_some] at e2
        have e3 : ge xb (by omega) = (0 : G) := by
          have e4 : y + (y + ge xb (by omega)) = y + y := by rw [← e2]
          rw [← add_assoc, add_self, zero_add] at e4
          exact e4
        have e5 := congrArg gi e3
        rw [hge] at e5
        exact hbn e5)
      change Hid (RdR (w1.setCell ⟨g, o + p, none⟩ (.int .u8 (gi (y + ge xb (by omega))))) (0, 5) _ ((whl D m).set i (some (l.set p (y + ge xb (by omega)))))) at HS
      obtain ⟨K, HK⟩ : ∃ K, Hid ((whl D m).set i (some (l.set p (y + ge xb (by omega)))) = K) := ⟨_, ⟨rfl⟩⟩
      rw [HK.out] at q1 q2 q3 q4 HS
      rw [HLn.out] at HS
      have hKl : K.length = k + m := by rw [← HK.out, List.length_set]; exact HLn.out
      have hK4 : ∀ j, j < K.length → (sl (K.getD j none)).length ≤ 4096 := fun j hj => by
        rw [← HK.out]
        by_cases e : i = j
        · subst e
          rw [set_self (by rw [HLn.out]; exact hi)]
          show (l.set p _).length ≤ 4096
          rw [List.length_set, hll]
          omega
        · rw [set_get e]
          exact h4w.out j (by rw [HLn.out]; omega)
      obtain ⟨w2, Hw2⟩ : ∃ x, Hid ((w1.setCell ⟨g, o + p, none⟩ (.int .u8 (gi (y + ge xb (by omega))))).drew = x) := ⟨_, ⟨rfl⟩⟩
      have t2 : Calls Try.prog 18 #[.slice (some ⟨b, 0, none⟩) (k + m) gc, .int .i64 (k : Int)] w2 fun e w' => e = .returned (.tuple #[.int .i64 (i : Int), .int .i64 0]) ∧ Below w2.heap.size w2 w' := by
        have := loc_ok (w := w2) (.slice (some ⟨b, 0, none⟩) (k + m) gc) K D.length (B := (0, 5)) (by rw [← Hw2.out]; exact HS.out.far (Chg.refl ([] : List Nat) _).drew (by simp) (by simp)) hK4 q1 q2 q3
        rw [q4, Hk.out] at this
        exact this
      have HB2 : Hid (Below w.heap.size w w2) := ⟨by
        rw [← Hw2.out]
        exact (HB1.out.trans (((Chg.refl [g] w1).setCell (a := ⟨g, o + p, none⟩) (.inl (by simp)) (.int .u8 (gi (y + ge xb (by omega))))).below HB1.out.size (by simp; exact hlo))).drew⟩
      clear hset hat hS HS q1 q2 q3 q4 hK4 hl hll hyl hi'
      go_upto_region 11 with fail
      go_region
      rw [Hw2.out]
      go_wp2_with fail
      refine t2.mono ?_
      rintro e w3 ⟨rfl, hb3⟩
      have HB3 : Hid (Below w.heap.size w w3) := ⟨HB2.out.trans (hb3.mono HB2.out.size)⟩
      clear t2 hb3
      go_wp2_with fail
      refine (live10 (w := w3)).mono ?_
      rintro e w4 ⟨rfl, hb4⟩
      have HB4 : Hid (Below w.heap.size w w4) := ⟨HB3.out.trans (hb4.mono HB3.out.size)⟩
      clear hb4
      go_wp2_with fail
      go_ret
      exact ⟨rfl, HB4.out⟩
end
theorem walk_parityLocates (v : Value) (L : List Sd) (x1 x2 x3 x4 : Int) (W : World) (hv : ShV W v L) (w1 : (Lit.int .u8 x1).wf = true) (w2 : (Lit.int .u8 x2).wf = true) (w3 : (Lit.int .u8 x3).wf = true) (w4 : (Lit.int .u8 x4).wf = true) : Calls Try.prog 7 #[v, .int .u8 x1, .int .u8 x2, .int .u8 x3, .int .u8 x4] W fun e w' => e = .returned (.bool true) ∧ Below W.heap.size W w' := by
  obtain ⟨y1, rfl⟩ := of_u8 w1
  obtain ⟨y2, rfl⟩ := of_u8 w2
  obtain ⟨y3, rfl⟩ := of_u8 w3
  obtain ⟨y4, rfl⟩ := of_u8 w4
  exact locates7 v L y1.1 y2.1 y3.1 y4.1 hv (by have := y1.2; omega) (by have := y2.2; omega) (by have := y3.2; omega) (by have := y4.2; omega)
end Go.Proofs.Ytbdmbhpmbklaiaa
