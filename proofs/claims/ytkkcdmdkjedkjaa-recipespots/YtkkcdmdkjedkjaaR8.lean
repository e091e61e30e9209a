/- The program's pieces: a function that tells them. -/
import Derived.RangeFuncNested
import Derived.RangeFuncBound
import Derived.RangeFuncCalls
import Derived.RangeFuncLeaves
import Derived.Shelf.Abstract
import Derived.Shelf.RegionOpen
import Derived.OwnWalkIn
import Derived.TacticsInMore
import Derived.LoopNIn
import Derived.LoopIn
import Derived.Lib.QuietBelowIn
import Derived.Lib.MinMax
import Derived.Test.YtkkcdmdkjedkjaaRF
import Derived.Test.YtkkcdmdkjedkjaaR7
namespace Go.Proofs.Ytkkcdmdkjedkjaa
open Go.RowKit Go.Lib Go.Shelf

/-- What a round must keep: all that lies below M, but for block b. -/
def KpB (M b : Nat) (A B : World) : Prop := A.heap.size ≤ B.heap.size ∧ ∀ k, k < M → k ≠ b → B.heap[k]? = A.heap[k]?
theorem KpB.trans {M b : Nat} {A B C : World} (h : KpB M b A B) (k : KpB M b B C) : KpB M b A C := ⟨Nat.le_trans h.1 k.1, fun j h1 h2 => (k.2 j h1 h2).trans (h.2 j h1 h2)⟩
theorem KpB.of {M b : Nat} {X : List Nat} {A B : World} (h : Chg X A B) (hM : M ≤ A.heap.size) (hx : ∀ k ∈ X, k = b ∨ M ≤ k) : KpB M b A B := ⟨h.size, fun k h1 h2 => h.block k (by omega) (fun hm => by have := hx k hm; omega)⟩
theorem KpB.put {M b : Nat} {w : World} (hM : M ≤ w.heap.size) (W : World) (l : Nat) (o : Obj) (hl : w.heap.size ≤ l) : KpB M b W (W.putObj l o) :=
  ⟨by simp, fun k h1 _ => World.putObj_heap_other (by omega)⟩
theorem KpB.cell {M b : Nat} {A B : World} (h : KpB M b A B) {ad : Addr} {v : Value} (h1 : ad.block < M) (h2 : ad.block ≠ b) (hc : A.cell? ad = some v) : B.cell? ad = some v := (World.cell?_of_block (h.2 _ h1 h2)).trans hc
/-- The cells of a piece. -/
def pv (x : Rp.Pc) : List Value := [.int .i64 (x.i : Int), .int .i64 (x.f : Int), .int .i64 (x.n : Int)]
section
variable {w : World}
theorem pieces_any (p : Nat) (from' left : Int) : Calls Try.prog 36 #[.pointer (some ⟨p, 0, none⟩), .int .i64 from', .int .i64 left] w fun e w' => e = .returned (.func (.func 47) #[] #[.pointer (some ⟨w.heap.size, 0, none⟩), .pointer (some ⟨w.heap.size + 1, 0, none⟩), .pointer (some ⟨w.heap.size + 2, 0, none⟩)]) ∧ w' = ((w.alloc (.cells #[.pointer (some ⟨p, 0, none⟩)] 23)).alloc (.cells #[.int .i64 from'] 3)).alloc (.cells #[.int .i64 left] 3) := by
  go_enter Try.func36, Try.ntmps36
  go_wp2_with fail
  go_ret
  exact ⟨rfl, rfl⟩
end
theorem drop_cons (ls : List Nat) {i : Nat} (h : i < ls.length) : ls.drop i = ls.getD i 0 :: ls.drop (i + 1) := by
  rw [List.drop_eq_getElem_cons h]
  simp [List.getD, List.getElem?_eq_getElem h]
theorem rn_step (ls : List Nat) {i a n : Nat} (h : i < ls.length) (hn : 0 < n) : Rp.rn (ls.drop i) i a n = ⟨i, a, min n (ls.getD i 0 - a)⟩ :: Rp.rn (ls.drop (i + 1)) (i + 1) 0 (n - min n (ls.getD i 0 - a)) := by
  rw [drop_cons ls h, Rp.rn, if_neg (by omega)]
section
attribute [local go_sem] Oper.semAt_some
set_option maxHeartbeats 4000000 in
set_option maxRecDepth 100000 in
theorem pieces1_in {L : List Rf} (hR : Rt L) (fr lf : Nat) (hfl : fr + lf ≤ (lens L).sum) (l q p b : Nat) (J : List Rp.Pc → World → Prop) (W : World)
    (hX : Rec W p L) (h0 : W.cell? ⟨q, 0, none⟩ = some (.pointer (some ⟨p, 0, none⟩))) (h1 : W.cell? ⟨q + 1, 0, none⟩ = some (.int .i64 (fr : Int))) (h2 : W.heap[q + 2]? = some (.cells #[.int .i64 (lf : Int)] 3 (0, 0)))
    (hM : ∀ rv ev, RecX W p rv ev L → (0 < L.length → ∀ k ∈ ob rv, k < q ∧ k ≠ b)) (hpq : p < q ∧ p ≠ b) (hqb : b < q)
    (hJb : ∀ pre A B, J pre A → Below A.heap.size A B → J pre B) (hJc : ∀ pre A v, J pre A → J pre (A.setCell ⟨q + 2, 0, none⟩ v))
    (hY : ∀ pre x A, J pre A → pre.length < 256 → YieldAt Fence.wide 8 Try.prog l #[.agg (pv x).toArray] A fun e B => e = .returned (.bool true) ∧ J (pre ++ [x]) B ∧ KpB (q + 3) b A B)
    (hj0 : J [] W) :
    CallsIn Fence.wide 9 Try.prog 47 #[.func (.yield l) #[] #[], .pointer (some ⟨q, 0, none⟩), .pointer (some ⟨q + 1, 0, none⟩), .pointer (some ⟨q + 2, 0, none⟩)] W fun e B => (∃ v, e = .returned v) ∧ ∃ xs, xs = Rp.pcs (lens L) 0 fr ((fr : Int) + lf) ∧ J xs B := by
  have hsum := lens_sum hR
  have t1 := find_any (w := W) (fr : Int) ⟨by omega, by omega⟩ hX hR
  obtain ⟨rv, ev, hrx⟩ := hX
  have HM := Hid.mk (hM rv ev hrx)
  have HX := Hid.mk hrx
  have hp0 := hrx.cells.1
  obtain ⟨ar, cr, rfl, _⟩ := hrx.refs.shape
  have HR := Hid.mk hR
  have h2c : W.cell? ⟨q + 2, 0, none⟩ = some (.int .i64 (lf : Int)) := by rw [cell_of_row _ _ _ _ _ _ h2]; rfl
  have HY := Hid.mk hY
  have HJb := Hid.mk hJb
  have HJc := Hid.mk hJc
  obtain ⟨T, HT⟩ : ∃ T, Hid (Rp.pcs (lens L) 0 fr ((fr : Int) + lf) = T) := ⟨_, ⟨rfl⟩⟩
  rw [HT.out]
  obtain ⟨F, HF⟩ : ∃ F, Hid (fdR (lens L) (fr : Int) = F) := ⟨_, ⟨rfl⟩⟩
  rw [HF.out] at t1
  have HI : Hid (∃ (i a : Nat), F.1 = (i : Int) ∧ F.2.1 = (a : Int) ∧ Rp.rn ((lens L).drop i) i a lf = T ∧ Rp.upto (lens L) i + a + lf ≤ (lens L).sum ∧ (0 < lf → i < L.length ∧ a < (lens L).getD i 0)) := ⟨by
    by_cases hlt : fr < (lens L).sum
    · obtain ⟨i, hi, hlo, hhi, _⟩ := Rp.fnd_spec (lens L) 0 fr hlt
      have e := fdR_at _ _ _ hi hlo hhi
      rw [HF.out] at e
      have h3 := Rp.rn_pcs (lens L) 0 i fr lf (fun x hx => (lens_pos HR.out x hx).1) hi hlo hhi
      have h4 := Rp.upto_succ (lens L) i hi
      refine ⟨i, fr - Rp.upto (lens L) i, by rw [e], by rw [e], by rw [← HT.out, ← h3, Nat.zero_add], by omega, fun _ => ⟨by rw [← lens_len]; exact hi, by omega⟩⟩
    · have e := fdR_none (lens L) (fr : Int) (by omega)
      rw [HF.out] at e
      have hz : lf = 0 := by omega
      subst hz
      exact ⟨0, 0, by rw [e]; rfl, by rw [e]; rfl, by rw [Rp.rn_zero, ← HT.out, Rp.pcs_end _ _ _ _ (by omega)], by rw [Rp.upto_zero]; omega, fun h => by omega⟩⟩
  obtain ⟨F1, F2, F3⟩ := F
  obtain ⟨i0, a0, e1, e2, HI0⟩ := HI.out
  simp only at e1 e2 t1
  subst e1 e2
  have HI1 := Hid.mk HI0
  clear HI HI0 HF hR hrx hY hJb hJc
  refine callsIn_of_wp Try.func47 rfl trivial ?_ rfl
  simp only [Try.ntmps47, List.size_toArray, List.length_cons, List.length_nil, Nat.reduceAdd, Nat.reduceSub, Array.replicate_succ, Array.replicate_zero, List.push_toArray, List.append_toArray, List.nil_append, List.cons_append]
  gi_wp2_with (refine ⟨trivial, ?_⟩; gi_at_call 18; refine (callsIn_wide.2 t1).mono ?_; rintro e W5 ⟨rfl, hb5⟩)
  have hj5 : J [] W5 := HJb.out _ _ _ hj0 hb5
  have HB5 := Hid.mk hb5
  have HQ5 : Hid (W5.heap[q + 2]? = some (.cells #[.int .i64 (lf : Int)] 3 (0, 0))) := ⟨(hb5.block _ (Array.getElem?_eq_some_iff.1 h2).1).trans h2⟩
  have HK5 : Hid (KpB (q + 2) b W W5) := ⟨KpB.of (Chg.ofBelow (X := []) hb5) (by have := (Array.getElem?_eq_some_iff.1 h2).1; omega) (by simp)⟩
  clear t1 hb5 hj0 h2 h2c
  gi_wp2
  gi_loopw [5, 6, 8] (fun s5 s6 _ wr => ∃ (i a n : Nat) (pre : List Rp.Pc), s5 = .int .i64 (i : Int) ∧ s6 = .int .i64 (a : Int) ∧ J pre wr ∧ Hid (wr.heap[q + 2]? = some (.cells #[.int .i64 (n : Int)] 3 (0, 0))) ∧ Hid (pre ++ Rp.rn ((lens L).drop i) i a n = T) ∧ Hid (Rp.upto (lens L) i + a + n ≤ (lens L).sum) ∧ Hid (0 < n → i < L.length ∧ a < (lens L).getD i 0) ∧ Hid (pre.length ≤ i) ∧ Hid (KpB (q + 2) b W wr)) (fun s5 _ _ _ => 257 - (intOf s5).toNat)
  case atStart => exact ⟨i0, a0, lf, [], rfl, rfl, hj5, HQ5, ⟨by rw [List.nil_append]; exact HI1.out.1⟩, ⟨HI1.out.2.1⟩, ⟨HI1.out.2.2⟩, ⟨by simp⟩, HK5⟩
  case round =>
    clear HQ5 HK5 HB5 hj5 HI1
    obtain ⟨i, a, n, pre, rfl, rfl, hJ, HQ, HTp, HSm, HIn, HPl, HK⟩ := hrel
    have hqc : wr.cell? ⟨q + 2, 0, none⟩ = some (.int .i64 (n : Int)) := by rw [cell_of_row _ _ _ _ _ _ HQ.out]; rfl
    have hnb : n ≤ 131072 := by have := HSm.out; omega
    by_cases hn : 0 < n
    · have hnz : (0 : Int) < (n : Int) := by omega
      obtain ⟨hiL, haL⟩ := HIn.out hn
      have hfew := HR.out.few
      have hl := lens_at HR.out hiL
      obtain ⟨gr, orf, cr', er, hcr⟩ := HX.out.refs.len hiL
      simp at er
      obtain ⟨rfl, rfl⟩ := er
      rw [hl.1] at hcr
      have hgr := HM.out (by omega) gr (mem_ob.2 rfl)
      have hcl := HK.out.cell (ad := ⟨gr, orf + i * 35 + 32, none⟩) (show gr < q + 2 by omega) hgr.2 hcr
      have hcq := HK.out.cell (ad := ⟨q, 0, none⟩) (show q < q + 2 by omega) (show q ≠ b by omega) h0
      have hcp := HK.out.cell (ad := ⟨p, 0, none⟩) (show p < q + 2 by omega) hpq.2 hp0
      have HSt := Hid.mk (rn_step (lens L) (i := i) (a := a) (n := n) (by rw [lens_len]; exact hiL) hn)
      have HSu := Hid.mk (Rp.upto_succ (lens L) i (by rw [lens_len]; exact hiL))
      have HSl : Hid (i + 1 < L.length → 1 ≤ (lens L).getD (i + 1) 0) := ⟨fun h => (lens_at HR.out h).2.1⟩
      obtain ⟨lc, Hlc⟩ : ∃ x, Hid ((lens L).getD i 0 = x) := ⟨_, ⟨rfl⟩⟩
      rw [Hlc.out] at hcl HSt HSu hl haL
      have hl2 := hl.2
      obtain ⟨N, HN⟩ : ∃ x, Hid (L.length = x) := ⟨_, ⟨rfl⟩⟩
      rw [HN.out] at hcp hiL hfew HSl
      obtain ⟨m, Hm⟩ : ∃ m, Hid (min n (lc - a) = m) := ⟨_, ⟨rfl⟩⟩
      rw [Hm.out] at HSt
      have hm : m ≤ n ∧ 0 < m ∧ m ≤ lc - a := by rw [← Hm.out]; omega
      have hmin : min (n : Int) ((lc : Int) - a) = (m : Int) := by rw [← Hm.out]; omega
      have hiz : (i : Int) < (N : Int) := by omega
      clear hl hcr
      gi_wp2
      refine wpIn_wide.2 (wp_only ?_)
      go_quiet (fail)
      unfold only
      obtain ⟨w6, Hw6⟩ : ∃ x, Hid (wr.drewN nq = x) := ⟨_, ⟨rfl⟩⟩
      have HB6 : Hid (Below wr.heap.size wr w6) := ⟨by rw [← Hw6.out]; exact below_drewN (Below.refl _ _) nq⟩
      have hj6 : J pre w6 := HJb.out _ _ _ hJ HB6.out
      have HQ6 : Hid (w6.heap[q + 2]? = some (.cells #[.int .i64 (n : Int)] 3 (0, 0))) := ⟨(HB6.out.block _ (Array.getElem?_eq_some_iff.1 HQ.out).1).trans HQ.out⟩
      have HK6 : Hid (KpB (q + 2) b W w6) := ⟨HK.out.trans (KpB.of (Chg.ofBelow (X := []) HB6.out) (by have := (Array.getElem?_eq_some_iff.1 HQ.out).1; omega) (by simp))⟩
      obtain ⟨fn, tmps, assign, body, hy, hR⟩ := HY.out pre ⟨i, a, m⟩ w6 hj6 (by have := HPl.out; omega)
      rw [Hw6.out]
      clear hJ HQ HK hcl hcq hcp hqc
      simp only [pv] at hy
      gi_wp2
      refine hR.mono ?_
      rintro e W3 ⟨rfl, hJ3, hk3⟩
      have HQ3 : Hid (W3.heap[q + 2]? = some (.cells #[.int .i64 (n : Int)] 3 (0, 0))) := ⟨(hk3.2 (q + 2) (by omega) (by omega)).trans HQ6.out⟩
      have HK3 : Hid (KpB (q + 2) b W W3) := ⟨HK6.out.trans ⟨hk3.1, fun k h1 h2 => hk3.2 k (by omega) h2⟩⟩
      obtain ⟨W4, Hw4⟩ : ∃ x, Hid (W3.drew = x) := ⟨_, ⟨rfl⟩⟩
      have HB4 : Hid (Below W3.heap.size W3 W4) := ⟨by rw [← Hw4.out]; exact ⟨rfl, rfl, rfl, Nat.le_refl _, fun _ _ => rfl⟩⟩
      have hj4 : J (pre ++ [⟨i, a, m⟩]) W4 := HJb.out _ _ _ hJ3 HB4.out
      have HQ4 : Hid (W4.heap[q + 2]? = some (.cells #[.int .i64 (n : Int)] 3 (0, 0))) := ⟨(HB4.out.block _ (Array.getElem?_eq_some_iff.1 HQ3.out).1).trans HQ3.out⟩
      have HK4 : Hid (KpB (q + 2) b W W4) := ⟨HK3.out.trans (KpB.of (Chg.ofBelow (X := []) HB4.out) (by have := (Array.getElem?_eq_some_iff.1 HQ3.out).1; omega) (by simp))⟩
      have hq4 : W4.cell? ⟨q + 2, 0, none⟩ = some (.int .i64 (n : Int)) := by rw [cell_of_row _ _ _ _ _ _ HQ4.out]; rfl
      have hf4 : W4.frozen? ⟨q + 2, 0, none⟩ = false := frozen_of_row W4 (q + 2) 0 _ 3 HQ4.out
      have hni : IntKind.i64.wrap ((n : Int) - m) = (n : Int) - m := IntWalk.i64_in _ ⟨by omega, by omega⟩
      have hii : IntKind.i64.wrap ((i : Int) + 1) = (i : Int) + 1 := IntWalk.i64_in _ ⟨by omega, by omega⟩
      clear hJ3 hk3 HQ3 HK3 HQ6 HK6 hR hy
      gi_wp2
      refine wpIn_wide.2 (wp_norm ?_)
      refine wp_region_any (by kernel_rfl) ?_
      change wpAny _ _ _ _ _ _ _ (World.drew _)
      rw [Hw4.out]
      refine wpAny_take (i := 0) (v := .int .i64 (i : Int)) rfl (by kernel_rfl) (by kernel_rfl) (by kernel_rfl) (fun _ _ _ h => h) (Or.inl ⟨by kernel_rfl, fun _ => by kernel_rfl⟩) ?_
      refine wpAny_take (i := 1) (v := .int .i64 ((i : Int) + 1)) rfl (by kernel_rfl) (by kernel_rfl) (by kernel_rfl) (fun _ _ _ h => h) (Or.inl ⟨by kernel_rfl, fun wx => by go_simp⟩) ?_
      refine wpAny_take (i := 3) (v := .int .i64 (m : Int)) rfl (by kernel_rfl) (by kernel_rfl) (by kernel_rfl) (fun _ _ _ h => h) (Or.inl ⟨by kernel_rfl, fun _ => by kernel_rfl⟩) ?_
      refine wpAny_take (i := 5) (v := .int .i64 ((i : Int) + 1)) rfl (by kernel_rfl) (by kernel_rfl) (by kernel_rfl) (fun _ _ _ h => h) (Or.inl ⟨by kernel_rfl, fun _ => by kernel_rfl⟩) ?_
      refine wpAny_take (i := 6) (v := .int .i64 0) rfl (by kernel_rfl) (by kernel_rfl) (by kernel_rfl) (fun _ _ _ h => h) (Or.inl ⟨by kernel_rfl, fun _ => by kernel_rfl⟩) ?_
      refine wpAny_ready (rs := [2]) (by kernel_rfl) (by simp) (AllReady.cons rfl (fun K hK => ?_) AllReady.nil)
      go_simp
      refine hK _ _ ?_
      clear hK
      refine wpAny_take (i := 4) (v := .int .i64 ((n : Int) - m)) rfl (by kernel_rfl) (by kernel_rfl) (by kernel_rfl) (fun _ _ _ h => h) (Or.inl ⟨by kernel_rfl, fun wx => by go_simp⟩) ?_
      refine wpAny_ready (rs := [7]) (by kernel_rfl) (by simp) (AllReady.cons rfl (fun K hK => ?_) AllReady.nil)
      go_simp
      refine hK _ _ ?_
      clear hK
      refine wpAny_done (by kernel_rfl) ?_ _
      unfold only
      go_simp
      gi_wp2
      go_roundw
      case rel =>
        refine ⟨i + 1, 0, n - m, pre ++ [⟨i, a, m⟩], by go_num, rfl, HJc.out _ _ _ hj4, ⟨?_⟩, ⟨by rw [List.append_assoc]; show pre ++ (⟨i, a, m⟩ :: Rp.rn ((lens L).drop (i + 1)) (i + 1) 0 (n - m)) = T; rw [← HSt.out]; exact HTp.out⟩, ⟨by have h3 := HSm.out; have h4 := HSu.out; have h5 := Rp.upto_le (lens L) (i + 1); have h6 := Hm.out; omega⟩, ⟨fun hpos => ?_⟩, ⟨by rw [List.length_append]; simp; exact HPl.out⟩, ⟨HK4.out.trans (KpB.of ((Chg.refl [q + 2] W4).setCell (a := ⟨q + 2, 0, none⟩) (.inl (by simp)) _) (by have := (Array.getElem?_eq_some_iff.1 HQ4.out).1; omega) (by simp))⟩⟩
        · have h5 := heap_setCell_same W4 (q + 2) 0 _ 3 (.int .i64 ((n - m : Nat) : Int)) HQ4.out
          rw [show ((n - m : Nat) : Int) = (n : Int) - m by omega] at h5 ⊢
          simpa using h5
        · have h3 := HSm.out
          have h4 := HSu.out
          have hml : m = lc - a := by have := Hm.out; omega
          have hlt2 : i + 1 < L.length := by
            rcases Nat.lt_or_ge (i + 1) L.length with h | h
            · exact h
            · have h6 : Rp.upto (lens L) (i + 1) = (lens L).sum := by rw [show i + 1 = (lens L).length by rw [lens_len, HN.out] at *; omega, Rp.upto_len]
              omega
          exact ⟨hlt2, HSl.out (by rw [← HN.out]; exact hlt2)⟩
      case measure => simp [intOf]; omega
    · obtain rfl : n = 0 := by omega
      have HTe : Hid (pre = T) := ⟨by have := HTp.out; rw [Rp.rn_zero, List.append_nil] at this; exact this⟩
      gi_wp2
      go_end0
      exact ⟨⟨_, rfl⟩, pre, HTe.out, hJ⟩
end
end Go.Proofs.Ytkkcdmdkjedkjaa
