/- slices.Backward of bytes; Eval. -/
import Derived.RangeFuncNested
import Derived.RangeFuncBound
import Derived.RangeFuncBox
import Derived.RangeFuncCalls
import Derived.RangeFuncLeaves
import Derived.Shelf.Abstract
import Derived.Shelf.RegionOpen
import Derived.OwnWalkIn
import Derived.TacticsInMore
import Derived.LoopNIn
import Derived.LoopIn
import Derived.Lib.QuietBelowIn
import Derived.Test.YtkleaaopbhbpmaaRF
import Derived.Test.YtkleaaopbhbpmaaM6
namespace Go.Proofs.Ytkleaaopbhbpmaa
open Go.RowKit Go.Lib Go.Shelf Gf

/-- What a round must keep: all that lies below M, but for block b. -/
def KpB (M b : Nat) (A B : World) : Prop := A.heap.size ≤ B.heap.size ∧ ∀ k, k < M → k ≠ b → B.heap[k]? = A.heap[k]?
theorem KpB.refl (M b : Nat) (A : World) : KpB M b A A := ⟨Nat.le_refl _, fun _ _ _ => rfl⟩
theorem KpB.trans {M b : Nat} {A B C : World} (h : KpB M b A B) (k : KpB M b B C) : KpB M b A C := ⟨Nat.le_trans h.1 k.1, fun j h1 h2 => (k.2 j h1 h2).trans (h.2 j h1 h2)⟩
theorem KpB.of {M b : Nat} {X : List Nat} {A B : World} (h : Chg X A B) (hM : M ≤ A.heap.size) (hx : ∀ k ∈ X, k = b ∨ M ≤ k) : KpB M b A B := ⟨h.size, fun k h1 h2 => h.block k (by omega) (fun hm => by have := hx k hm; omega)⟩
theorem KpB.put {M b : Nat} {w : World} (hM : M ≤ w.heap.size) (W : World) (l : Nat) (o : Obj) (hl : w.heap.size ≤ l) : KpB M b W (W.putObj l o) :=
  ⟨by simp, fun k h1 _ => World.putObj_heap_other (by omega)⟩
theorem KpB.cell {M b : Nat} {A B : World} (h : KpB M b A B) {ad : Addr} {v : Value} (h1 : ad.block < M) (h2 : ad.block ≠ b) (hc : A.cell? ad = some v) : B.cell? ad = some v := (World.cell?_of_block (h.2 _ h1 h2)).trans hc
theorem chg_put (W : World) (l : Nat) (o : Obj) : Chg [l] W (W.putObj l o) := ⟨rfl, rfl, rfl, by simp, fun k _ hx => World.putObj_heap_other (by simpa using hx)⟩
/-- The elements with their places, from the last one on: the first k of these. -/
def bks (P : List G) : Nat → List (Int × G)
  | 0 => []
  | k + 1 => bks P k ++ [((P.length : Int) - (k + 1), P.getD (P.length - (k + 1)) 0)]
theorem bks_len (P : List G) : ∀ k, (bks P k).length = k
  | 0 => rfl
  | k + 1 => by rw [bks, List.length_append, bks_len P k]; rfl
def hor (x : G) (l : List (Int × G)) : G := l.foldl (fun v c => v * x + c.2) 0
theorem hor_snoc (x : G) (l : List (Int × G)) (c : Int × G) : hor x (l ++ [c]) = hor x l * x + c.2 := by simp [hor, List.foldl_append]
theorem hor_ev (x : G) (P : List G) : ∀ k, k ≤ P.length → hor x (bks P k) = ev (P.drop (P.length - k)) x
  | 0, _ => by simp [bks, hor, ev]
  | k + 1, h => by
    rw [bks, hor_snoc, hor_ev x P k (by omega), List.drop_eq_getElem_cons (show P.length - (k + 1) < P.length by omega), ev]
    have e1 : P.length - (k + 1) + 1 = P.length - k := by omega
    have e2 : P.getD (P.length - (k + 1)) 0 = P[P.length - (k + 1)] := by simp [List.getD, List.getElem?_eq_getElem (show P.length - (k + 1) < P.length by omega)]
    rw [e1, e2, add_comm, mul_comm]
theorem hor_full (x : G) (P : List G) : hor x (bks P P.length) = ev P x := by rw [hor_ev x P _ (Nat.le_refl _), Nat.sub_self, List.drop_zero]
section
variable {w : World}
theorem back27 (sa : Option Addr) (sn sc : Nat) : Calls Try.prog 27 #[.slice sa sn sc] w fun e w' => e = .returned (.func (.func 33) #[] #[.pointer (some ⟨w.heap.size, 0, none⟩)]) ∧ w' = w.alloc (.cells #[.slice sa sn sc] 33) := by
  go_enter Try.func27, Try.ntmps27
  go_wp2_with fail
  go_ret
  exact ⟨rfl, rfl⟩
end
section
attribute [local go_sem] Oper.semAt_some
set_option maxHeartbeats 4000000 in
set_option maxRecDepth 100000 in
theorem back33_in (P : List G) (v : Value) (l q b : Nat) (J : List (Int × G) → World → Prop) (W : World) (hPl : P.length ≤ 1000000000000000)
    (hv : RdG W v P) (hq : One W q v 33) (hM : 0 < P.length → ∀ k ∈ ob v, k < q ∧ k ≠ b) (hqb : b < q)
    (hY : ∀ pre x A, J pre A → pre.length < P.length → YieldAt Fence.wide 8 Try.prog l #[.int .i64 x.1, .int .u8 (gi x.2)] A fun e B => e = .returned (.bool true) ∧ J (pre ++ [x]) B ∧ KpB (q + 1) b A B)
    (hj0 : J [] W) :
    CallsIn Fence.wide 9 Try.prog 33 #[.func (.yield l) #[] #[], .pointer (some ⟨q, 0, none⟩)] W fun e B => (∃ v, e = .returned v) ∧ ∃ xs, xs = bks P P.length ∧ J xs B := by
  obtain ⟨sa, sc, rfl, hsc, hsm, _⟩ := hv.shape
  have HV := Hid.mk hv
  have HM := Hid.mk hM
  have HY := Hid.mk hY
  have c0 := cell_of_one hq
  have HQ : Hid (One W q (.slice sa P.length sc) 33) := ⟨hq⟩
  obtain ⟨n, Hn⟩ : ∃ n, Hid (P.length = n) := ⟨_, ⟨rfl⟩⟩
  rw [Hn.out] at hPl HV HM HY HQ c0 hsc ⊢
  obtain ⟨T, HT⟩ : ∃ T, Hid (bks P n = T) := ⟨_, ⟨rfl⟩⟩
  rw [HT.out]
  clear hv hq hM hY
  refine callsIn_of_wp Try.func33 rfl trivial ?_ rfl
  simp only [Try.ntmps33, List.size_toArray, List.length_cons, List.length_nil, Nat.reduceAdd, Nat.reduceSub, Array.replicate_succ, Array.replicate_zero, List.push_toArray, List.append_toArray, List.nil_append, List.cons_append]
  gi_wp2
  gi_loopw [3] (fun s3 wr => ∃ k m : Nat, k + m = n ∧ s3 = .int .i64 ((m : Int) - 1) ∧ J (bks P k) wr ∧ Hid (KpB (q + 1) b W wr)) (fun s3 _ => (RowKit.intOf s3 + 1).toNat)
  case atStart => exact ⟨0, n, by omega, rfl, hj0, ⟨KpB.refl _ _ _⟩⟩
  case round =>
    obtain ⟨k, m, hkm, rfl, hJ, HK⟩ := hrel
    have HKM := Hid.mk hkm
    clear hkm
    cases m with
    | zero =>
      gi_wp2
      go_end0
      refine ⟨⟨_, rfl⟩, bks P k, ?_, hJ⟩
      rw [← HT.out]
      congr 1
      have := HKM.out
      omega
    | succ m =>
      have hkn := HKM.out
      have hiL : m < P.length := by rw [Hn.out]; omega
      obtain ⟨g, off, cap, e, _, hc⟩ := HV.out.at hiL
      rw [Hn.out] at e
      simp at e
      obtain ⟨rfl, rfl⟩ := e
      have hg := HM.out (by omega) g (by simp [ob, Value.ownBlock])
      have c1 := HK.out.cell (ad := ⟨g, off + m, none⟩) (show g < q + 1 by omega) hg.2 (hc m hiL)
      have c2 := HK.out.cell (ad := ⟨q, 0, none⟩) (show q < q + 1 by omega) (show q ≠ b by omega) c0
      have HX : Hid (bks P (k + 1) = bks P k ++ [((m : Int), P.getD m 0)]) := ⟨by
        rw [bks, Hn.out]
        have e1 : n - (k + 1) = m := by omega
        have e2 : (n : Int) - (k + 1) = m := by omega
        rw [e1, e2]⟩
      obtain ⟨x, Hx⟩ : ∃ r, Hid (P.getD m 0 = r) := ⟨_, ⟨rfl⟩⟩
      rw [Hx.out] at c1 HX
      obtain ⟨fn, tmps, assign, body, hy, hR⟩ := HY.out (bks P k) ((m : Int), x) wr hJ (by rw [bks_len]; omega)
      have hmn : (m : Int) < (n : Int) := by omega
      have hm1 : ((m + 1 : Nat) : Int) - 1 = (m : Int) := by omega
      simp only [hm1]
      have hz : (0 : Int) ≤ (m : Int) := by omega
      simp only at hy
      clear hc hkn hm1
      gi_wp2
      refine hR.mono ?_
      rintro e W3 ⟨rfl, hJ3, hk3⟩
      have HK3 : Hid (KpB (q + 1) b W W3) := ⟨HK.out.trans hk3⟩
      clear hk3 hR hy c1 c2 hJ
      gi_wp2
      go_roundw
      case rel => exact ⟨k + 1, m, by have := HKM.out; omega, rfl, by rw [HX.out]; exact hJ3, HK3⟩
      case measure => simp [RowKit.intOf]
end
end Go.Proofs.Ytkleaaopbhbpmaa
