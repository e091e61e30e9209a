/- slices.Backward of ints. -/
import Derived.Test.YtoneepoaodoijaaP1
import Derived.Test.YtoneepoaodoijaaInts
namespace Go.Proofs.Ytoneepoaodoijaa
open Go.RowKit Go.Lib Go.Shelf Oct

abbrev Yb := Int × Int
def encb (x : Yb) : Array Value := #[.int .i64 x.1, .int .i64 x.2]
section
variable {w : World}
theorem backward36 (v : Value) (hv : ∃ a n c, v = .slice a n c) : Calls Try.prog 36 #[v] w fun e w' => e = .returned (.func (.func 40) #[] #[.pointer (some ⟨w.heap.size, 0, none⟩)]) ∧ w' = w.alloc (.cells #[v] 67) := by
  obtain ⟨a, n, c, rfl⟩ := hv
  go_enter Try.func36, Try.ntmps36
  go_wp2_with fail
  go_ret
  exact ⟨rfl, rfl⟩
end
section
attribute [local go_sem] Oper.semAt_some
set_option maxHeartbeats 8000000 in
set_option maxRecDepth 100000 in
theorem backward40_x (v : Value) (L : List Int) (l q M : Nat) (X : List Nat) (J Jx : List Yb → World → Prop) (W : World)
    (hst : ∀ A, KpX M X W A → RdI A v L) (hq : W.heap[q]? = some (.cells #[v] 67 (0, 0))) (hqM : q < M) (hX : q ∉ X) (hWM : M ≤ W.heap.size) (hL : L.length ≤ 1000000)
    (hY : ∀ pre x A, J pre A → (M ≤ A.heap.size ∧ KpX M X W A ∧ pre.length < L.length ∧ x.2 = L.getD (L.length - 1 - pre.length) 0) → YieldAt Fence.wide 8 Try.prog l (encb x) A fun e C => (e = .returned (.bool true) ∧ J (pre ++ [x]) C ∧ KpX M X A C) ∨ (e = .returned (.bool false) ∧ Jx (pre ++ [x]) C))
    (hj0 : J [] W) :
    CallsIn Fence.wide 9 Try.prog 40 #[.func (.yield l) #[] #[], .pointer (some ⟨q, 0, none⟩)] W fun e C => (∃ v, e = .returned v) ∧ ((∃ xs, xs.length = L.length ∧ J xs C) ∨ ∃ xs, Jx xs C) := by
  have HST := Hid.mk hst
  have HY := Hid.mk hY
  have HQ := Hid.mk hq
  obtain ⟨va, vc, ev, _⟩ := (hst W (KpX.refl _ _ _)).shape
  subst ev
  obtain ⟨n, Hn⟩ : ∃ n, Hid (L.length = n) := ⟨_, ⟨rfl⟩⟩
  have c0 : W.cell? ⟨q, 0, none⟩ = some (.slice va L.length vc) := by rw [cell_of_row _ _ _ _ _ _ hq]; rfl
  clear hst hY hq
  rw [Hn.out] at c0 HQ HST hL HY ⊢
  have hs0 : IntKind.i64.wrap ((n : Int) - 1) = (n : Int) - 1 := IntWalk.i64_in _ ⟨by omega, by omega⟩
  refine callsIn_of_wp Try.func40 rfl trivial ?_ rfl
  simp only [Try.ntmps40, List.size_toArray, List.length_cons, List.length_nil, Nat.reduceAdd, Nat.reduceSub, Array.replicate_succ, Array.replicate_zero, List.push_toArray, List.append_toArray, List.nil_append, List.cons_append]
  gi_wp2
  gi_loopw [3] (fun s3 wr => ∃ (k : Nat) (pre : List Yb), s3 = .int .i64 ((n : Int) - 1 - (k : Int)) ∧ k ≤ n ∧ Hid (pre.length = k) ∧ J pre wr ∧ Hid (KpX M X W wr)) (fun s3 _ => ((RowKit.intOf s3) + 1).toNat)
  case atStart => exact ⟨0, [], by simp, Nat.zero_le _, ⟨rfl⟩, hj0, ⟨KpX.refl _ _ _⟩⟩
  case round =>
    obtain ⟨k, pre, rfl, hkn, HPl, hJ, HK⟩ := hrel
    have HQr : Hid (wr.heap[q]? = some (.cells #[.slice va n vc] 67 (0, 0))) := ⟨(HK.out.2 q hqM hX).trans HQ.out⟩
    have e0 : wr.cell? ⟨q, 0, none⟩ = some (.slice va n vc) := by rw [cell_of_row _ _ _ _ _ _ HQr.out]; rfl
    by_cases hlt : k < n
    · obtain ⟨i, Hi⟩ : ∃ i : Nat, Hid ((n : Int) - 1 - (k : Int) = (i : Int)) := ⟨n - 1 - k, ⟨by omega⟩⟩
      have hi : i < n := by have := Hi.out; omega
      have hiz : (i : Int) < (n : Int) := by omega
      obtain ⟨g, o, cp, e, _, hat⟩ := (HST.out wr HK.out).at (i := i) (by rw [Hn.out]; exact hi)
      rw [Hn.out] at e hat
      simp only [Value.slice.injEq] at e
      obtain ⟨rfl, -, rfl⟩ := e
      have d1 := hat i hi
      obtain ⟨y, Hy⟩ : ∃ y, Hid (L.getD i 0 = y) := ⟨_, ⟨rfl⟩⟩
      rw [Hy.out] at d1
      have HXi : Hid (n - 1 - k = i) := ⟨by have := Hi.out; omega⟩
      obtain ⟨fn, tmps, assign, body, hy, hR⟩ := HY.out pre ((i : Int), y) wr hJ ⟨Nat.le_trans hWM HK.out.1, HK.out, by rw [HPl.out]; exact hlt, by rw [HPl.out, HXi.out, Hy.out]⟩
      simp only [encb] at hy
      have hnx : IntKind.i64.wrap ((i : Int) - 1) = (i : Int) - 1 := IntWalk.i64_in _ ⟨by omega, by omega⟩
      have hgk : (i : Int) - 1 = (n : Int) - 1 - ((k + 1 : Nat) : Int) := by have := Hi.out; omega
      have Hgk := Hid.mk hgk
      clear hJ hat hgk
      rw [Hi.out]
      gi_wp2
      refine hR.mono ?_
      rintro e W3 (⟨rfl, hJ3, hk3⟩ | ⟨rfl, hx3⟩)
      · have HK3 : Hid (KpX M X W W3) := ⟨HK.out.trans hk3⟩
        clear hk3 hR hy
        gi_wp2
        go_roundw
        case rel => exact ⟨k + 1, pre ++ [((i : Int), y)], by rw [← Hgk.out], by omega, ⟨by rw [List.length_append, HPl.out]; rfl⟩, hJ3, HK3⟩
        case measure => simp [RowKit.intOf]
      · clear hR hy
        gi_wp2
        (try simp only [Exit.inBlock, Exit.then]); refine bodyPost_ret (results_none rfl _ _ _) rfl ?_
        exact ⟨⟨_, rfl⟩, .inr ⟨_, hx3⟩⟩
    · obtain rfl : n = k := by omega
      have hm1 : (n : Int) - 1 - (n : Int) = -1 := by omega
      rw [hm1]
      gi_wp2
      go_end0
      exact ⟨⟨_, rfl⟩, .inl ⟨pre, HPl.out, hJ⟩⟩
end
end Go.Proofs.Ytoneepoaodoijaa
