/- slices.Chunk of bytes; tellPlain: bytes as they are, in pieces. -/
import Derived.Test.YtoneepoaodoijaaP4
namespace Go.Proofs.Ytoneepoaodoijaa
open Go.RowKit Go.Lib Go.Shelf Oct

/-- Slices, as they come. -/
abbrev Yc := Option Addr × Nat × Nat
def encc (x : Yc) : Array Value := #[.slice x.1 x.2.1 x.2.2]
/-- The k-th chunk of 128 bytes. -/
def chk (b : List Int) (k : Nat) : List Int := (b.drop (128 * k)).take 128
/-- How many there are. -/
def cnk (n : Nat) : Nat := (n + 127) / 128
section
variable {w : World}
theorem chunk34 (v : Value) (hv : ∃ a n c, v = .slice a n c) : Calls Try.prog 34 #[v, .int .i64 128] w fun e w' => e = .returned (.func (.func 38) #[] #[.pointer (some ⟨w.heap.size, 0, none⟩), .pointer (some ⟨w.heap.size + 1, 0, none⟩)]) ∧ w' = (w.alloc (.cells #[v] 22)).alloc (.cells #[.int .i64 128] 3) := by
  obtain ⟨a, n, c, rfl⟩ := hv
  go_enter Try.func34, Try.ntmps34
  go_wp2_with fail
  go_ret
  exact ⟨rfl, rfl⟩
end
section
attribute [local go_sem] Oper.semAt_some
set_option maxHeartbeats 8000000 in
set_option maxRecDepth 100000 in
theorem chunk38_v (v : Value) (b : List Int) (l q M : Nat) (X : List Nat) (J : List Yc → World → Prop) (W : World) (hb : b.length ≤ 8192)
    (hst : ∀ A, KpX M X W A → RdY A v b) (hq : W.heap[q]? = some (.cells #[v] 22 (0, 0))) (hq1 : W.heap[q + 1]? = some (.cells #[.int .i64 128] 3 (0, 0))) (hqM : q + 1 < M) (hX : q ∉ X ∧ q + 1 ∉ X) (hWM : M ≤ W.heap.size)
    (hJb : ∀ pre A C, J pre A → Below A.heap.size A C → J pre C)
    (hY : ∀ pre x A, J pre A → (M ≤ A.heap.size ∧ KpX M X W A ∧ pre.length < cnk b.length ∧ RdY A (.slice x.1 x.2.1 x.2.2) (chk b pre.length) ∧ x.2.1 = (chk b pre.length).length) → YieldAt Fence.wide 8 Try.prog l (encc x) A fun e C => e = .returned (.bool true) ∧ J (pre ++ [x]) C ∧ KpX M X A C)
    (hj0 : J [] W) :
    CallsIn Fence.wide 9 Try.prog 38 #[.func (.yield l) #[] #[], .pointer (some ⟨q, 0, none⟩), .pointer (some ⟨q + 1, 0, none⟩)] W fun e C => (∃ v, e = .returned v) ∧ ∃ xs, xs.length = cnk b.length ∧ J xs C := by
  have hv := hst W (KpX.refl _ _ _)
  have HV := Hid.mk hv
  have HST := Hid.mk hst
  have HY := Hid.mk hY
  have HJb := Hid.mk hJb
  have HQ := Hid.mk hq
  have HQ1 := Hid.mk hq1
  obtain ⟨va, vc, ev, hvc, _⟩ := hv.shape
  subst ev
  obtain ⟨n, Hn⟩ : ∃ n, Hid (b.length = n) := ⟨_, ⟨rfl⟩⟩
  have c0 : W.cell? ⟨q, 0, none⟩ = some (.slice va b.length vc) := by rw [cell_of_row _ _ _ _ _ _ hq]; rfl
  clear hv hst hY hq hq1 hJb
  rw [Hn.out] at c0 HQ HV HST hb hvc HY ⊢
  refine callsIn_of_wp Try.func38 rfl trivial ?_ rfl
  simp only [Try.ntmps38, List.size_toArray, List.length_cons, List.length_nil, Nat.reduceAdd, Nat.reduceSub, Array.replicate_succ, Array.replicate_zero, List.push_toArray, List.append_toArray, List.nil_append, List.cons_append]
  gi_wp2
  gi_loopw [4] (fun s4 wr => ∃ (k i : Nat) (pre : List Yc), s4 = .int .i64 (i : Int) ∧ Hid (i = 128 * k) ∧ k ≤ cnk n ∧ Hid (pre.length = k) ∧ J pre wr ∧ Hid (KpX M X W wr)) (fun s4 _ => 8320 - (RowKit.intOf s4).toNat)
  case atStart => exact ⟨0, 0, [], rfl, ⟨rfl⟩, Nat.zero_le _, ⟨rfl⟩, hj0, ⟨KpX.refl _ _ _⟩⟩
  case round =>
    obtain ⟨k, i, pre, rfl, Hik, hkc, HPl, hJ, HK⟩ := hrel
    have HQr : Hid (wr.heap[q]? = some (.cells #[.slice va n vc] 22 (0, 0))) := ⟨(HK.out.2 q (by omega) hX.1).trans HQ.out⟩
    have HQr1 : Hid (wr.heap[q + 1]? = some (.cells #[.int .i64 128] 3 (0, 0))) := ⟨(HK.out.2 (q + 1) (by omega) hX.2).trans HQ1.out⟩
    have e0 : wr.cell? ⟨q, 0, none⟩ = some (.slice va n vc) := by rw [cell_of_row _ _ _ _ _ _ HQr.out]; rfl
    have e1 : wr.cell? ⟨q + 1, 0, none⟩ = some (.int .i64 128) := by rw [cell_of_row _ _ _ _ _ _ HQr1.out]; rfl
    by_cases hlt : i < n
    · have hltz : (i : Int) < (n : Int) := by omega
      obtain ⟨g, off, hva⟩ : ∃ g o, va = some ⟨g, o, none⟩ := by
        obtain ⟨g, o, c, e, _⟩ := HV.out.at (i := 0) (by rw [Hn.out]; omega)
        simp only [Value.slice.injEq] at e
        exact ⟨g, o, e.1⟩
      subst hva
      obtain ⟨m, Hm⟩ : ∃ m, Hid (min 128 (n - i) = m) := ⟨_, ⟨rfl⟩⟩
      have hm : m ≤ 128 ∧ i + m ≤ n ∧ 0 < m := by rw [← Hm.out]; omega
      have hmz : min (128 : Int) ((n - i : Nat) : Int) = (m : Int) := by rw [← Hm.out]; omega
      have hle : (i : Int) ≤ (n : Int) := by omega
      have hvi : ¬ vc = i := by omega
      have hk64 : k ≤ 64 := by have := Hik.out; omega
      have Hkc : Hid (k + 1 ≤ cnk n) := ⟨by have := Hik.out; unfold cnk; omega⟩
      have hs1 : IntKind.i64.wrap ((i : Int) + (m : Int)) = (i : Int) + m := IntWalk.i64_in _ ⟨by omega, by omega⟩
      have hs2 : IntKind.i64.wrap ((i : Int) + 128) = (i : Int) + 128 := IntWalk.i64_in _ ⟨by omega, by omega⟩
      have hle2 : (i : Int) + m ≤ (vc : Int) := by omega
      have hle3 : (i : Int) + m ≤ (n : Int) := by omega
      clear hkc
      gi_wp2
      refine wpIn_wide.2 (wp_only ?_)
      go_quiet (fail)
      unfold only
      obtain ⟨w6, Hw6⟩ : ∃ x, Hid (wr.drewN nq = x) := ⟨_, ⟨rfl⟩⟩
      have HB6 : Hid (Below wr.heap.size wr w6) := ⟨by rw [← Hw6.out]; exact below_drewN (Below.refl _ _) nq⟩
      have hj6 : J pre w6 := HJb.out _ _ _ hJ HB6.out
      have HWr : Hid (M ≤ wr.heap.size) := ⟨Nat.le_trans hWM HK.out.1⟩
      have HK6 : Hid (KpX M X W w6) := ⟨HK.out.trans (KpX.of (Chg.ofBelow (X := []) HB6.out) HWr.out (by simp))⟩
      have HV6 := Hid.mk (HST.out w6 HK6.out)
      have d0 : w6.cell? ⟨q, 0, none⟩ = some (.slice (some ⟨g, off, none⟩) n vc) := by rw [cell_of_row _ _ _ _ _ _ ((HK6.out.2 q (by omega) hX.1).trans HQ.out)]; rfl
      have d1 : w6.cell? ⟨q + 1, 0, none⟩ = some (.int .i64 128) := by rw [cell_of_row _ _ _ _ _ _ ((HK6.out.2 (q + 1) (by omega) hX.2).trans HQ1.out)]; rfl
      have hchl : (chk b k).length = m := by unfold chk; rw [List.length_take, List.length_drop, Hn.out, ← Hik.out, ← Hm.out]
      have HPc : Hid (RdY w6 (.slice (some ⟨g, off + i, none⟩) m m) (chk b k)) := ⟨by
        have := rdY_sub HV6.out (k := i) (m := m) (by omega) m ⟨Nat.le_refl _, by unfold maxLen; omega⟩
        have e : chk b k = (b.drop i).take m := by
          unfold chk
          rw [← Hik.out, ← Hm.out]
          by_cases h128 : 128 ≤ n - i
          · rw [Nat.min_eq_left h128]
          · rw [Nat.min_eq_right (by omega), List.take_of_length_le (by rw [List.length_drop, Hn.out]; omega), List.take_of_length_le (by rw [List.length_drop, Hn.out]; exact Nat.le_refl _)]
        rw [e]
        exact this⟩
      obtain ⟨fn, tmps, assign, body, hy, hR⟩ := HY.out pre (some ⟨g, off + i, none⟩, m, m) w6 hj6 ⟨Nat.le_trans HWr.out HB6.out.size, HK6.out, by rw [HPl.out]; exact Hkc.out, by rw [HPl.out]; exact HPc.out, by rw [HPl.out, hchl]⟩
      simp only [encc] at hy
      have hmm : i + m - i = m := by omega
      rw [Hw6.out]
      clear hJ hj6 e0 e1 hchl
      gi_wp2
      refine hR.mono ?_
      rintro e W3 ⟨rfl, hJ3, hk3⟩
      have HK3 : Hid (KpX M X W W3) := ⟨HK6.out.trans hk3⟩
      have f1 : W3.cell? ⟨q + 1, 0, none⟩ = some (.int .i64 128) := by rw [cell_of_row _ _ _ _ _ _ ((HK3.out.2 (q + 1) (by omega) hX.2).trans HQ1.out)]; rfl
      clear hk3 hR hy d0 d1
      gi_wp2
      go_roundw
      case rel => exact ⟨k + 1, i + 128, pre ++ [_], by go_num, ⟨by have := Hik.out; omega⟩, Hkc.out, ⟨by rw [List.length_append, HPl.out]; rfl⟩, hJ3, HK3⟩
      case measure => simp [RowKit.intOf]; omega
    · have hn0 : i = 128 * k := Hik.out
      have hkn : k = cnk n := by unfold cnk at hkc ⊢; omega
      have Hkn := Hid.mk hkn
      clear hn0 hkn
      gi_wp2
      go_end0
      exact ⟨⟨_, rfl⟩, pre, by rw [HPl.out]; exact Hkn.out, hJ⟩
end
end Go.Proofs.Ytoneepoaodoijaa
