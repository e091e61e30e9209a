/- The program's targets: where each spot's chunk comes to lie. -/
import Derived.Test.YtkkcdmdkjedkjaaM1
namespace Go.Proofs.Ytkkcdmdkjedkjaa
open Go.RowKit Go.Lib

/-- The cells of a move. -/
def mc (m : Sp × Sp) : List Value := [.int .i64 m.1.1, .int .i64 m.1.2, .int .i64 m.2.1, .int .i64 m.2.2]
def m0 : Sp × Sp := ((0, 0), (0, 0))
theorem fnd2_app (A B : List (Sp × Sp)) (k : Sp) : fnd2 (A ++ B) k = match fnd2 A k with | some v => some v | none => fnd2 B k := by
  induction A with
  | nil => rfl
  | cons x A ih =>
    rw [List.cons_append, fnd2_cons, fnd2_cons, ih]
    by_cases h : x.1 = k <;> simp [h]
def tgStep (M : List (Sp × Sp)) (m : Sp × Sp) : List (Sp × Sp) := if (fnd2 M m.1).isSome then M else M ++ [m]
def tg (ms : List (Sp × Sp)) : List (Sp × Sp) := ms.foldl tgStep []
theorem tg_snoc (ms : List (Sp × Sp)) {i : Nat} (h : i < ms.length) : tg (ms.take (i + 1)) = tgStep (tg (ms.take i)) (ms.getD i m0) := by
  unfold tg
  rw [List.take_add_one, List.getElem?_eq_getElem h, List.foldl_append]
  simp [List.getD, List.getElem?_eq_getElem h]
theorem fnd2_fold : ∀ (ms M : List (Sp × Sp)) (k : Sp), fnd2 (ms.foldl tgStep M) k = fnd2 (M ++ ms) k
  | [], M, k => by simp
  | m :: ms, M, k => by
    rw [List.foldl_cons, fnd2_fold ms (tgStep M m) k]
    unfold tgStep
    by_cases h : (fnd2 M m.1).isSome = true
    · rw [if_pos h, fnd2_app, fnd2_app, fnd2_cons]
      cases hk : fnd2 M k with
      | some v => rfl
      | none =>
        have : ¬ m.1 = k := by intro e; rw [e, hk] at h; cases h
        simp [this]
    · rw [if_neg h, List.append_assoc]
      rfl
theorem fnd2_tg (ms : List (Sp × Sp)) (k : Sp) : fnd2 (tg ms) k = fnd2 ms k := by unfold tg; rw [fnd2_fold]; rfl
section
variable {w : World}
set_option maxHeartbeats 4000000 in
set_option maxRecDepth 100000 in
theorem targets_any (v : Value) (ms : List (Sp × Sp)) (h : RdE mc 4 m0 w v ms) (hl : ms.length ≤ 2513169434843) : Calls Try.prog 37 #[v] w fun e w' => ∃ b, e = .returned (.map (some b)) ∧ MpAt w' b (tg ms) ∧ w.heap.size ≤ b ∧ Below w.heap.size w w' := by
  have H := Hid.mk h
  obtain ⟨av, cv, rfl, hcv, hcm, _⟩ := h.shape
  obtain ⟨n, Hn⟩ : ∃ n, Hid (ms.length = n) := ⟨_, ⟨rfl⟩⟩
  rw [Hn.out] at H hcv hl ⊢
  have hmk : ∀ (W : World) (k : Int), (Instr.makeMap 81 (some (.int .i64 k))).run Try.prog W = .ok (.map (some W.heap.size)) (W.alloc (.map #[] 0)) := fun W k => by simp [Instr.makeMap, run_underlying Try.underlying81, asInt, asIntOf]
  have HTe : Hid (ms.take n = ms) := ⟨List.take_of_length_le (by rw [Hn.out]; exact Nat.le_refl _)⟩
  have HS := Hid.mk (fun i hi => tg_snoc ms (i := i) hi)
  obtain ⟨b, Hb⟩ : ∃ b, Hid (w.heap.size = b) := ⟨_, ⟨rfl⟩⟩
  have HM0 : Hid (MpAt (w.alloc (.map #[] 0)) b (tg (ms.take 0))) := ⟨⟨#[], 0, by rw [← Hb.out]; exact heap_alloc_new w _, rfl⟩⟩
  have HB0 : Hid (Below w.heap.size w (w.alloc (.map #[] 0))) := ⟨(Below.refl _ w).alloc (Nat.le_refl _) _⟩
  clear h
  go_enter Try.func37, Try.ntmps37
  go_wp2_with fail
  rw [Hb.out]
  go_loopg [5, 6, 7, 13] n (fun gg _ _ _ s13 wr => ∃ i : Nat, i ≤ n ∧ n - i ≤ gg ∧ s13 = .int .i64 (i : Int) ∧ Hid (MpAt wr b (tg (ms.take i))) ∧ Hid (Below w.heap.size w wr))
  case atStart => exact ⟨0, Nat.zero_le _, by omega, rfl, HM0, HB0⟩
  case round =>
    clear HM0 HB0
    obtain ⟨i, hi, hgg, rfl, HM, HB⟩ := hrel
    by_cases hlt : i < n
    · have hltz : (i : Int) < (n : Int) := by omega
      have hiL : i < ms.length := by rw [Hn.out]; exact hlt
      obtain ⟨g, off, cap, e, hc⟩ := (H.out.far (Chg.ofBelow (X := []) HB.out) (by simp)).at' i hiL
      rw [Hn.out] at e
      simp at e
      obtain ⟨rfl, rfl⟩ := e
      have HS1 := Hid.mk (HS.out i hiL)
      generalize ms.getD i m0 = m at hc HS1
      obtain ⟨⟨fb, fs⟩, ⟨tb, ts⟩⟩ := m
      have c0 := hc 0 (by decide)
      have c1 := hc 1 (by decide)
      have c2 := hc 2 (by decide)
      have c3 := hc 3 (by decide)
      simp [mc] at c0 c1 c2 c3
      clear hc
      generalize tg (ms.take i) = M at HM HS1
      go_upto_region 5 with fail
      obtain ⟨q, Hq⟩ : ∃ q, Hid (wr.heap.size = q) := ⟨_, ⟨rfl⟩⟩
      obtain ⟨w3, Hw3⟩ : ∃ x, Hid (wr.alloc (.cells #[.int .i64 fb, .int .i64 fs, .int .i64 tb, .int .i64 ts] 63) = x) := ⟨_, ⟨rfl⟩⟩
      have HC3 : Hid (Below wr.heap.size wr w3) := ⟨by rw [← Hw3.out]; exact (Below.refl _ wr).alloc (Nat.le_refl _) _⟩
      have HQ3 : Hid (w3.heap[q]? = some (.cells #[.int .i64 fb, .int .i64 fs, .int .i64 tb, .int .i64 ts] 63 (0, 0))) := ⟨by rw [← Hw3.out, ← Hq.out]; exact heap_alloc_new wr _⟩
      have HM3 : Hid (MpAt w3 b M) := ⟨HM.out.far (Chg.ofBelow (X := []) HC3.out) (by simp)⟩
      have HB3 : Hid (Below w.heap.size w w3) := ⟨HB.out.trans (HC3.out.mono HB.out.size)⟩
      have hlk := lookup_run HM3.out (fb, fs)
      simp only [spv] at hlk
      obtain ⟨v1, Hv1⟩ : ∃ x, Hid (((fnd2 M (fb, fs)).getD (0, 0)).1 = x) := ⟨_, ⟨rfl⟩⟩
      obtain ⟨v2, Hv2⟩ : ∃ x, Hid (((fnd2 M (fb, fs)).getD (0, 0)).2 = x) := ⟨_, ⟨rfl⟩⟩
      rw [Hv1.out, Hv2.out] at hlk
      obtain ⟨w4, Hw4⟩ : ∃ x, Hid (w3.alloc (.cells #[.int .i64 v1, .int .i64 v2] 61) = x) := ⟨_, ⟨rfl⟩⟩
      have HC4 : Hid (Below w3.heap.size w3 w4) := ⟨by rw [← Hw4.out]; exact (Below.refl _ w3).alloc (Nat.le_refl _) _⟩
      have HB4 : Hid (Below w.heap.size w w4) := ⟨HB3.out.trans (HC4.out.mono HB3.out.size)⟩
      have HM4 : Hid (MpAt w4 b M) := ⟨HM3.out.far (Chg.ofBelow (X := []) HC4.out) (by simp)⟩
      have HQ4 : Hid (w4.heap[q]? = some (.cells #[.int .i64 fb, .int .i64 fs, .int .i64 tb, .int .i64 ts] 63 (0, 0))) := ⟨(HC4.out.block q (Array.getElem?_eq_some_iff.1 HQ3.out).1).trans HQ3.out⟩
      have d0 : w3.cell? ⟨q, 0, none⟩ = some (.int .i64 fb) := by rw [cell_of_row _ _ _ _ _ _ HQ3.out]; rfl
      have d1 : w3.cell? ⟨q, 1, none⟩ = some (.int .i64 fs) := by rw [cell_of_row _ _ _ _ _ _ HQ3.out]; rfl
      rw [Hw3.out, Hq.out]
      clear c0 c1 c2 c3
      cases hfd : fnd2 M (fb, fs) with
      | some vv =>
        have HS2 : Hid (tg (ms.take (i + 1)) = M) := ⟨by rw [HS1.out]; unfold tgStep; rw [hfd]; rfl⟩
        rw [hfd] at hlk
        simp only [Option.isSome_some] at hlk
        clear hfd
        go_wp2_with fail
        go_roundg (n - (i + 1))
        case measure => omega
        case rel => exact ⟨i + 1, by omega, by omega, by go_num, ⟨by rw [HS2.out, Hw4.out]; exact HM4.out⟩, ⟨by rw [Hw4.out]; exact HB4.out⟩⟩
      | none =>
        have HS2 : Hid (tg (ms.take (i + 1)) = M ++ [((fb, fs), (tb, ts))]) := ⟨by rw [HS1.out]; unfold tgStep; rw [hfd]; rfl⟩
        obtain ⟨w5, hup, hM5, hC5⟩ := update_run HM4.out (fb, fs) (tb, ts) hfd
        rw [hfd] at hlk
        simp only [Option.isSome_none] at hlk
        simp only [spv] at hup
        have e0 : w4.cell? ⟨q, 0, none⟩ = some (.int .i64 fb) := by rw [cell_of_row _ _ _ _ _ _ HQ4.out]; rfl
        have e1 : w4.cell? ⟨q, 1, none⟩ = some (.int .i64 fs) := by rw [cell_of_row _ _ _ _ _ _ HQ4.out]; rfl
        have e2 : w4.cell? ⟨q, 2, none⟩ = some (.int .i64 tb) := by rw [cell_of_row _ _ _ _ _ _ HQ4.out]; rfl
        have e3 : w4.cell? ⟨q, 3, none⟩ = some (.int .i64 ts) := by rw [cell_of_row _ _ _ _ _ _ HQ4.out]; rfl
        have HM5 := Hid.mk hM5
        have HC5 := Hid.mk hC5
        have HB5 : Hid (Below w.heap.size w w5) := ⟨HB4.out.trans (hC5.below HB4.out.size (by have := Hb.out; simp; omega))⟩
        clear hfd hM5 hC5
        go_upto_region 6 with fail
        rw [Hw4.out]
        go_wp2_with fail
        go_roundg (n - (i + 1))
        case measure => omega
        case rel => exact ⟨i + 1, by omega, by omega, by go_num, ⟨by rw [HS2.out]; exact HM5.out⟩, HB5⟩
    · obtain rfl : n = i := by omega
      rw [HTe.out] at HM
      go_wp2_with fail
      go_ret
      exact ⟨b, rfl, HM.out, by rw [Hb.out]; exact Nat.le_refl _, HB.out⟩
end
end Go.Proofs.Ytkkcdmdkjedkjaa
