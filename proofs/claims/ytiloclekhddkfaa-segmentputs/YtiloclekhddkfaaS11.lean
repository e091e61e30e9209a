/- Rows of refs; the document's Ends. -/
import Derived.Test.YtiloclekhddkfaaS10
namespace Go.Proofs.Ytiloclekhddkfaa
open Go.RowKit Go.Lib

/-- A ref as data. -/
structure Rf where
  s : List Int
  l : Int
  b : Int
  o : Int
/-- The cells of a ref. -/
def rc (r : Rf) : List Value := r.s.map (Value.int .u8) ++ [.int .i64 r.l, .int .i64 r.b, .int .i64 r.o]
def r0 : Rf := ⟨[], 0, 0, 0⟩
/-- A row of refs, read. -/
structure RdR (w : World) (v : Value) (L : List Rf) : Prop where
  shape : ∃ a cap, v = .slice a L.length cap ∧ L.length ≤ cap ∧ cap ≤ maxLen ∧ (a = none → cap = 0)
  at' : ∀ i, i < L.length → ∃ b off cap, v = .slice (some ⟨b, off, none⟩) L.length cap ∧ ∀ j, j < 35 → w.cell? ⟨b, off + i * 35 + j, none⟩ = (rc (L.getD i r0))[j]?
  sums : ∀ r ∈ L, Sm r.s
theorem RdR.below {w w' : World} {v : Value} {L : List Rf} (h : RdR w v L) (hb : Below w.heap.size w w') : RdR w' v L :=
  ⟨h.shape, fun i hi => by
    obtain ⟨b, off, cap, e, hc⟩ := h.at' i hi
    have hs := h.sums (L.getD i r0) (by simp only [List.getD, List.getElem?_eq_getElem hi, Option.getD_some]; exact List.getElem_mem hi)
    refine ⟨b, off, cap, e, fun j hj => ?_⟩
    have hl : (rc (L.getD i r0)).length = 35 := by unfold rc; rw [List.length_append, List.length_map, hs.len]; rfl
    have hv := hc j hj
    rw [List.getElem?_eq_getElem (by rw [hl]; exact hj)] at hv
    exact (hb.cell (World.block_lt_of_cell? _ _ hv)).trans (hc j hj), h.sums⟩
theorem RdR.sum {w : World} {v : Value} {L : List Rf} (h : RdR w v L) {i : Nat} (hi : i < L.length) : Sm (L.getD i r0).s :=
  h.sums _ (by simp only [List.getD, List.getElem?_eq_getElem hi, Option.getD_some]; exact List.getElem_mem hi)
theorem rc_sum (r : Rf) (hs : Sm r.s) (j : Nat) (hj : j < 32) : (rc r)[j]? = some (.int .u8 (r.s.getD j 0)) := by
  have hl : j < r.s.length := by rw [hs.len]; exact hj
  unfold rc
  rw [List.getElem?_append_left (by simpa using hl)]
  simp [List.getD, List.getElem?_eq_getElem hl]
/-- The last byte of the last sum. -/
def lastB (L : List Rf) : Int := (L.getD (L.length - 1) r0).s.getD 31 0
/-- Does a segment end behind L? -/
def ends (L : List Rf) (most : Int) : Bool := decide (0 < L.length) && (decide ((L.length : Int) = most) || (decide (most - most.tdiv 2 ≤ (L.length : Int)) && decide (lastB L < 32)))
theorem half_facts (m : Int) : 2 * m.tdiv 2 + m.tmod 2 = m ∧ (0 ≤ m → 0 ≤ m.tmod 2 ∧ m.tmod 2 ≤ 1) ∧ (m < 0 → -1 ≤ m.tmod 2 ∧ m.tmod 2 ≤ 0) := by
  refine ⟨Int.mul_tdiv_add_tmod m 2, fun h => ?_, fun h => ?_⟩
  · rw [Int.tmod_eq_emod_of_nonneg h]; omega
  · have e : m.tmod 2 = -((-m).tmod 2) := by rw [Int.neg_tmod]; omega
    rw [e, Int.tmod_eq_emod_of_nonneg (by omega)]
    omega
section
variable {w : World}
set_option maxHeartbeats 2000000 in
set_option maxRecDepth 100000 in
theorem rends_any (v : Value) (L : List Rf) (most : Int) (h : RdR w v L) (hL : L.length ≤ 10000000000000) (hm : -9223372036854775808 ≤ most ∧ most ≤ 9223372036854775807) : Calls Try.prog 17 #[v, .int .i64 most] w fun e w' => e = .returned (.bool (ends L most)) ∧ w = w' := by
  obtain ⟨n, Hn⟩ : ∃ n, Hid (L.length = n) := ⟨_, ⟨rfl⟩⟩
  obtain ⟨av, cv, rfl, hcv, hcm, _⟩ := h.shape
  by_cases h0 : L.length = 0
  · have HE : Hid (ends L most = false) := ⟨by unfold ends; rw [decide_eq_false (by omega)]; rfl⟩
    have Hz : Hid (n = 0) := ⟨by rw [← Hn.out]; exact h0⟩
    rw [h0]
    clear h
    go_enter Try.func17, Try.ntmps17
    go_wp2
    go_ret
    exact ⟨by rw [HE.out]; rfl, rfl⟩
  · obtain ⟨b, off, cap, e, hc⟩ := h.at' (L.length - 1) (by omega)
    have hsm := h.sum (i := L.length - 1) (by omega)
    have d := (hc 31 (by decide)).trans (rc_sum _ hsm 31 (by decide))
    have q := hsm.at 31 (by decide)
    have HE : Hid (ends L most = (decide ((L.length : Int) = most) || (decide (most - most.tdiv 2 ≤ (L.length : Int)) && decide (lastB L < 32)))) := ⟨by unfold ends; rw [decide_eq_true (by omega)]; rfl⟩
    have HB : Hid (lastB L = (L.getD (L.length - 1) r0).s.getD 31 0) := ⟨rfl⟩
    generalize (L.getD (L.length - 1) r0).s.getD 31 0 = y at d q HB
    rw [HB.out] at HE
    simp at e
    obtain ⟨rfl, rfl⟩ := e
    rw [Hn.out] at d h0 HE hcv hL ⊢
    have hz : ¬ (n : Int) = 0 := by omega
    have hn1 : (n : Int) - 1 = ((n - 1 : Nat) : Int) := by omega
    have hnw : IntKind.i64.wrap ((n - 1 : Nat) : Int) = ((n - 1 : Nat) : Int) := IntWalk.i64_in _ ⟨by omega, by omega⟩
    have hnl : ¬ n ≤ n - 1 := by omega
    clear h hc hsm
    obtain ⟨D, HD⟩ : ∃ D, Hid (most.tdiv 2 = D) := ⟨_, ⟨rfl⟩⟩
    obtain ⟨T, HT⟩ : ∃ T, Hid (most.tmod 2 = T) := ⟨_, ⟨rfl⟩⟩
    have hf := half_facts most
    rw [HD.out, HT.out] at hf
    rw [HD.out] at HE
    have eD := HD.out
    have eT := HT.out
    have hDw : wrap64 (D + 1) = D + 1 := IntWalk.wrap64_in _ ⟨by omega, by omega⟩
    have hDw0 : wrap64 D = D := IntWalk.wrap64_in _ ⟨by omega, by omega⟩
    have Hf := Hid.mk hf
    clear hf
    by_cases c1 : (n : Int) = most
    · rw [decide_eq_true c1, Bool.true_or] at HE
      have c1b : ((n : Int) == most) = true := by simpa using c1
      have Hc := Hid.mk c1
      clear c1
      by_cases c2 : T = 1
      · have c2b : (T == 1) = true := by simpa using c2
        go_enter Try.func17, Try.ntmps17
        go_wp2
        go_ret
        exact ⟨by rw [HE.out]; rfl, rfl⟩
      · have c2b : (T == 1) = false := by simpa using c2
        go_enter Try.func17, Try.ntmps17
        go_wp2
        go_ret
        exact ⟨by rw [HE.out]; rfl, rfl⟩
    · rw [decide_eq_false c1, Bool.false_or] at HE
      have c1b : ((n : Int) == most) = false := by simpa using c1
      by_cases c2 : T = 1
      · have c2b : (T == 1) = true := by simpa using c2
        by_cases c3 : D + 1 ≤ (n : Int)
        · rw [decide_eq_true (show most - D ≤ (n : Int) by have := Hf.out; omega), Bool.true_and] at HE
          go_enter Try.func17, Try.ntmps17
          go_wp2
          go_ret
          exact ⟨by rw [HE.out]; rfl, rfl⟩
        · rw [decide_eq_false (show ¬ most - D ≤ (n : Int) by have := Hf.out; omega), Bool.false_and] at HE
          go_enter Try.func17, Try.ntmps17
          go_wp2
          go_ret
          exact ⟨by rw [HE.out]; rfl, rfl⟩
      · have c2b : (T == 1) = false := by simpa using c2
        by_cases c3 : D ≤ (n : Int)
        · rw [decide_eq_true (show most - D ≤ (n : Int) by have := Hf.out; omega), Bool.true_and] at HE
          go_enter Try.func17, Try.ntmps17
          go_wp2
          go_ret
          exact ⟨by rw [HE.out]; rfl, rfl⟩
        · rw [decide_eq_false (show ¬ most - D ≤ (n : Int) by have := Hf.out; omega), Bool.false_and] at HE
          go_enter Try.func17, Try.ntmps17
          go_wp2
          go_ret
          exact ⟨by rw [HE.out]; rfl, rfl⟩
end
end Go.Proofs.Ytiloclekhddkfaa
