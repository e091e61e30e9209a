/- The document's Hook. -/
import Derived.Test.YtiloclekhddkfaaOctF
namespace Go.Proofs.Ytiloclekhddkfaa
open Go.RowKit Go.Lib

/-- The cells of a sum. -/
def sa (s : List Int) : Array Value := (s.map (Value.int .u8)).toArray
/-- A sum: 32 bytes. -/
structure Sm (s : List Int) : Prop where
  len : s.length = 32
  byte : ∀ x ∈ s, 0 ≤ x ∧ x < 256
theorem Sm.at {s : List Int} (h : Sm s) (j : Nat) (hj : j < 32) : 0 ≤ s.getD j 0 ∧ s.getD j 0 < 256 := h.byte _ (getD_mem (by rw [h.len]; exact hj))
theorem sa_get {s : List Int} (h : Sm s) (j : Nat) (hj : j < 32) : (sa s)[j]? = some (.int .u8 (s.getD j 0)) := by
  have hl : j < s.length := by rw [h.len]; exact hj
  unfold sa
  simp [List.getD, List.getElem?_eq_getElem hl]
theorem sa_cell {s : List Int} (h : Sm s) (w : World) (j : Nat) (hj : j < 32) : (w.alloc (.cells (sa s) 25)).cell? ⟨w.heap.size, j, none⟩ = some (.int .u8 (s.getD j 0)) := by
  rw [cell_of_row _ _ _ _ _ _ (heap_alloc_new w _)]
  exact sa_get h j hj
theorem run_box25 (w : World) (cs : Array Value) : (Instr.box 25 (.agg cs)).run Try.prog w = .ok (.pointer (some ⟨w.heap.size, 0, none⟩)) (w.alloc (.cells cs 25)) := by
  simp [Instr.box, newVar, newRow, Value.cells]
/-- The first four bytes as a number. -/
def num4 (s : List Int) : Int := ((s.getD 0 0 * 256 + s.getD 1 0) * 256 + s.getD 2 0) * 256 + s.getD 3 0
def hk (s : List Int) (rate : Int) : Bool := decide (1 ≤ rate ∧ rate ≤ 256) && (num4 s % rate == 0)
theorem hk_no {s : List Int} {rate : Int} (h : rate < 1 ∨ 256 < rate) : hk s rate = false := by
  unfold hk
  rw [decide_eq_false (by omega)]
  rfl
section
variable {w : World}
set_option maxHeartbeats 2000000 in
set_option maxRecDepth 100000 in
theorem rhook_any (s : List Int) (hs : Sm s) (rate : Int) : Calls Try.prog 12 #[.agg (sa s), .int .i64 rate] w fun e w' => e = .returned (.bool (hk s rate)) ∧ Below w.heap.size w w' := by
  have hbox := run_box25
  have d0 := sa_cell hs w 0 (by decide)
  have d1 := sa_cell hs w 1 (by decide)
  have d2 := sa_cell hs w 2 (by decide)
  have d3 := sa_cell hs w 3 (by decide)
  have q0 := hs.at 0 (by decide)
  have q1 := hs.at 1 (by decide)
  have q2 := hs.at 2 (by decide)
  have q3 := hs.at 3 (by decide)
  have HB : Hid (Below w.heap.size w (w.alloc (.cells (sa s) 25))) := ⟨(Below.refl _ w).alloc (Nat.le_refl _) _⟩
  by_cases hr : rate < 1 ∨ 256 < rate
  · have HK := Hid.mk (hk_no (s := s) hr)
    by_cases hr1 : rate < 1
    · go_enter Try.func12, Try.ntmps12
      go_wp2
      go_ret
      exact ⟨by rw [HK.out]; rfl, HB.out⟩
    · have hr2 : 256 < rate := by omega
      go_enter Try.func12, Try.ntmps12
      go_wp2
      go_ret
      exact ⟨by rw [HK.out]; rfl, HB.out⟩
  · have hr1 : ¬ rate < 1 := by omega
    have hr2 : ¬ 256 < rate := by omega
    have HK : Hid (hk s rate = (num4 s % rate == 0)) := ⟨by unfold hk; rw [decide_eq_true (by omega)]; rfl⟩
    have HN : Hid (num4 s = ((s.getD 0 0 * 256 + s.getD 1 0) * 256 + s.getD 2 0) * 256 + s.getD 3 0) := ⟨rfl⟩
    generalize num4 s = N at HK HN
    generalize s.getD 0 0 = b0 at d0 q0 HN
    generalize s.getD 1 0 = b1 at d1 q1 HN
    generalize s.getD 2 0 = b2 at d2 q2 HN
    generalize s.getD 3 0 = b3 at d3 q3 HN
    have v0 : IntKind.i64.wrap b0 = b0 := IntWalk.i64_in _ ⟨by omega, by omega⟩
    have v1 : IntKind.i64.wrap b1 = b1 := IntWalk.i64_in _ ⟨by omega, by omega⟩
    have v2 : IntKind.i64.wrap b2 = b2 := IntWalk.i64_in _ ⟨by omega, by omega⟩
    have v3 : IntKind.i64.wrap b3 = b3 := IntWalk.i64_in _ ⟨by omega, by omega⟩
    have hz : ¬ rate = 0 := by omega
    go_enter Try.func12, Try.ntmps12
    go_wp2
    go_ret
    exact ⟨by rw [HK.out, HN.out]; rfl, HB.out⟩
theorem tk4 (s : List Int) (hs : Sm s) : Oct.tkFix s 0 4 = (num4 s, 4, 0) := by
  have q0 := hs.at 0 (by decide)
  have q1 := hs.at 1 (by decide)
  have q2 := hs.at 2 (by decide)
  have q3 := hs.at 3 (by decide)
  obtain ⟨hl, _⟩ := hs
  match s, hl with
  | a :: b :: c :: d :: r, hl =>
    replace q0 : 0 ≤ a ∧ a < 256 := q0
    replace q1 : 0 ≤ b ∧ b < 256 := q1
    replace q2 : 0 ≤ c ∧ c < 256 := q2
    replace q3 : 0 ≤ d ∧ d < 256 := q3
    have e : ((a :: b :: c :: d :: r).drop (0 : Int).toNat).take (4 : Int).toNat = [a, b, c, d] := rfl
    have eV : Oct.valB 0 [a, b, c, d] = ((a.toNat * 256 + b.toNat) * 256 + c.toNat) * 256 + d.toNat := by simp [Oct.valB]
    have eN : num4 (a :: b :: c :: d :: r) = ((a * 256 + b) * 256 + c) * 256 + d := rfl
    unfold Oct.tkFix
    rw [e, eV, eN, hl, if_neg (by omega), if_neg (by omega), if_neg (by omega)]
    have : ((((a.toNat * 256 + b.toNat) * 256 + c.toNat) * 256 + d.toNat : Nat) : Int) = ((a * 256 + b) * 256 + c) * 256 + d := by omega
    rw [this]
    rfl
set_option maxHeartbeats 2000000 in
set_option maxRecDepth 100000 in
theorem hook_any (s : List Int) (hs : Sm s) (rate : Int) : Calls Try.prog 11 #[.agg (sa s), .int .i64 rate] w fun e w' => e = .returned (.bool (hk s rate)) ∧ Below w.heap.size w w' := by
  have hbox := run_box25
  have HB : Hid (Below w.heap.size w (w.alloc (.cells (sa s) 25))) := ⟨(Below.refl _ w).alloc (Nat.le_refl _) _⟩
  by_cases hr : rate < 1 ∨ 256 < rate
  · have HK := Hid.mk (hk_no (s := s) hr)
    by_cases hr1 : rate < 1
    · go_enter Try.func11, Try.ntmps11
      go_wp2
      go_ret
      exact ⟨by rw [HK.out]; rfl, HB.out⟩
    · have hr2 : 256 < rate := by omega
      go_enter Try.func11, Try.ntmps11
      go_wp2
      go_ret
      exact ⟨by rw [HK.out]; rfl, HB.out⟩
  · have hr1 : ¬ rate < 1 := by omega
    have hr2 : ¬ 256 < rate := by omega
    have HK : Hid (hk s rate = (num4 s % rate == 0)) := ⟨by unfold hk; rw [decide_eq_true (by omega)]; rfl⟩
    have hz : ¬ rate = 0 := by omega
    have hN : 0 ≤ num4 s ∧ num4 s ≤ 4294967295 := by
      have q0 := hs.at 0 (by decide)
      have q1 := hs.at 1 (by decide)
      have q2 := hs.at 2 (by decide)
      have q3 := hs.at 3 (by decide)
      unfold num4
      omega
    have t := Oct.takeFixed_any (.slice (some ⟨w.heap.size, 0, none⟩) 32 32) s 0 4 (w.alloc (.cells (sa s) 25)) ⟨some ⟨w.heap.size, 0, none⟩, 32, by rw [hs.len], by rw [hs.len]; exact Nat.le_refl _, by decide, fun h => (by cases h), fun x hx i hi => by cases hx; rw [Oct.add_plain, Nat.zero_add]; exact sa_cell hs w i (by rw [hs.len] at hi; exact hi)⟩ hs.byte
    rw [tk4 s hs] at t
    generalize num4 s = N at HK hN t
    go_enter Try.func11, Try.ntmps11
    go_wp2_with (go_at_call 27; refine t.mono ?_; rintro e w' ⟨rfl, rfl⟩)
    go_ret
    exact ⟨by rw [HK.out]; rfl, HB.out⟩
end
end Go.Proofs.Ytiloclekhddkfaa
