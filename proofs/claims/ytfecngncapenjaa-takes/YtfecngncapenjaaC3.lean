/- The head of what was said: takeRow, takeSize. -/
import Derived.Test.YtfecngncapenjaaC2
import Derived.Test.YtfecngncapenjaaBytes
import Derived.BigQuiet
import Derived.Deep.QuietTactic
namespace Go.Proofs.Ytfecngncapenjaa
open Go.RowKit Oct

/-- Bytes. -/
def By (l : List Int) : Prop := ∀ x ∈ l, 0 ≤ x ∧ x < 256
theorem By.get {l : List Int} (h : By l) (i : Nat) : 0 ≤ l.getD i 0 ∧ l.getD i 0 < 256 := by
  by_cases hi : i < l.length
  · rw [show l.getD i 0 = l[i] by simp [List.getD, List.getElem?_eq_getElem hi]]
    exact h _ (List.getElem_mem hi)
  · simp [List.getD, List.getElem?_eq_none (Nat.le_of_not_lt hi)]
theorem below_drewN {B : Nat} {w w' : World} (h : Below B w w') (n : Nat) : Below B w (w'.drewN n) := ⟨h.os, h.tape, h.output, h.size, h.block⟩
theorem rdy_bs {w : World} {v : Value} {l : List Int} (h : RdY w v l) : Bs w v l := by
  obtain ⟨a, cap, e, h1, h2, h3, h4⟩ := h
  rw [yv_len] at e h1 h4
  exact ⟨a, cap, e, h1, h2, h3, fun x hx i hi => (h4 x hx i hi).trans (yv_get l hi)⟩
/-- A row of the table. -/
def tkRow (b : List Int) (last : Int) : Int × Int × Int :=
  if b.length < 2 then (0, 0, 3) else if b.getD 0 0 ≤ last then (0, 0, 4) else if b.getD 1 0 = 0 then (0, 0, 2) else (b.getD 0 0, b.getD 1 0, 0)
/-- How many bytes are said. -/
def tkSize (b : List Int) (most : Int) : Int × Int × Int :=
  if (tkNum b 0).2.2 = 0 then (if most < (tkNum b 0).1 ∨ 8192 < (tkNum b 0).1 then (0, 0, 6) else ((tkNum b 0).1, (tkNum b 0).2.1, 0)) else (0, 0, (tkNum b 0).2.2)
section
variable {w : World}
set_option maxHeartbeats 2000000 in
theorem row53 (v : Value) (b : List Int) (last : Int) (hv : RdY w v b) (hb : By b) : Calls Try.prog 53 #[v, .int .i64 last] w fun e w' => e = .returned (.tuple #[.int .i64 (tkRow b last).1, .int .i64 (tkRow b last).2.1, .int .i64 (tkRow b last).2.2]) ∧ Below w.heap.size w w' := by
  obtain ⟨T, HT⟩ : ∃ T, Hid (tkRow b last = T) := ⟨_, ⟨rfl⟩⟩
  rw [HT.out]
  by_cases h2 : b.length < 2
  · obtain ⟨a, cap, rfl, _⟩ := hv.shape
    have hT : T = (0, 0, 3) := by rw [← HT.out, tkRow, if_pos h2]
    have hz : (b.length : Int) < 2 := by omega
    go_enter Try.func53, Try.ntmps53
    go_wp2_with fail
    go_ret3
    first | rw [hT] | skip
    exact ⟨rfl, Below.refl _ _⟩
  · obtain ⟨g, off, cap, rfl, hcap, hat⟩ := hv.at (i := 0) (by omega)
    have c0 := hat 0 (by omega)
    rw [Nat.add_zero] at c0
    have c1 := hat 1 (by omega)
    have g0 := hb.get 0
    have g1 := hb.get 1
    have hz : ¬ (b.length : Int) < 2 := by omega
    have hl0 : (0 : Int) < (b.length : Int) := by omega
    have hl1 : (1 : Int) < (b.length : Int) := by omega
    clear hat
    have HTd : Hid (T = if b.getD 0 0 ≤ last then (0, 0, 4) else if b.getD 1 0 = 0 then (0, 0, 2) else (b.getD 0 0, b.getD 1 0, 0)) := ⟨by rw [← HT.out, tkRow, if_neg h2]⟩
    obtain ⟨n, Hn⟩ : ∃ n, Hid (b.length = n) := ⟨_, ⟨rfl⟩⟩
    rw [Hn.out] at h2 hcap hz hl0 hl1 ⊢
    have hn0 : 0 < n := by omega
    have hn1 : 1 < n := by omega
    clear h2 hv
    generalize b.getD 0 0 = x at c0 g0 HTd
    generalize b.getD 1 0 = y at c1 g1 HTd
    by_cases h3 : x ≤ last
    · have hT : T = (0, 0, 4) := by rw [HTd.out, if_pos h3]
      go_enter Try.func53, Try.ntmps53
      go_upto_region 3 with fail
      go_quiet (fail)
      go_wp2_with fail
      go_ret3
      first | rw [hT] | skip
      exact ⟨rfl, below_drewN (Below.refl _ _) _⟩
    · by_cases h4 : y = 0
      · have hT : T = (0, 0, 2) := by rw [HTd.out, if_neg h3, if_pos h4]
        subst h4
        go_enter Try.func53, Try.ntmps53
        go_upto_region 3 with fail
        go_quiet (fail)
        go_wp2_with fail
        go_ret3
        first | rw [hT] | skip
        exact ⟨rfl, below_drewN (Below.refl _ _) _⟩
      · have hT : T = (x, y, 0) := by rw [HTd.out, if_neg h3, if_neg h4]
        go_enter Try.func53, Try.ntmps53
        go_upto_region 3 with fail
        go_quiet (fail)
        go_wp2_with fail
        go_ret3
        first | rw [hT] | skip
        exact ⟨rfl, below_drewN (Below.refl _ _) _⟩
theorem size35 (v : Value) (b : List Int) (most : Int) (hv : RdY w v b) (hb : By b) : Calls Try.prog 35 #[v, .int .i64 most] w fun e w' => e = .returned (.tuple #[.int .i64 (tkSize b most).1, .int .i64 (tkSize b most).2.1, .int .i64 (tkSize b most).2.2]) ∧ Below w.heap.size w w' := by
  have t1 := takeNum_any v b 0 w (rdy_bs hv) hb
  obtain ⟨T, HT⟩ : ∃ T, Hid (tkSize b most = T) := ⟨_, ⟨rfl⟩⟩
  rw [HT.out]
  have HTd : Hid (T = if (tkNum b 0).2.2 = 0 then (if most < (tkNum b 0).1 ∨ 8192 < (tkNum b 0).1 then (0, 0, 6) else ((tkNum b 0).1, (tkNum b 0).2.1, 0)) else (0, 0, (tkNum b 0).2.2)) := ⟨HT.out.symm⟩
  generalize tkNum b 0 = K at t1 HTd
  obtain ⟨k1, k2, k3⟩ := K
  go_enter Try.func35, Try.ntmps35
  by_cases h0 : k3 = 0
  · by_cases h1 : most < k1
    · have hT : T = (0, 0, 6) := by rw [HTd.out]; simp [h0, h1]
      subst h0
      go_wp2_with fail
      refine t1.mono ?_
      rintro e w2 ⟨rfl, rfl⟩
      go_wp2_with fail
      go_ret3
      first | rw [hT] | skip
      exact ⟨rfl, Below.refl _ _⟩
    · by_cases h2 : 8192 < k1
      · have hT : T = (0, 0, 6) := by rw [HTd.out]; simp [h0, h2]
        subst h0
        go_wp2_with fail
        refine t1.mono ?_
        rintro e w2 ⟨rfl, rfl⟩
        go_wp2_with fail
        go_ret3
        first | rw [hT] | skip
        exact ⟨rfl, Below.refl _ _⟩
      · have hT : T = (k1, k2, 0) := by rw [HTd.out]; simp [h0, h1, h2]
        subst h0
        go_wp2_with fail
        refine t1.mono ?_
        rintro e w2 ⟨rfl, rfl⟩
        go_wp2_with fail
        go_ret3
        first | rw [hT] | skip
        exact ⟨rfl, Below.refl _ _⟩
  · have hT : T = (0, 0, k3) := by rw [HTd.out]; simp [h0]
    have h0' : (k3 != 0) = true := by simpa using h0
    go_wp2_with fail
    refine t1.mono ?_
    rintro e w2 ⟨rfl, rfl⟩
    go_wp2_with fail
    go_ret3
    first | rw [hT] | skip
    exact ⟨rfl, Below.refl _ _⟩
end
end Go.Proofs.Ytfecngncapenjaa
