/- Trees: their cells, and how they are compared. -/
import Derived.Test.YtfecngncapenjaaC4
import Derived.Test.YtfecngncapenjaaMultiB
import Derived.Test.YtfecngncapenjaaMultiC
import Derived.Lib.MinMax
namespace Go.Proofs.Ytfecngncapenjaa
open Go.RowKit Go.Lib

def cmpI (x y : Int) : Int := if x < y then -1 else if y < x then 1 else 0
section
variable {w : World}
set_option maxRecDepth 100000 in
theorem isnan_q (x : Int) : Calls Try.prog 78 #[.int .i64 x] w fun e w' => e = .returned (.bool false) ∧ w' = w := by
  go_enter Try.func78, Try.ntmps78
  go_wp2_with fail
  go_ret
  exact ⟨rfl, rfl⟩
set_option maxRecDepth 100000 in
theorem cmp_q (x y : Int) : Calls Try.prog 76 #[.int .i64 x, .int .i64 y] w fun e w' => e = .returned (.int .i64 (cmpI x y)) ∧ w' = w := by
  have t := fun (w : World) (x : Int) => isnan_q (w := w) x
  unfold cmpI
  by_cases h1 : x < y
  · rw [if_pos h1]
    go_enter Try.func76, Try.ntmps76
    go_wp2_with (go_at_call 78; refine (t _ _).mono ?_; rintro e w1 ⟨rfl, rfl⟩)
    go_ret
    exact ⟨rfl, rfl⟩
  · rw [if_neg h1]
    by_cases h2 : y < x
    · rw [if_pos h2]
      go_enter Try.func76, Try.ntmps76
      go_wp2_with (go_at_call 78; refine (t _ _).mono ?_; rintro e w1 ⟨rfl, rfl⟩)
      go_ret
      exact ⟨rfl, rfl⟩
    · rw [if_neg h2]
      go_enter Try.func76, Try.ntmps76
      go_wp2_with (go_at_call 78; refine (t _ _).mono ?_; rintro e w1 ⟨rfl, rfl⟩)
      go_ret
      exact ⟨rfl, rfl⟩
set_option maxRecDepth 100000 in
theorem isnan_q8 (x : Int) : Calls Try.prog 79 #[.int .u8 x] w fun e w' => e = .returned (.bool false) ∧ w' = w := by
  go_enter Try.func79, Try.ntmps79
  go_wp2_with fail
  go_ret
  exact ⟨rfl, rfl⟩
set_option maxRecDepth 100000 in
theorem cmp_q8 (x y : Int) : Calls Try.prog 77 #[.int .u8 x, .int .u8 y] w fun e w' => e = .returned (.int .i64 (cmpI x y)) ∧ w' = w := by
  have t := fun (w : World) (x : Int) => isnan_q8 (w := w) x
  unfold cmpI
  by_cases h1 : x < y
  · rw [if_pos h1]
    go_enter Try.func77, Try.ntmps77
    go_wp2_with (go_at_call 79; refine (t _ _).mono ?_; rintro e w1 ⟨rfl, rfl⟩)
    go_ret
    exact ⟨rfl, rfl⟩
  · rw [if_neg h1]
    by_cases h2 : y < x
    · rw [if_pos h2]
      go_enter Try.func77, Try.ntmps77
      go_wp2_with (go_at_call 79; refine (t _ _).mono ?_; rintro e w1 ⟨rfl, rfl⟩)
      go_ret
      exact ⟨rfl, rfl⟩
    · rw [if_neg h2]
      go_enter Try.func77, Try.ntmps77
      go_wp2_with (go_at_call 79; refine (t _ _).mono ?_; rintro e w1 ⟨rfl, rfl⟩)
      go_ret
      exact ⟨rfl, rfl⟩
set_option maxHeartbeats 4000000 in
set_option maxRecDepth 100000 in
theorem or_q (b : Nat) (x y : Int) (h0 : w.cell? ⟨b, 0, none⟩ = some (.int .i64 x)) (h1 : w.cell? ⟨b, 1, none⟩ = some (.int .i64 y)) : Calls Try.prog 75 #[.slice (some ⟨b, 0, none⟩) 2 2] w fun e w' => e = .returned (.int .i64 (if x = 0 then y else x)) ∧ w' = w := by
  have H0 := Hid.mk h0
  have H1 := Hid.mk h1
  obtain ⟨z, Hz⟩ : ∃ z, Hid (z = if x = 0 then y else x) := ⟨_, ⟨rfl⟩⟩
  rw [← Hz.out]
  clear h0 h1
  go_enter Try.func75, Try.ntmps75
  go_wp2_with fail
  go_loopg [5, 8] 2 (fun gg _ s8 wr => ∃ k : Nat, k ≤ 2 ∧ 2 - k ≤ gg ∧ s8 = .int .i64 (k : Int) ∧ Hid (wr = w) ∧ Hid (1 ≤ k → x = 0) ∧ Hid (k = 2 → y = 0))
  case atStart => exact ⟨0, by omega, by omega, rfl, ⟨rfl⟩, ⟨fun h => by omega⟩, ⟨fun h => by omega⟩⟩
  case round =>
    obtain ⟨k, hk, hgg, rfl, HW, HX, HY⟩ := hrel
    have e := HW.out
    subst e
    have hc : k = 0 ∨ k = 1 ∨ k = 2 := by omega
    rcases hc with rfl | rfl | rfl
    · have c0 := H0.out
      by_cases hx : x = 0
      · subst hx
        go_wp2_with fail
        go_roundg 1
        case measure => omega
        case rel => exact ⟨1, by omega, by omega, rfl, ⟨rfl⟩, ⟨by simp⟩, ⟨by simp⟩⟩
      · go_wp2_with fail
        go_ret
        have e := Hz.out
        rw [if_neg hx] at e
        subst e
        exact ⟨rfl, rfl⟩
    · have c1 := H1.out
      have hx := HX.out (Nat.le_refl _)
      subst hx
      by_cases hy : y = 0
      · subst hy
        go_wp2_with fail
        go_roundg 0
        case measure => omega
        case rel => exact ⟨2, by omega, by omega, rfl, ⟨rfl⟩, ⟨by simp⟩, ⟨by simp⟩⟩
      · go_wp2_with fail
        go_ret
        have e := Hz.out
        simp only [if_true] at e
        subst e
        exact ⟨rfl, rfl⟩
    · have hx := HX.out (by omega)
      have hy := HY.out rfl
      subst hx hy
      go_wp2_with fail
      go_ret
      have e := Hz.out
      simp only [if_true] at e
      subst e
      exact ⟨rfl, rfl⟩
/-- What grew behind: draws, blocks. -/
structure Gw (w w' : World) : Prop where
  below : Below w.heap.size w w'
  drawn : w.drawn ≤ w'.drawn
theorem Gw.refl (w : World) : Gw w w := ⟨Below.refl _ _, Nat.le_refl _⟩
theorem Gw.trans {a b c : World} (h : Gw a b) (k : Gw b c) : Gw a c := ⟨h.below.trans (k.below.mono h.below.size), Nat.le_trans h.drawn k.drawn⟩
theorem Gw.alloc (w : World) (o : Obj) : Gw w (w.alloc o) := ⟨(Below.refl _ w).alloc (Nat.le_refl _) _, Nat.le_refl _⟩
theorem Gw.drew (w : World) : Gw w w.drew := ⟨⟨rfl, rfl, rfl, Nat.le_refl _, fun _ _ => rfl⟩, Nat.le_succ _⟩
end
/-- A slice's parts, and what it reads. -/
abbrev SlP := Option Addr × Nat × Nat × List Int
def sv (p : SlP) : Value := .slice p.1 p.2.1 p.2.2.1
/-- A tree: its count, its least byte, its bytes' slice. -/
abbrev Sh := Int × Int × SlP
def sh3 (s : Sh) : List Value := [.int .i64 s.1, .int .u8 s.2.1, sv s.2.2]
def s0 : Sh := (0, 0, (none, 0, 0, []))
theorem sh3_one (s : Sh) : (sh3 s).length = 3 ∧ ∀ u ∈ sh3 s, u.oneCell' = true := ⟨rfl, fun u hu => by simp [sh3] at hu; rcases hu with rfl | rfl | rfl <;> rfl⟩
/-- Is a tree less than another one? -/
def shl (x y : Sh) : Bool := decide (x.1 < y.1 ∨ x.1 = y.1 ∧ x.2.1 < y.2.1)
theorem cmp_shl (x1 x2 y1 y2 : Int) : decide ((if cmpI x1 y1 = 0 then cmpI x2 y2 else cmpI x1 y1) < 0) = decide (x1 < y1 ∨ x1 = y1 ∧ x2 < y2) := by
  unfold cmpI
  refine decide_eq_decide.2 ?_
  rcases Int.lt_trichotomy x1 y1 with h | h | h
  · simp [h]
  · subst h
    rcases Int.lt_trichotomy x2 y2 with k | k | k
    · simp [k]
    · subst k; simp
    · simp [k, show ¬ x2 < y2 by omega]
  · simp [show ¬ x1 < y1 by omega, show ¬ x1 = y1 by omega, h]
end Go.Proofs.Ytfecngncapenjaa
