/- How many bytes both have alike: alike. -/
import Derived.Test.YtoneepoaodoijaaQ5
import Derived.Test.YtoneepoaodoijaaP0
namespace Go.Proofs.Ytoneepoaodoijaa
open Go.RowKit Go.Lib Go.Shelf Oct

theorem below_drewN {B : Nat} {w w' : World} (h : Below B w w') (n : Nat) : Below B w (w'.drewN n) := ⟨h.os, h.tape, h.output, h.size, h.block⟩
def Stay (A B : World) : Prop := A = B
/-- What alike answers. -/
def AlV (A B : List Int) (m : Nat) (e : Ending) : Prop := ∃ n : Nat, e = .returned (.int .i64 (n : Int)) ∧ n ≤ m ∧ (∀ t, t < n → A.getD t 0 = B.getD t 0) ∧ (n < m → A.getD n 0 ≠ B.getD n 0)
section
variable {w : World}
set_option maxHeartbeats 4000000 in
set_option maxRecDepth 100000 in
theorem alike37 (va vb : Value) (A B : List Int) (m : Nat) (ha : RdY w va A) (hb : RdY w vb B) (hA : m ≤ A.length) (hB : m ≤ B.length) (hm : m ≤ 1000000) :
    Calls Try.prog 37 #[va, vb, .int .i64 m] w fun e w' => AlV A B m e ∧ Below w.heap.size w w' := by
  obtain ⟨aa, ac, rfl, ha1, _⟩ := ha.shape
  obtain ⟨ba, bc, rfl, hb1, _⟩ := hb.shape
  have HA := Hid.mk ha
  have HBb := Hid.mk hb
  obtain ⟨an, Han⟩ : ∃ n, Hid (A.length = n) := ⟨_, ⟨rfl⟩⟩
  obtain ⟨bn, Hbn⟩ : ∃ n, Hid (B.length = n) := ⟨_, ⟨rfl⟩⟩
  rw [Han.out] at HA hA ha1 ⊢
  rw [Hbn.out] at HBb hB hb1 ⊢
  clear ha hb
  go_enter Try.func37, Try.ntmps37
  go_upto_region 2 with fail
  go_loopg [9] m (fun gg s9 wr => ∃ i : Nat, i ≤ m ∧ m - i ≤ gg ∧ s9 = .int .i64 (i : Int) ∧ Hid (∀ t, t < i → A.getD t 0 = B.getD t 0) ∧ Hid (Below w.heap.size w wr))
  case atStart => exact ⟨0, Nat.zero_le _, by omega, rfl, ⟨fun t ht => by omega⟩, ⟨Below.refl _ _⟩⟩
  case round =>
    obtain ⟨i, him, hgg, rfl, HE, HB⟩ := hrel
    rename World => wo
    by_cases hlt : i < m
    · have hltz : (i : Int) < (m : Int) := by omega
      obtain ⟨g1, o1, p1, e1, _, c1⟩ := RdY.at (Rd.far HA.out (Chg.ofBelow (X := []) HB.out) (by simp)) (i := i) (by rw [Han.out]; omega)
      obtain ⟨g2, o2, p2, e2, _, c2⟩ := RdY.at (Rd.far HBb.out (Chg.ofBelow (X := []) HB.out) (by simp)) (i := i) (by rw [Hbn.out]; omega)
      rw [Han.out] at e1 c1
      rw [Hbn.out] at e2 c2
      simp only [Value.slice.injEq] at e1 e2
      obtain ⟨rfl, -, rfl⟩ := e1
      obtain ⟨rfl, -, rfl⟩ := e2
      have d1 := c1 i (by omega)
      have d2 := c2 i (by omega)
      have hi1 : (i : Int) < (an : Int) := by omega
      have hi2 : (i : Int) < (bn : Int) := by omega
      clear c1 c2
      by_cases he : A.getD i 0 = B.getD i 0
      · have HE2 : Hid (∀ t, t < i + 1 → A.getD t 0 = B.getD t 0) := ⟨fun t ht => by
          by_cases e : t = i
          · subst e; exact he
          · exact HE.out t (by omega)⟩
        rw [he] at d1
        generalize B.getD i 0 = y at d1 d2
        clear he
        go_upto_region 4 with fail
        go_quiet (fail)
        go_wp2_with fail
        go_roundg (m - (i + 1))
        case measure => omega
        case rel => exact ⟨i + 1, by omega, by omega, by go_num, HE2, ⟨below_drewN HB.out nq⟩⟩
      · have HNE := Hid.mk he
        have hne : (A.getD i 0 != B.getD i 0) = true := by simpa using he
        generalize A.getD i 0 = x at d1 hne he
        generalize B.getD i 0 = y at d2 hne he
        go_upto_region 4 with fail
        go_quiet (fail)
        go_wp2_with fail
        go_ret
        exact ⟨⟨i, rfl, by omega, HE.out, fun _ => HNE.out⟩, below_drewN HB.out nq⟩
    · obtain rfl : m = i := by omega
      go_wp2_with fail
      go_ret
      exact ⟨⟨m, rfl, Nat.le_refl _, HE.out, fun h => by omega⟩, HB.out⟩
end
end Go.Proofs.Ytoneepoaodoijaa
