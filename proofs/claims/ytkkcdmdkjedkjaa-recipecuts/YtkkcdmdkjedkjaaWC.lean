/- RecipeCuts: the law's walk. -/
import Derived.Test.YtkkcdmdkjedkjaaR11
import Derived.Test.YtkkcdmdkjedkjaaWN
namespace Go.Proofs.Ytkkcdmdkjedkjaa
open Go.RowKit Go.Lib

section
variable {w : World}
set_option maxHeartbeats 4000000 in
set_option maxRecDepth 100000 in
theorem cut_bad {p : Nat} {L : List Rf} (fr n : Int) (h : Rec w p L) (hR : Rt L) (hb : fr < 0 ∨ n < 0 ∨ ((lens L).sum : Int) < fr) : Calls Try.prog 20 #[.pointer (some ⟨p, 0, none⟩), .int .i64 fr, .int .i64 n] w fun e w' => e = .returned (.tuple #[.slice none 0 0, .int .i64 2]) ∧ Below w.heap.size w w' := by
  have t := size_q h hR.few
  have hB : ∀ d, Below w.heap.size w (w.drewN d) := fun d => below_drewN (Below.refl _ _) d
  generalize (lens L).sum = Z at t hb
  clear h
  by_cases h0 : fr < 0
  · go_enter Try.func20, Try.ntmps20
    go_wp2_with fail
    go_ret2
    exact ⟨rfl, Below.refl _ _⟩
  by_cases h2 : (Z : Int) < fr
  · go_enter Try.func20, Try.ntmps20
    go_wp2_with (go_at_call 13; refine t.mono ?_; rintro e w2 ⟨rfl, d, e2⟩; subst e2)
    go_ret2
    exact ⟨rfl, hB _⟩
  have h1 : n < 0 := by omega
  go_enter Try.func20, Try.ntmps20
  go_wp2_with (go_at_call 13; refine t.mono ?_; rintro e w2 ⟨rfl, d, e2⟩; subst e2)
  go_ret2
  exact ⟨rfl, hB _⟩
set_option maxHeartbeats 4000000 in
set_option maxRecDepth 100000 in
theorem sameP_yes (v u : Value) (L : List Rp.Pc) (h1 : RdE pv 3 ⟨0, 0, 0⟩ w v L) (h2 : RdE pv 3 ⟨0, 0, 0⟩ w u L) (hL : L.length ≤ 256) : Calls Try.prog 22 #[v, u] w fun e w' => e = .returned (.bool true) ∧ Below w.heap.size w w' := by
  have H1 := Hid.mk h1
  have H2 := Hid.mk h2
  obtain ⟨n, Hn⟩ : ∃ n, Hid (L.length = n) := ⟨_, ⟨rfl⟩⟩
  obtain ⟨a1, c1, rfl, _⟩ := h1.shape
  obtain ⟨a2, c2, rfl, _⟩ := h2.shape
  rw [Hn.out] at H1 H2 hL ⊢
  have hq := ne49
  have hg := guard49
  clear h1 h2
  go_enter Try.func22, Try.ntmps22
  go_wp2_with fail
  go_loopg [5] n (fun gg s5 wr => ∃ k : Nat, k ≤ n ∧ n - k ≤ gg ∧ s5 = .int .i64 (k : Int) ∧ Hid (Below w.heap.size w wr))
  case atStart => exact ⟨0, Nat.zero_le _, by omega, rfl, ⟨Below.refl _ _⟩⟩
  case round =>
    obtain ⟨k, hk, hgg, rfl, HG⟩ := hrel
    by_cases hlt : k < n
    · have hltz : (k : Int) < (n : Int) := by omega
      have hkL : k < L.length := by rw [Hn.out]; exact hlt
      obtain ⟨b1, o1, d1, e1, hc1⟩ := (H1.out.far (Chg.ofBelow (X := []) HG.out) (by simp)).at' k hkL
      obtain ⟨b2, o2, d2, e2, hc2⟩ := (H2.out.far (Chg.ofBelow (X := []) HG.out) (by simp)).at' k hkL
      rw [Hn.out] at e1 e2
      simp at e1 e2
      obtain ⟨rfl, rfl⟩ := e1
      obtain ⟨rfl, rfl⟩ := e2
      generalize L.getD k ⟨0, 0, 0⟩ = x at hc1 hc2
      have m0 := hc1 0 (by decide)
      have m1 := hc1 1 (by decide)
      have m2 := hc1 2 (by decide)
      have q0 := hc2 0 (by decide)
      have q1 := hc2 1 (by decide)
      have q2 := hc2 2 (by decide)
      simp [pv] at m0 m1 m2 q0 q1 q2
      clear hc1 hc2
      go_upto_region 6 with fail
      go_quiet (fail)
      go_wp2_with fail
      go_roundg (n - (k + 1))
      case measure => omega
      case rel => exact ⟨k + 1, by omega, by omega, by go_num, ⟨below_drewN HG.out _⟩⟩
    · obtain rfl : k = n := by omega
      go_wp2_with fail
      go_ret
      exact ⟨rfl, HG.out⟩
end
end Go.Proofs.Ytkkcdmdkjedkjaa
