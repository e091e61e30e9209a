/- Champions' predicate, and slices.IndexFunc over rows of ints with it. -/
import Derived.Test.YtiloclekhddkfaaS3
namespace Go.Proofs.Ytiloclekhddkfaa
open Go.RowKit Go.Lib Go.Shelf Go.Maps

section
variable {w : World}
theorem has_any (u : Value) (l : List Int) (q : Nat) (x : Int) (hq : w.cell? ⟨q, 0, none⟩ = some (.int .i64 x)) (hu : RdI w u l) (hl : l.length ≤ 1000000000000) : Calls Try.prog 31 #[u, .pointer (some ⟨q, 0, none⟩)] w fun e w' => e = .returned (.bool (decide (x ∈ l))) ∧ w = w' := by
  have t := containsi_any u l x hu hl
  obtain ⟨ao, cap, rfl, _⟩ := hu.shape
  generalize decide (x ∈ l) = d at t ⊢
  clear hu
  go_enter Try.func31, Try.ntmps31
  go_wp2_with fail
  refine t.mono ?_
  rintro e w' ⟨rfl, rfl⟩
  go_wp2
  go_ret
  exact ⟨rfl, rfl⟩
theorem enters31 : ∀ args w, (callFunc 31 args).run Try.prog w = .ok (.enter 31 args) w := enters_of Try.func31 (by kernel_rfl) rfl
set_option maxHeartbeats 2000000 in
theorem indexf_any (v : Value) (M : List (List Int)) (q : Nat) (x : Int) (h : ArgL w v M) (hq : w.cell? ⟨q, 0, none⟩ = some (.int .i64 x)) (hL : M.length ≤ 1000000) (hLl : ∀ i, i < M.length → (M.getD i []).length ≤ 1000000) :
    Calls Try.prog 50 #[v, .func (.func 31) #[] #[.pointer (some ⟨q, 0, none⟩)]] w fun e w' => ∃ r : Int, e = .returned (.int .i64 r) ∧ ((r = -1 ∧ ∀ i, i < M.length → x ∉ M.getD i []) ∨ ∃ k : Nat, r = (k : Int) ∧ k < M.length ∧ x ∈ M.getD k [] ∧ ∀ j, j < k → x ∉ M.getD j []) ∧ w = w' := by
  have HA := Hid.mk h
  have HLl := Hid.mk hLl
  have Hq := Hid.mk hq
  have eg := enters31
  obtain ⟨n, Hn⟩ : ∃ n, Hid (M.length = n) := ⟨_, ⟨rfl⟩⟩
  obtain ⟨av, cv, rfl, hcv⟩ := h.shape
  rw [Hn.out] at hL hcv ⊢
  clear h hLl hq
  go_enter Try.func50, Try.ntmps50
  go_wp2_with fail
  go_loopg [5, 8] n (fun gg _ s8 wr => ∃ kk : Nat, kk ≤ n ∧ n - kk ≤ gg ∧ s8 = .int .i64 (kk : Int) ∧ Hid (∀ j, j < kk → x ∉ M.getD j []) ∧ w = wr)
  case atStart => exact ⟨0, Nat.zero_le _, by omega, rfl, ⟨fun j hj => absurd hj (Nat.not_lt_zero _)⟩, rfl⟩
  case round =>
    obtain ⟨kk, hkk, hgg, rfl, HX, rfl⟩ := hrel
    by_cases hlt : kk < n
    · have hltz : (kk : Int) < (n : Int) := by omega
      have hlL : kk < M.length := by rw [Hn.out]; exact hlt
      obtain ⟨b1, o1, c1, x1, m1, z1, e1, d1, y1⟩ := HA.out.at' kk hlL
      rw [Hn.out] at e1
      simp at e1
      obtain ⟨rfl, rfl⟩ := e1
      have t := has_any _ _ q x Hq.out y1 (by have := HLl.out kk hlL; omega)
      clear y1
      by_cases hm : x ∈ M.getD kk []
      · have Hm := Hid.mk hm
        rw [decide_eq_true hm] at t
        clear hm
        go_wp2_with fail
        refine t.mono ?_
        rintro e w' ⟨rfl, rfl⟩
        go_wp2
        go_ret
        exact ⟨(kk : Int), rfl, .inr ⟨kk, rfl, hlt, Hm.out, HX.out⟩, rfl⟩
      · have Hm := Hid.mk hm
        rw [decide_eq_false hm] at t
        clear hm
        go_wp2_with fail
        refine t.mono ?_
        rintro e w' ⟨rfl, rfl⟩
        go_wp2
        go_roundg (n - (kk + 1))
        case measure => omega
        case rel => exact ⟨kk + 1, by omega, by omega, by go_num, ⟨fun j hj => by
          by_cases e : j = kk
          · subst e; exact Hm.out
          · exact HX.out j (by omega)⟩, rfl⟩
    · obtain rfl : n = kk := by omega
      go_wp2
      go_ret
      exact ⟨-1, rfl, .inl ⟨rfl, HX.out⟩, rfl⟩
end
end Go.Proofs.Ytiloclekhddkfaa
