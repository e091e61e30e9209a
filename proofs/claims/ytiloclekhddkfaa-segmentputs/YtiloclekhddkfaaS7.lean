/- The document's in and votes. -/
import Derived.Test.YtiloclekhddkfaaS6
namespace Go.Proofs.Ytiloclekhddkfaa
open Go.RowKit Go.Lib Go.Shelf Go.Maps

/-- In how many lists x stands. -/
def vt (x : Int) (M : List (List Int)) : Nat := (M.filter (fun l => decide (x ∈ l))).length
theorem vt_le (x : Int) (M : List (List Int)) : vt x M ≤ M.length := List.length_filter_le _ _
theorem vt_snoc (x : Int) (M : List (List Int)) (i : Nat) (hi : i < M.length) : vt x (M.take (i + 1)) = vt x (M.take i) + (if x ∈ M.getD i [] then 1 else 0) := by
  have e : M.getD i [] = M[i] := by simp only [List.getD, List.getElem?_eq_getElem hi, Option.getD_some]
  unfold vt
  rw [e, List.take_add_one, List.getElem?_eq_getElem hi, List.filter_append, List.length_append]
  by_cases h : x ∈ M[i]
  · rw [if_pos h]; simp only [Option.toList_some, List.filter, decide_eq_true h, List.length_cons, List.length_nil]
  · rw [if_neg h]; simp only [Option.toList_some, List.filter, decide_eq_false h, List.length_nil]
section
variable {w : World}
set_option maxHeartbeats 1000000 in
theorem in_any (pv : Value) (l : List Int) (x : Int) (hp : RdI w pv l) (hl : l.length ≤ 1000000000000) : Calls Try.prog 34 #[pv, .int .i64 x] w fun e w' => e = .returned (.bool (decide (x ∈ l))) ∧ w = w' := by
  have HP := Hid.mk hp
  obtain ⟨ao, cap, rfl, hlc, hcm, hn⟩ := hp.shape
  obtain ⟨n, Hn⟩ : ∃ n, Hid (l.length = n) := ⟨_, ⟨rfl⟩⟩
  rw [Hn.out] at hl hlc ⊢
  clear hp hn
  go_enter Try.func34, Try.ntmps34
  go_wp2_with fail
  go_loopg [5] n (fun gg s5 wr => ∃ kk : Nat, kk ≤ n ∧ n - kk ≤ gg ∧ s5 = .int .i64 (kk : Int) ∧ Hid (x ∉ l.take kk) ∧ w = wr)
  case atStart => exact ⟨0, Nat.zero_le _, by omega, rfl, ⟨by simp⟩, rfl⟩
  case round =>
    obtain ⟨kk, hkk, hgg, rfl, HX, rfl⟩ := hrel
    by_cases hlt : kk < n
    · have hltz : (kk : Int) < (n : Int) := by omega
      have hlL : kk < l.length := by rw [Hn.out]; exact hlt
      obtain ⟨b, off, c, e, _, hcell⟩ := HP.out.at hlL
      simp at e
      obtain ⟨rfl, rfl⟩ := e
      have hc := hcell kk hlL
      have HM : Hid (l.getD kk 0 ∈ l) := ⟨getD_mem hlL⟩
      have HS := fun h => Hid.mk (mem_take_snoc HX.out hlL h)
      generalize l.getD kk 0 = y at hc HM HS
      clear hcell
      by_cases hxy : y = x
      · subst hxy
        have HD : Hid (decide (y ∈ l) = true) := ⟨decide_eq_true HM.out⟩
        go_wp2
        go_ret
        exact ⟨by rw [HD.out]; rfl, rfl⟩
      · have HS2 := HS (fun e => hxy e.symm)
        clear HS
        go_wp2
        go_roundg (n - (kk + 1))
        case measure => omega
        case rel => exact ⟨kk + 1, by omega, by omega, by go_num, HS2, rfl⟩
    · obtain rfl : n = kk := by omega
      have HN : Hid (decide (x ∈ l) = false) := ⟨decide_eq_false (by have := HX.out; rwa [List.take_of_length_le (by rw [Hn.out]; exact Nat.le_refl _)] at this)⟩
      go_wp2
      go_ret
      exact ⟨by rw [HN.out]; rfl, rfl⟩
set_option maxHeartbeats 2000000 in
theorem votes_any (v : Value) (M : List (List Int)) (x : Int) (h : ArgL w v M) (hs : Small M) : Calls Try.prog 33 #[v, .int .i64 x] w fun e w' => e = .returned (.int .i64 (vt x M : Int)) ∧ w = w' := by
  have HA := Hid.mk h
  have Hs := Hid.mk hs
  have hL := hs.len
  obtain ⟨n, Hn⟩ : ∃ n, Hid (M.length = n) := ⟨_, ⟨rfl⟩⟩
  obtain ⟨av, cv, rfl, hcv⟩ := h.shape
  rw [Hn.out] at hL hcv ⊢
  clear h hs
  go_enter Try.func33, Try.ntmps33
  go_wp2_with fail
  go_loopg [5, 6] n (fun gg s5 s6 wr => ∃ kk c : Nat, kk ≤ n ∧ n - kk ≤ gg ∧ c ≤ kk ∧ s6 = .int .i64 (kk : Int) ∧ s5 = .int .i64 (c : Int) ∧ Hid (vt x (M.take kk) = c) ∧ w = wr)
  case atStart => exact ⟨0, 0, Nat.zero_le _, by omega, Nat.le_refl _, rfl, rfl, ⟨by simp [vt]⟩, rfl⟩
  case round =>
    obtain ⟨kk, c, hkk, hgg, hck, rfl, rfl, HV, rfl⟩ := hrel
    by_cases hlt : kk < n
    · have hltz : (kk : Int) < (n : Int) := by omega
      have hlL : kk < M.length := by rw [Hn.out]; exact hlt
      obtain ⟨b1, o1, c1, x1, m1, z1, e1, d1, y1⟩ := HA.out.at' kk hlL
      rw [Hn.out] at e1
      simp at e1
      obtain ⟨rfl, rfl⟩ := e1
      have t := in_any _ _ x y1 (by have := Hs.out.each kk hlL; omega)
      have HV2 := Hid.mk (vt_snoc x M kk hlL)
      clear y1
      by_cases hm : x ∈ M.getD kk []
      · rw [if_pos hm, HV.out] at HV2
        rw [decide_eq_true hm] at t
        clear hm
        have hcw : wrap64 ((c : Int) + 1) = (c : Int) + 1 := IntWalk.wrap64_in _ ⟨by omega, by omega⟩
        go_wp2_with fail
        refine t.mono ?_
        rintro e w' ⟨rfl, rfl⟩
        go_wp2
        go_roundg (n - (kk + 1))
        case measure => omega
        case rel => exact ⟨kk + 1, c + 1, by omega, by omega, by omega, by go_num, by go_num, HV2, rfl⟩
      · rw [if_neg hm, HV.out] at HV2
        rw [decide_eq_false hm] at t
        clear hm
        go_wp2_with fail
        refine t.mono ?_
        rintro e w' ⟨rfl, rfl⟩
        go_wp2
        go_roundg (n - (kk + 1))
        case measure => omega
        case rel => exact ⟨kk + 1, c, by omega, by omega, by omega, by go_num, rfl, HV2, rfl⟩
    · obtain rfl : n = kk := by omega
      have HE : Hid (vt x M = c) := ⟨by have := HV.out; rwa [List.take_of_length_le (by rw [Hn.out]; exact Nat.le_refl _)] at this⟩
      go_wp2
      go_ret
      exact ⟨by rw [HE.out]; rfl, rfl⟩
end
end Go.Proofs.Ytiloclekhddkfaa
