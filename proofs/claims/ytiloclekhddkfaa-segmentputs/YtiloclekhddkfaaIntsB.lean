/- slices.Clone, Index, Contains at ints. -/
import Derived.Test.YtiloclekhddkfaaInts
namespace Go.Proofs.Ytiloclekhddkfaa
open Go.RowKit

section
variable {w : World}
theorem clonei_any (pv : Value) (l : List Int) (hp : RdI w pv l) (hl : l.length ≤ 1000000000000) : Calls Try.prog 47 #[pv] w fun e w' => ∃ v', e = .returned v' ∧ OwnI w' w.heap.size v' l ∧ Below w.heap.size w w' := by
  have HP := Hid.mk hp
  obtain ⟨ao, cap, rfl, hlc, hcm, hn⟩ := hp.shape
  obtain ⟨n, Hn⟩ : ∃ n, Hid (l.length = n) := ⟨_, ⟨rfl⟩⟩
  cases ao with
  | none =>
    have h0 := hn rfl
    have hl0 : l = [] := List.length_eq_zero_iff.1 (by omega)
    subst hl0
    subst h0
    have hnl : ∀ W, (binOp .eql 39 (.slice none 0 0) (.slice none 0 0)).run Try.prog W = .ok (.bool true) W := fun W => by rw [Lib.run_eql_slice_nil W 39 3 _ _ _ _ _ Try.underlying39]; rfl
    rw [List.length_nil]
    clear hp
    go_enter Try.func47, Try.ntmps47
    go_wp2
    go_ret
    exact ⟨_, rfl, owni_nil w _, Below.refl _ _⟩
  | some ad =>
    have HN := Hid.mk (owni_none w)
    have HP2 : Hid (RdI (w.alloc (.cells #[] 3)) (.slice (some ad) l.length cap) l) := ⟨Rd.far hp (Chg.ofBelow (X := []) ((Below.refl _ w).alloc (Nat.le_refl _) _)) (by simp)⟩
    have hnl : ∀ W, (binOp .eql 39 (.slice (some ad) n cap) (.slice none 0 0)).run Try.prog W = .ok (.bool false) W := fun W => by rw [Lib.run_eql_slice_nil W 39 3 _ _ _ _ _ Try.underlying39]; rfl
    rw [Hn.out] at HP2 ⊢
    clear hp hn
    go_enter Try.func47, Try.ntmps47
    go_wp2_with (at_builtin; refine wp_appI (base := w.heap.size) rfl (.tmp 5) (.tmp 6) rfl rfl HN.out rfl HP2.out (by simp; have := Hn.out; omega) (by simp) ?_; intro v' w2 hO2 hG2 hV2; replace hG2 : Chg (ob (.slice (some ⟨w.heap.size, 0, none⟩) 0 0)) (w.alloc (.cells #[] 3)) w2 := hG2)
    go_ret
    exact ⟨v', rfl, by simpa using hO2, ((Below.refl _ w).alloc (Nat.le_refl _) _).trans (hG2.below (by simp) (fun x hx => by simp [ob, Value.ownBlock] at hx; omega))⟩
theorem mem_take_snoc {l : List Int} {x : Int} {k : Nat} (h : x ∉ l.take k) (hk : k < l.length) (hx : ¬ x = l.getD k 0) : x ∉ l.take (k + 1) := by
  rw [List.take_add_one, List.getElem?_eq_getElem hk]
  simp only [Option.toList_some, List.mem_append, List.mem_singleton, not_or]
  exact ⟨h, fun e => hx (by rw [e]; simp [List.getD, List.getElem?_eq_getElem hk])⟩
set_option maxHeartbeats 1000000 in
theorem indexi_any (pv : Value) (l : List Int) (x : Int) (hp : RdI w pv l) (hl : l.length ≤ 1000000000000) : Calls Try.prog 51 #[pv, .int .i64 x] w fun e w' => ∃ r : Int, e = .returned (.int .i64 r) ∧ (0 ≤ r ↔ x ∈ l) ∧ w = w' := by
  have HP := Hid.mk hp
  obtain ⟨ao, cap, rfl, hlc, hcm, hn⟩ := hp.shape
  obtain ⟨n, Hn⟩ : ∃ n, Hid (l.length = n) := ⟨_, ⟨rfl⟩⟩
  rw [Hn.out] at hl hlc ⊢
  clear hp hn
  go_enter Try.func51, Try.ntmps51
  go_wp2_with fail
  go_loopg [5, 8] n (fun gg _ s8 wr => ∃ kk : Nat, kk ≤ n ∧ n - kk ≤ gg ∧ s8 = .int .i64 (kk : Int) ∧ Hid (x ∉ l.take kk) ∧ w = wr)
  case atStart => exact ⟨0, Nat.zero_le _, by omega, rfl, ⟨by simp⟩, rfl⟩
  case round =>
    obtain ⟨kk, hkk, hgg, rfl, HX, rfl⟩ := hrel
    by_cases hlt : kk < n
    · have hltz : (kk : Int) < (n : Int) := by omega
      have hlL : kk < l.length := by rw [Hn.out]; exact hlt
      obtain ⟨b, off, c, e, _, hcell⟩ := HP.out.at hlL
      simp at e
      obtain ⟨rfl, rfl⟩ := e
      have hc := hcell kk hlL
      have HM : Hid (l.getD kk 0 ∈ l) := ⟨by simp only [List.getD, List.getElem?_eq_getElem hlL, Option.getD_some]; exact List.getElem_mem hlL⟩
      have HS := fun h => Hid.mk (mem_take_snoc HX.out hlL h)
      generalize l.getD kk 0 = y at hc HM HS
      clear hcell
      by_cases hxy : x = y
      · subst hxy
        go_wp2
        go_ret
        exact ⟨(kk : Int), rfl, ⟨fun _ => HM.out, fun _ => by omega⟩, rfl⟩
      · have HS2 := HS hxy
        clear HS
        go_wp2
        go_roundg (n - (kk + 1))
        case measure => omega
        case rel => exact ⟨kk + 1, by omega, by omega, by go_num, HS2, rfl⟩
    · obtain rfl : n = kk := by omega
      have HN : Hid (x ∉ l) := ⟨by have := HX.out; rwa [List.take_of_length_le (by rw [Hn.out]; exact Nat.le_refl _)] at this⟩
      go_wp2
      go_ret
      exact ⟨-1, rfl, ⟨fun h => by omega, fun h => (HN.out h).elim⟩, rfl⟩
theorem containsi_any (pv : Value) (l : List Int) (x : Int) (hp : RdI w pv l) (hl : l.length ≤ 1000000000000) : Calls Try.prog 32 #[pv, .int .i64 x] w fun e w' => e = .returned (.bool (decide (x ∈ l))) ∧ w = w' := by
  have t := indexi_any pv l x hp hl
  obtain ⟨ao, cap, rfl, _⟩ := hp.shape
  clear hp
  go_enter Try.func32, Try.ntmps32
  go_wp2_with fail
  refine t.mono ?_
  rintro e w' ⟨r, rfl, hr, rfl⟩
  have HR := Hid.mk hr
  clear hr
  have HD : Hid (decide (0 ≤ r) = decide (x ∈ l)) := ⟨decide_eq_decide.2 HR.out⟩
  go_wp2
  go_ret
  exact ⟨by show Ending.returned (.bool (decide (0 ≤ r))) = _; rw [HD.out], rfl⟩
end
end Go.Proofs.Ytiloclekhddkfaa
