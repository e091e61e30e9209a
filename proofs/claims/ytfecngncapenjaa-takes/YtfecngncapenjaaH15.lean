/- Is one of some counts wrong: slices.ContainsFunc. -/
import Derived.Test.YtfecngncapenjaaC4
namespace Go.Proofs.Ytfecngncapenjaa
open Go.RowKit Oct

/-- No count that may be. -/
def bad (n : Int) : Bool := decide (n < 0 ∨ 8192 < n)
theorem badAll_no {f : List Int} (h : ∀ i, i < f.length → bad (f.getD i 0) = false) : f.any bad = false := by
  rw [List.any_eq_false]
  intro s hs
  obtain ⟨i, hi, rfl⟩ := List.mem_iff_getElem.1 hs
  have := h i hi
  rw [show f.getD i 0 = f[i] by simp [List.getD, List.getElem?_eq_getElem hi]] at this
  simp [this]
theorem badAll_yes {f : List Int} {i : Nat} (hi : i < f.length) (h : bad (f.getD i 0) = true) : f.any bad = true := by
  rw [List.any_eq_true]
  exact ⟨f[i], List.getElem_mem hi, by rw [show f.getD i 0 = f[i] by simp [List.getD, List.getElem?_eq_getElem hi]] at h; exact h⟩
section
variable {w : World}
set_option maxHeartbeats 4000000 in
set_option maxRecDepth 100000 in
theorem idx40 (q : Nat) (f : List Int) (hf : f.length = 256) (hq : w.heap[q]? = some (.cells (ia f) 22 (0, 0))) :
    Calls Try.prog 40 #[.slice (some ⟨q, 0, none⟩) 256 256, .func (.func 21) #[] #[]] w fun e w' => ∃ z : Int, e = .returned (.int .i64 z) ∧ (z = -1 ∧ f.any bad = false ∨ 0 ≤ z ∧ f.any bad = true) ∧ w = w' := by
  have HF := Hid.mk hf
  have HQ := Hid.mk hq
  clear hf hq
  go_enter Try.func40, Try.ntmps40
  go_wp2_with fail
  go_loopg [5, 8] 256 (fun gg _ s8 wr => ∃ i : Nat, i ≤ 256 ∧ 256 - i ≤ gg ∧ s8 = .int .i64 (i : Int) ∧ Hid (∀ j, j < i → bad (f.getD j 0) = false) ∧ Hid (w = wr))
  case atStart => exact ⟨0, Nat.zero_le _, by omega, rfl, ⟨fun j hj => by omega⟩, ⟨rfl⟩⟩
  case round =>
    obtain ⟨i, hi, hgg, rfl, HN, HW⟩ := hrel
    rename World => wo
    have hw := HW.out
    subst hw
    clear HW
    by_cases hlt : i < 256
    · have hltz : (i : Int) < 256 := by omega
      obtain ⟨x, Hx⟩ : ∃ x, Hid (f.getD i 0 = x) := ⟨_, ⟨rfl⟩⟩
      have c1 : w.cell? ⟨q, i, none⟩ = some (.int .i64 x) := by rw [cell_of_row _ _ _ _ _ _ HQ.out, ← Hx.out]; exact ia_get (by rw [HF.out]; exact hlt)
      have t1 := noCount21 (w := w) x
      cases hb : bad x with
      | true =>
        rw [show decide (x < 0 ∨ 8192 < x) = true from hb] at t1
        go_wp2_with fail
        refine t1.mono ?_
        rintro e w3 ⟨rfl, rfl⟩
        go_wp2_with fail
        go_ret
        exact ⟨_, rfl, .inr ⟨by omega, badAll_yes (i := i) (by rw [HF.out]; exact hlt) (by rw [Hx.out]; exact hb)⟩, rfl⟩
      | false =>
        rw [show decide (x < 0 ∨ 8192 < x) = false from hb] at t1
        go_wp2_with fail
        refine t1.mono ?_
        rintro e w3 ⟨rfl, rfl⟩
        go_wp2_with fail
        go_roundg (256 - (i + 1))
        case measure => omega
        case rel =>
          refine ⟨i + 1, by omega, by omega, by go_num, ⟨fun j hj => ?_⟩, ⟨rfl⟩⟩
          by_cases e : j = i
          · rw [e, Hx.out]; exact hb
          · exact HN.out j (by omega)
    · obtain rfl : i = 256 := by omega
      go_wp2_with fail
      go_ret
      exact ⟨_, rfl, .inl ⟨rfl, badAll_no (fun j hj => HN.out j (by rw [← HF.out]; exact hj))⟩, rfl⟩
set_option maxRecDepth 100000 in
theorem any20 (q : Nat) (f : List Int) (hf : f.length = 256) (hq : w.heap[q]? = some (.cells (ia f) 22 (0, 0))) :
    Calls Try.prog 20 #[.slice (some ⟨q, 0, none⟩) 256 256, .func (.func 21) #[] #[]] w fun e w' => e = .returned (.bool (f.any bad)) ∧ w = w' := by
  have t1 := idx40 q f hf hq
  obtain ⟨B, HB⟩ : ∃ B, Hid (f.any bad = B) := ⟨_, ⟨rfl⟩⟩
  rw [HB.out] at t1 ⊢
  clear hf hq
  go_enter Try.func20, Try.ntmps20
  go_wp2_with fail
  refine t1.mono ?_
  rintro e w3 ⟨z, rfl, h, rfl⟩
  rcases h with ⟨rfl, hb⟩ | ⟨hz, hb⟩
  · have HE := Hid.mk hb
    clear hb
    go_wp2_with fail
    go_ret
    exact ⟨by rw [HE.out]; rfl, rfl⟩
  · have HE := Hid.mk hb
    clear hb
    go_wp2_with fail
    go_ret
    exact ⟨by rw [HE.out]; rfl, rfl⟩
end
end Go.Proofs.Ytfecngncapenjaa
