/- Is there room for words of these lengths: haveRoom. -/
import Derived.Test.YtfecngncapenjaaC1
namespace Go.Proofs.Ytfecngncapenjaa
open Go.RowKit Oct

/-- What lengths take of 2^60. -/
def krs : List Int → Nat
  | [] => 0
  | l :: r => (if l = 0 then 0 else 2 ^ (60 - l.toNat)) + krs r
theorem krs_app : ∀ l r, krs (l ++ r) = krs l + krs r
  | [], r => by simp [krs]
  | x :: l, r => by rw [List.cons_append, krs, krs, krs_app l r, Nat.add_assoc]
def okB (l : Int) : Bool := decide (0 ≤ l) && decide (l ≤ 60)
def hr (f : List Int) : Bool := f.all okB && decide (krs f ≤ 2 ^ 60)
theorem krs_take (f : List Int) {k : Nat} (h : k < f.length) : krs (f.take (k + 1)) = krs (f.take k) + (if f.getD k 0 = 0 then 0 else 2 ^ (60 - (f.getD k 0).toNat)) := by
  rw [List.take_add_one, List.getElem?_eq_getElem h, krs_app]
  simp [krs, List.getD, List.getElem?_eq_getElem h]
theorem krs_le (f : List Int) (k : Nat) : krs (f.take k) ≤ krs f := by
  conv => rhs; rw [← List.take_append_drop k f, krs_app]
  omega
theorem hr_bad {f : List Int} {k : Nat} (h : k < f.length) (hb : okB (f.getD k 0) = false) : hr f = false := by
  unfold hr
  have : f.all okB = false := by
    rw [List.all_eq_false]
    refine ⟨f.getD k 0, ?_, by rw [hb]; simp⟩
    simp only [List.getD, List.getElem?_eq_getElem h, Option.getD_some]
    exact List.getElem_mem h
  rw [this]
  rfl
theorem hr_over {f : List Int} {k : Nat} (h : 2 ^ 60 < krs (f.take k)) : hr f = false := by
  unfold hr
  have := krs_le f k
  rw [decide_eq_false (by omega), Bool.and_false]
theorem hr_ok {f : List Int} (h : ∀ k, k < f.length → okB (f.getD k 0) = true) (hk : krs f ≤ 2 ^ 60) : hr f = true := by
  unfold hr
  rw [decide_eq_true hk, Bool.and_true, List.all_eq_true]
  intro x hx
  obtain ⟨i, hi, rfl⟩ := List.mem_iff_getElem.1 hx
  have := h i hi
  simpa [List.getD, List.getElem?_eq_getElem hi] using this
section
variable {w : World}
theorem noCount21 (n : Int) : Calls Try.prog 21 #[.int .i64 n] w fun e w' => e = .returned (.bool (decide (n < 0 ∨ 8192 < n))) ∧ w = w' := by
  go_enter Try.func21, Try.ntmps21
  by_cases h : n < 0
  · have e : decide (n < 0 ∨ 8192 < n) = true := decide_eq_true (.inl h)
    rw [e]
    go_wp2_with fail
    go_ret
    exact ⟨rfl, rfl⟩
  · by_cases h2 : 8192 < n
    · have e : decide (n < 0 ∨ 8192 < n) = true := decide_eq_true (.inr h2)
      rw [e]
      go_wp2_with fail
      go_ret
      exact ⟨rfl, rfl⟩
    · have e : decide (n < 0 ∨ 8192 < n) = false := decide_eq_false (by omega)
      rw [e]
      go_wp2_with fail
      go_ret
      exact ⟨rfl, rfl⟩
set_option maxHeartbeats 2000000 in
set_option maxRecDepth 100000 in
theorem room28 (f : List Int) (hf : f.length = 256) : Calls Try.prog 28 #[.agg (ia f)] w fun e w' => e = .returned (.bool (hr f)) ∧ Below w.heap.size w w' := by
  obtain ⟨w1, Hw1⟩ : ∃ x, Hid (w.alloc (.cells (ia f) 22) = x) := ⟨_, ⟨rfl⟩⟩
  have HB1 : Hid (Below w.heap.size w w1) := ⟨by rw [← Hw1.out]; exact (Below.refl _ w).alloc (Nat.le_refl _) _⟩
  have HX1 : Hid (w1.heap[w.heap.size]? = some (.cells (ia f) 22 (0, 0))) := ⟨by rw [← Hw1.out]; exact heap_alloc_new w _⟩
  have HF := Hid.mk hf
  have HI : Hid ((Try.prog.info? 22).map (·.size) = some (ia f).size) := ⟨by rw [ia_size, hf]; exact info22⟩
  obtain ⟨A, HA⟩ : ∃ A, Hid (ia f = A) := ⟨_, ⟨rfl⟩⟩
  rw [HA.out] at Hw1 HX1 HI ⊢
  obtain ⟨R, HR⟩ : ∃ R, Hid (hr f = R) := ⟨_, ⟨rfl⟩⟩
  rw [HR.out]
  clear hf
  go_enter Try.func28, Try.ntmps28
  go_upto_region 3 with (first | (refine wp_box rfl 22 (.tmp 0) rfl A rfl ?_; rw [Hw1.out]) | (refine wp_load rfl 22 (.tmp 1) rfl w.heap.size rfl A 22 (0, 0) _ HX1.out Try.underlying22 rfl HI.out ?_))
  go_loopg [3, 8] 257 (fun gg s3 s8 wr => ∃ k : Nat, k ≤ 256 ∧ 257 - k ≤ gg ∧ s8 = .int .i64 (k : Int) ∧ s3 = .int .i64 ((2 ^ 60 - krs (f.take k) : Nat) : Int) ∧ Hid (krs (f.take k) ≤ 2 ^ 60) ∧ Hid (∀ j, j < k → okB (f.getD j 0) = true) ∧ Hid (Below w.heap.size w wr))
  case atStart => exact ⟨0, Nat.zero_le _, by omega, rfl, by simp [krs], ⟨by simp [krs]⟩, ⟨fun j hj => by omega⟩, HB1⟩
  case round =>
    obtain ⟨k, hk, hgg, rfl, rfl, HK, HOk, HBr⟩ := hrel
    by_cases hlt : k < 256
    · have hltz : (k : Int) < 256 := by omega
      obtain ⟨x, Hx⟩ : ∃ x, Hid (f.getD k 0 = x) := ⟨_, ⟨rfl⟩⟩
      by_cases hx1 : x < 0
      · have hR : R = false := by rw [← HR.out]; exact hr_bad (by rw [HF.out]; exact hlt) (by rw [Hx.out]; unfold okB; rw [decide_eq_false (by omega)]; rfl)
        go_wp2_with (rw [← HA.out]; refine wp_idx rfl (.tmp 7) (.tmp 8) rfl rfl k rfl HF.out hlt ?_; rw [Hx.out, HA.out])
        go_ret
        first | rw [hR] | skip
        exact ⟨rfl, HBr.out⟩
      · by_cases hx2 : 60 < x
        · have hR : R = false := by rw [← HR.out]; exact hr_bad (by rw [HF.out]; exact hlt) (by rw [Hx.out]; unfold okB; rw [decide_eq_false (show ¬ x ≤ 60 by omega), Bool.and_false])
          go_wp2_with (rw [← HA.out]; refine wp_idx rfl (.tmp 7) (.tmp 8) rfl rfl k rfl HF.out hlt ?_; rw [Hx.out, HA.out])
          go_ret
          first | rw [hR] | skip
          exact ⟨rfl, HBr.out⟩
        · by_cases hx3 : x = 0
          · subst hx3
            have HKn : krs (f.take (k + 1)) = krs (f.take k) := by rw [krs_take f (by rw [HF.out]; exact hlt), Hx.out]; rfl
            have HOn : Hid (∀ j, j < k + 1 → okB (f.getD j 0) = true) := ⟨fun j hj => by
              by_cases e : j = k
              · rw [e, Hx.out]; rfl
              · exact HOk.out j (by omega)⟩
            go_wp2_with (rw [← HA.out]; refine wp_idx rfl (.tmp 7) (.tmp 8) rfl rfl k rfl HF.out hlt ?_; rw [Hx.out, HA.out])
            go_roundg (257 - (k + 1))
            case measure => omega
            case rel => exact ⟨k + 1, by omega, by omega, by go_num, by rw [HKn], ⟨by rw [HKn]; exact HK.out⟩, HOn, HBr⟩
          · obtain ⟨n, Hn⟩ : ∃ n : Nat, Hid (x = (n : Int)) := ⟨x.toNat, ⟨by omega⟩⟩
            rw [Hn.out] at Hx hx1 hx2 hx3
            obtain ⟨p, Hp⟩ : ∃ p : Nat, Hid (2 ^ (60 - n) = p) := ⟨_, ⟨rfl⟩⟩
            have hp60 : p ≤ 2 ^ 60 := by rw [← Hp.out]; exact Nat.pow_le_pow_right (by omega) (by omega)
            have hpw : wrap64 ((2 : Int) ^ (60 - n)) = (p : Int) := by
              rw [← Hp.out]
              have h60 : (2 : Nat) ^ (60 - n) ≤ 2 ^ 60 := by rw [Hp.out]; exact hp60
              have : ((2 : Int) ^ (60 - n)) = ((2 ^ (60 - n) : Nat) : Int) := by simp
              rw [this]
              generalize 2 ^ (60 - n) = q at h60
              unfold wrap64
              omega
            obtain ⟨c, Hc⟩ : ∃ c, Hid (krs (f.take k) = c) := ⟨_, ⟨rfl⟩⟩
            rw [Hc.out] at HK ⊢
            have hc60 := HK.out
            by_cases hlt2 : (1152921504606846976 - c : Nat) < p
            · have hR : R = false := by
                rw [← HR.out]
                refine hr_over (k := k + 1) ?_
                rw [krs_take f (by rw [HF.out]; exact hlt), Hx.out, if_neg hx3, Hc.out, Int.toNat_natCast, Hp.out]
                omega
              have hltz2 : ((1152921504606846976 - c : Nat) : Int) < (p : Int) := by omega
              go_wp2_with (rw [← HA.out]; refine wp_idx rfl (.tmp 7) (.tmp 8) rfl rfl k rfl HF.out hlt ?_; rw [Hx.out, HA.out])
              go_ret
              first | rw [hR] | skip
              exact ⟨rfl, HBr.out⟩
            · have HKn : krs (f.take (k + 1)) = c + p := by rw [krs_take f (by rw [HF.out]; exact hlt), Hx.out, if_neg hx3, Hc.out, Int.toNat_natCast, Hp.out]
              have HOn : Hid (∀ j, j < k + 1 → okB (f.getD j 0) = true) := ⟨fun j hj => by
                by_cases e : j = k
                · rw [e, Hx.out]; unfold okB; rw [decide_eq_true (show (0 : Int) ≤ n by omega), decide_eq_true (show (n : Int) ≤ 60 by omega)]; rfl
                · exact HOk.out j (by omega)⟩
              have hltz2 : ¬ ((1152921504606846976 - c : Nat) : Int) < (p : Int) := by omega
              go_wp2_with (rw [← HA.out]; refine wp_idx rfl (.tmp 7) (.tmp 8) rfl rfl k rfl HF.out hlt ?_; rw [Hx.out, HA.out])
              go_roundg (257 - (k + 1))
              case measure => omega
              case rel => exact ⟨k + 1, by omega, by omega, by go_num, by rw [HKn]; congr 1; omega, ⟨by rw [HKn]; omega⟩, HOn, HBr⟩
    · obtain rfl : k = 256 := by omega
      have hR : R = true := by
        rw [← HR.out]
        refine hr_ok (fun j hj => HOk.out j (by rw [← HF.out]; exact hj)) ?_
        have := HK.out
        rwa [List.take_of_length_le (by rw [HF.out]; omega)] at this
      go_wp2_with fail
      go_ret
      first | rw [hR] | skip
      exact ⟨rfl, HBr.out⟩
end
end Go.Proofs.Ytfecngncapenjaa
