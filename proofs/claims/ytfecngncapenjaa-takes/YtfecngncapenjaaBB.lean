/- The document's begins; bits behind a place. -/
import Derived.Test.YtfecngncapenjaaGd
import Derived.Test.YtfecngncapenjaaR2
namespace Go.Proofs.Ytfecngncapenjaa
open Go.RowKit Oct Go.Lib

theorem bitAt_drop (b : List Int) (o a : Nat) : bitAt (b.drop o) a = bitAt b (8 * o + a) := by
  unfold bitAt
  rw [show (8 * o + a) / 8 = o + a / 8 by omega, show (8 * o + a) % 8 = a % 8 by omega]
  simp only [List.getD, List.getElem?_drop]
theorem bitAt_bit (b : List Int) (a : Nat) : bitAt b a < 2 := by unfold bitAt; omega
section
variable {w : World}
set_option maxHeartbeats 4000000 in
set_option maxRecDepth 100000 in
theorem begins39 (s t : List Nat) (hs : ∀ x ∈ s, x < 2) (ht : ∀ x ∈ t, x < 2) : Calls Try.prog 39 #[.string (txt s), .string (txt t)] w fun e w' => e = .returned (.bool (decide (s <+: t))) ∧ w = w' := by
  have e1 := txt_size s
  have e2 := txt_size t
  by_cases hl : s.length ≤ t.length
  · have hz : (s.length : Int) ≤ (t.length : Int) := by omega
    have e3 := txt_take t s.length
    have HD : Hid (decide (txt (t.take s.length) = txt s) = decide (s <+: t)) := ⟨by
      refine decide_eq_decide.2 ⟨fun h => ?_, fun h => ?_⟩
      · rw [← txt_inj (fun x hx => ht x (List.mem_of_mem_take hx)) hs h]
        exact List.take_prefix _ _
      · rw [← List.prefix_iff_eq_take.1 h]⟩
    obtain ⟨d, Hd⟩ : ∃ x, Hid (decide (s <+: t) = x) := ⟨_, ⟨rfl⟩⟩
    rw [Hd.out] at HD
    rw [Hd.out]
    obtain ⟨S, HS⟩ : ∃ x, Hid (txt s = x) := ⟨_, ⟨rfl⟩⟩
    obtain ⟨T, HT⟩ : ∃ x, Hid (txt t = x) := ⟨_, ⟨rfl⟩⟩
    obtain ⟨U, HU⟩ : ∃ x, Hid (txt (t.take s.length) = x) := ⟨_, ⟨rfl⟩⟩
    obtain ⟨n, Hn⟩ : ∃ x, Hid (s.length = x) := ⟨_, ⟨rfl⟩⟩
    obtain ⟨m, Hm⟩ : ∃ x, Hid (t.length = x) := ⟨_, ⟨rfl⟩⟩
    rw [HU.out, HT.out] at e3
    rw [HU.out, HS.out] at HD
    rw [HS.out] at e1
    rw [HT.out] at e2
    rw [HS.out, HT.out]
    rw [Hn.out] at e1 e3 hz
    rw [Hm.out] at e2 hz
    clear hs ht hl
    go_enter Try.func39, Try.ntmps39
    go_wp2_with fail
    go_ret
    exact ⟨by rw [← HD.out, ← toList_beq]; rfl, rfl⟩
  · have hz : ¬ (s.length : Int) ≤ (t.length : Int) := by omega
    have HD : Hid (decide (s <+: t) = false) := ⟨decide_eq_false (fun h => hl h.length_le)⟩
    rw [HD.out]
    clear hs ht hl
    go_enter Try.func39, Try.ntmps39
    go_wp2_with fail
    go_ret
    exact ⟨rfl, rfl⟩
end
end Go.Proofs.Ytfecngncapenjaa
