/- The document's summary: New, on. -/
import Derived.Test.YtiloclekhddkfabDoorB2
namespace Go.Proofs.YtiloclekhddkfabDoor
open Go.RowKit

/-- The document's summary at a block: its bits and ways, and the list of the places that are on. -/
structure RfAt (w : World) (p : Nat) (bits ways : Int) (v : Value) (l : List Int) : Prop where
  row : w.heap[p]? = some (.cells #[.int .i64 bits, .int .i64 ways, v] 41 (0, 0))
  on : RdI w v l
theorem RfAt.lt {w : World} {p : Nat} {bits ways : Int} {v : Value} {l : List Int} (h : RfAt w p bits ways v l) : p < w.heap.size := (Array.getElem?_eq_some_iff.1 h.row).1
theorem RfAt.c0 {w : World} {p : Nat} {bits ways : Int} {v : Value} {l : List Int} (h : RfAt w p bits ways v l) : w.cell? ⟨p, 0, none⟩ = some (.int .i64 bits) := by rw [cell_of_row _ _ _ _ _ _ h.row]; rfl
theorem RfAt.c1 {w : World} {p : Nat} {bits ways : Int} {v : Value} {l : List Int} (h : RfAt w p bits ways v l) : w.cell? ⟨p, 1, none⟩ = some (.int .i64 ways) := by rw [cell_of_row _ _ _ _ _ _ h.row]; rfl
theorem RfAt.c2 {w : World} {p : Nat} {bits ways : Int} {v : Value} {l : List Int} (h : RfAt w p bits ways v l) : w.cell? ⟨p, 2, none⟩ = some v := by rw [cell_of_row _ _ _ _ _ _ h.row]; rfl
theorem RfAt.far {w w' : World} {p : Nat} {bits ways : Int} {v : Value} {l : List Int} {X : List Nat} (h : RfAt w p bits ways v l) (hc : Chg X w w') (hp : p ∉ X) (hv : 0 < l.length → ∀ k, v.ownBlock = some k → k ∉ X) : RfAt w' p bits ways v l :=
  ⟨(hc.block p h.lt hp).trans h.row, Rd.far h.on hc (fun q => hv (by rw [iv_len] at q; exact q))⟩
section
variable {w : World}
set_option maxHeartbeats 2000000 in
set_option maxRecDepth 100000 in
theorem ron_any {p : Nat} {bits ways : Int} {v : Value} {l : List Int} (x : Int) (h : RfAt w p bits ways v l) (hl : l.length ≤ 1000000000000) : Calls Tryd.prog 31 #[.pointer (some ⟨p, 0, none⟩), .int .i64 x] w fun e w' => e = .returned (.bool (decide (x ∈ l))) ∧ w = w' := by
  have c2 := h.c2
  have H := Hid.mk h.on
  obtain ⟨av, cv, rfl, _⟩ := h.on.shape
  obtain ⟨n, Hn⟩ : ∃ n, Hid (l.length = n) := ⟨_, ⟨rfl⟩⟩
  rw [Hn.out] at c2 H hl
  clear h
  go_enter Tryd.func31, Tryd.ntmps31
  go_wp2_with fail
  go_loopg [5] n (fun gg s5 wr => ∃ k : Nat, k ≤ n ∧ n - k ≤ gg ∧ s5 = .int .i64 (k : Int) ∧ Hid (x ∉ l.take k) ∧ w = wr)
  case atStart => exact ⟨0, Nat.zero_le _, by omega, rfl, ⟨by simp⟩, rfl⟩
  case round =>
    obtain ⟨k, hk, hgg, rfl, HN, rfl⟩ := hrel
    by_cases hlt : k < n
    · have hltz : (k : Int) < (n : Int) := by omega
      have hkL : k < l.length := by rw [Hn.out]; exact hlt
      obtain ⟨b1, o1, c1, e1, _, hcell⟩ := H.out.at hkL
      rw [Hn.out] at e1
      simp at e1
      obtain ⟨rfl, rfl⟩ := e1
      have hx := hcell k hkL
      have HTs : Hid (l.take (k + 1) = l.take k ++ [l.getD k 0]) := ⟨Oct.take_snoc l k hkL⟩
      have Hmem : Hid (l.getD k 0 ∈ l) := ⟨by simp only [List.getD, List.getElem?_eq_getElem hkL, Option.getD_some]; exact List.getElem_mem hkL⟩
      clear hcell
      generalize l.getD k 0 = y at hx HTs Hmem
      by_cases hyx : y = x
      · subst hyx
        have HE : Hid (decide (y ∈ l) = true) := ⟨decide_eq_true Hmem.out⟩
        go_wp2_with fail
        go_ret
        exact ⟨by rw [HE.out]; rfl, rfl⟩
      · have HM : Hid (x ∉ l.take (k + 1)) := ⟨by
          rw [HTs.out]
          intro hm
          rcases List.mem_append.1 hm with q | q
          · exact HN.out q
          · exact hyx (List.mem_singleton.1 q).symm⟩
        go_wp2_with fail
        go_roundg (n - (k + 1))
        case measure => omega
        case rel => exact ⟨k + 1, by omega, by omega, by go_num, HM, rfl⟩
    · obtain rfl : k = n := by omega
      have HE : Hid (decide (x ∈ l) = false) := ⟨decide_eq_false (by have := HN.out; rwa [List.take_of_length_le (by rw [Hn.out]; exact Nat.le_refl _)] at this)⟩
      go_wp2_with fail
      go_ret
      exact ⟨by rw [HE.out]; rfl, rfl⟩
set_option maxHeartbeats 2000000 in
set_option maxRecDepth 100000 in
theorem rnew_any (bits ways : Int) : Calls Tryd.prog 9 #[.int .i64 bits, .int .i64 ways] w fun e w' => (if ft bits ways = true then e = .returned (.tuple #[.pointer (some ⟨w.heap.size, 0, none⟩), .int .i64 0]) ∧ RfAt w' w.heap.size bits ways (.slice none 0 0) [] else e = .returned (.tuple #[.pointer none, .int .i64 2])) ∧ Below w.heap.size w w' := by
  by_cases hf : ft bits ways = true
  · have hfb : 1 ≤ bits ∧ bits ≤ 65536 ∧ 1 ≤ ways ∧ ways ≤ 8 := of_decide_eq_true hf
    have h1 : ¬ bits < 1 := by omega
    have h2 : ¬ 65536 < bits := by omega
    have h3 : ¬ ways < 1 := by omega
    have h4 : ¬ 8 < ways := by omega
    simp only [if_pos hf]
    have HR : Hid (RfAt (w.alloc (.cells #[.int .i64 bits, .int .i64 ways, .slice none 0 0] 41)) w.heap.size bits ways (.slice none 0 0) []) := ⟨⟨heap_alloc_new w _, ⟨none, 0, rfl, Nat.le_refl _, by decide, fun _ => rfl, fun x h => (nomatch h)⟩⟩⟩
    clear hf hfb
    go_enter Tryd.func9, Tryd.ntmps9
    go_wp2_with fail
    go_ret2
    exact ⟨⟨rfl, HR.out⟩, (Below.refl _ w).alloc (Nat.le_refl _) _⟩
  · have hfb : ¬ (1 ≤ bits ∧ bits ≤ 65536 ∧ 1 ≤ ways ∧ ways ≤ 8) := fun h => hf (decide_eq_true h)
    simp only [if_neg hf]
    by_cases h1 : bits < 1
    · go_enter Tryd.func9, Tryd.ntmps9
      go_wp2_with fail
      go_ret2
      exact ⟨rfl, Below.refl _ _⟩
    by_cases h2 : 65536 < bits
    · go_enter Tryd.func9, Tryd.ntmps9
      go_wp2_with fail
      go_ret2
      exact ⟨rfl, Below.refl _ _⟩
    by_cases h3 : ways < 1
    · go_enter Tryd.func9, Tryd.ntmps9
      go_wp2_with fail
      go_ret2
      exact ⟨rfl, Below.refl _ _⟩
    have h4 : 8 < ways := by omega
    go_enter Tryd.func9, Tryd.ntmps9
    go_wp2_with fail
    go_ret2
    exact ⟨rfl, Below.refl _ _⟩
end
end Go.Proofs.YtiloclekhddkfabDoor
