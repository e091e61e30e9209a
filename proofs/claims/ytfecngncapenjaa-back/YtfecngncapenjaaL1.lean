/- The document's trees: a count, and which bytes are in it; first. -/
import Derived.Test.YtfecngncapenjaaC4
import Derived.Test.YtfecngncapenjaaMultiB
import Derived.Test.YtfecngncapenjaaMultiC
namespace Go.Proofs.Ytfecngncapenjaa
open Go.RowKit Oct

/-- A tree of the document: its count, and of each byte whether it is in it. -/
abbrev RT := Int × List Bool
def fe (s : RT) : List Value := .int .i64 s.1 :: s.2.map Value.bool
def r0 : RT := (0, List.replicate 256 false)
theorem fe_len {s : RT} (h : s.2.length = 256) : (fe s).length = 257 := by simp [fe, h]
theorem fe_one (s : RT) : ∀ u ∈ fe s, u.oneCell' = true := fun u hu => by
  simp only [fe, List.mem_cons, List.mem_map] at hu
  rcases hu with rfl | ⟨b, _, rfl⟩ <;> rfl
theorem fe_each {s : RT} (h : s.2.length = 256) : (fe s).length = 257 ∧ ∀ u ∈ fe s, u.oneCell' = true := ⟨fe_len h, fe_one s⟩
def ra (s : RT) : Array Value := (fe s).toArray
theorem ra_size {s : RT} (h : s.2.length = 256) : (ra s).size = 257 := by simp [ra, fe_len h]
theorem ra_cnt (s : RT) : (ra s)[0]? = some (.int .i64 s.1) := by simp [ra, fe]
theorem ra_has {s : RT} {i : Nat} (h : i < s.2.length) : (ra s)[1 + i]? = some (.bool (s.2.getD i false)) := by
  unfold ra fe
  rw [List.getElem?_toArray, Nat.add_comm 1 i, List.getElem?_cons_succ]
  simp [List.getD, List.getElem?_eq_getElem h]
theorem info54 : (Try.prog.info? 54).map (·.size) = some 257 := by kernel_rfl
theorem info54f {s : RT} (h : s.2.length = 256) : (Try.prog.info? 54).map (·.size) = some (ra s).size := by rw [ra_size h]; exact info54
/-- The least byte of a tree. -/
def fst (s : RT) : Nat := s.2.findIdx id
theorem fst_lt {s : RT} {i : Nat} (h : i < s.2.length) (hi : s.2.getD i false = true) (hb : ∀ j, j < i → s.2.getD j false = false) : fst s = i := by
  unfold fst
  rw [List.findIdx_eq h]
  refine ⟨?_, fun j hj => ?_⟩
  · simpa [List.getD, List.getElem?_eq_getElem h] using hi
  · have := hb j hj
    simpa [List.getD, List.getElem?_eq_getElem (show j < s.2.length by omega)] using this
theorem fst_none {s : RT} (hb : ∀ j, j < s.2.length → s.2.getD j false = false) : fst s = s.2.length := by
  unfold fst
  rw [List.findIdx_eq_length]
  intro x hx
  obtain ⟨i, hi, rfl⟩ := List.mem_iff_getElem.1 hx
  have := hb i hi
  simpa [List.getD, List.getElem?_eq_getElem hi] using this
section
variable {w : World}
set_option maxHeartbeats 4000000 in
set_option maxRecDepth 100000 in
theorem first26 (s : RT) (hs : s.2.length = 256) : Calls Try.prog 26 #[.agg (ra s)] w fun e w' => e = .returned (.int .i64 (fst s : Nat)) ∧ Below w.heap.size w w' := by
  have HS := Hid.mk hs
  obtain ⟨q, Hq⟩ : ∃ q, Hid (w.heap.size = q) := ⟨_, ⟨rfl⟩⟩
  obtain ⟨w1, Hw1⟩ : ∃ x, Hid (w.alloc (.cells (ra s) 54) = x) := ⟨_, ⟨rfl⟩⟩
  have HB1 : Hid (Below w.heap.size w w1) := ⟨by rw [← Hw1.out]; exact (Below.refl _ w).alloc (Nat.le_refl _) _⟩
  have HX1 : Hid (w1.heap[q]? = some (.cells (ra s) 54 (0, 0))) := ⟨by rw [← Hw1.out, ← Hq.out]; exact heap_alloc_new w _⟩
  obtain ⟨z, Hz⟩ : ∃ z : Nat, Hid (fst s = z) := ⟨_, ⟨rfl⟩⟩
  rw [Hz.out]
  obtain ⟨A, HA⟩ : ∃ A, Hid (ra s = A) := ⟨_, ⟨rfl⟩⟩
  rw [HA.out] at Hw1
  rw [HA.out]
  clear hs
  go_enter Try.func26, Try.ntmps26
  go_upto_region 2 with (refine wp_box rfl 54 (.tmp 0) rfl A rfl ?_; rw [Hw1.out])
  rw [Hq.out]
  go_loopg [3] 256 (fun gg s3 wr => ∃ i : Nat, i ≤ 256 ∧ 256 - i ≤ gg ∧ s3 = .int .i64 (i : Int) ∧ Hid (∀ j, j < i → s.2.getD j false = false) ∧ Hid (w1 = wr))
  case atStart => exact ⟨0, Nat.zero_le _, by omega, rfl, ⟨fun j hj => by omega⟩, ⟨rfl⟩⟩
  case round =>
    obtain ⟨i, hi, hgg, rfl, HN, HW⟩ := hrel
    rename World => wo
    have hw := HW.out
    subst hw
    clear HW
    by_cases hlt : i < 256
    · have hltz : (i : Int) < 256 := by omega
      obtain ⟨b, Hb⟩ : ∃ b, Hid (s.2.getD i false = b) := ⟨_, ⟨rfl⟩⟩
      have c1 : w1.cell? ⟨q, 1 + i, none⟩ = some (.bool b) := by rw [cell_of_row _ _ _ _ _ _ HX1.out, ← Hb.out]; exact ra_has (by rw [HS.out]; exact hlt)
      cases b with
      | true =>
        have HZ : Hid (z = i) := ⟨by rw [← Hz.out]; exact fst_lt (by rw [HS.out]; exact hlt) Hb.out HN.out⟩
        go_wp2_with fail
        go_ret
        exact ⟨by rw [HZ.out]; rfl, HB1.out⟩
      | false =>
        go_wp2_with fail
        go_roundg (256 - (i + 1))
        case measure => omega
        case rel =>
          refine ⟨i + 1, by omega, by omega, by go_num, ⟨fun j hj => ?_⟩, ⟨rfl⟩⟩
          by_cases e : j = i
          · rw [e]; exact Hb.out
          · exact HN.out j (by omega)
    · obtain rfl : i = 256 := by omega
      have HZ : Hid (z = 256) := ⟨by rw [← Hz.out, fst_none (by rw [HS.out]; exact HN.out), HS.out]⟩
      go_wp2_with fail
      go_ret
      exact ⟨by rw [HZ.out]; rfl, HB1.out⟩
end
end Go.Proofs.Ytfecngncapenjaa
