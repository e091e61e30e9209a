/- Encode's errors; what must be whatever is asked. -/
import Derived.Test.YtbdmbhpmbklaiaaS15
namespace Go.Proofs.Ytbdmbhpmbklaiaa
open Go.RowKit Gf

def encE (L : List Sd) (m : Int) : Int := if ¬ (1 ≤ L.length ∧ L.length ≤ 32) ∨ ¬ (0 ≤ m ∧ m ≤ 16) then 2 else if frm L then 4 else 0
section
variable {w : World}
set_option maxHeartbeats 4000000 in
set_option maxRecDepth 100000 in
theorem enc_no (v : Value) (L : List Sd) (m : Int) {B : Nat × TypeId} (hv : RdR w B v L) (hl : L.length ≤ 1000000) (h4 : ∀ i, i < L.length → (sl (L.getD i none)).length ≤ 4096) (hc : encE L m ≠ 0) :
    Calls Try.prog 11 #[v, .int .i64 m] w fun e w' => e = .returned (.tuple #[.slice none 0 0, .int .i64 (encE L m)]) ∧ Below w.heap.size w w' := by
  have t1 := isData21 (w := w) (L.length : Int)
  have t2 := isParity22 (w := w) m
  have t3 := checkRows23 (w := w) v L hv hl h4
  obtain ⟨va, vc, rfl, h1, h2, _⟩ := hv.shape
  obtain ⟨r, Hr⟩ : ∃ r, Hid (encE L m = r) := ⟨_, ⟨rfl⟩⟩
  rw [Hr.out]
  clear hv h4
  by_cases hk : 1 ≤ (L.length : Int) ∧ (L.length : Int) ≤ 32
  · rw [decide_eq_true hk] at t1
    by_cases hm : 0 ≤ m ∧ m ≤ 16
    · rw [decide_eq_true hm] at t2
      have hfr : frm L = true := by
        cases h : frm L with
        | true => rfl
        | false => exact absurd (by unfold encE; rw [if_neg (by omega), h, if_neg (by decide)]) hc
      have HR : Hid (r = 4) := ⟨by rw [← Hr.out]; unfold encE; rw [if_neg (by omega), hfr, if_pos rfl]⟩
      rw [hfr, if_pos rfl] at t3
      generalize L.length = n at *
      clear hc hfr hk hm
      go_enter Try.func11, Try.ntmps11
      go_wp2_with fail
      refine t1.mono ?_
      rintro e wx ⟨rfl, rfl⟩
      clear t1
      go_wp2_with fail
      refine t2.mono ?_
      rintro e wx ⟨rfl, rfl⟩
      clear t2
      go_wp2_with fail
      refine t3.mono ?_
      rintro e w3 ⟨rfl, hb⟩
      have HB := Hid.mk hb
      clear t3 hb
      go_wp2_with fail
      go_ret2
      exact ⟨by rw [HR.out]; rfl, HB.out⟩
    · rw [decide_eq_false hm] at t2
      have HR : Hid (r = 2) := ⟨by rw [← Hr.out]; unfold encE; rw [if_pos (.inr hm)]⟩
      generalize L.length = n at *
      clear hc hk hm t3
      go_enter Try.func11, Try.ntmps11
      go_wp2_with fail
      refine t1.mono ?_
      rintro e wx ⟨rfl, rfl⟩
      clear t1
      go_wp2_with fail
      refine t2.mono ?_
      rintro e wx ⟨rfl, rfl⟩
      clear t2
      go_wp2_with fail
      go_ret2
      exact ⟨by rw [HR.out]; rfl, Below.refl _ _⟩
  · rw [decide_eq_false hk] at t1
    have HR : Hid (r = 2) := ⟨by rw [← Hr.out]; unfold encE; rw [if_pos (.inl (by omega))]⟩
    generalize L.length = n at *
    clear hc hk t3 t2
    go_enter Try.func11, Try.ntmps11
    go_wp2_with fail
    refine t1.mono ?_
    rintro e wx ⟨rfl, rfl⟩
    clear t1
    go_wp2_with fail
    go_ret2
    exact ⟨by rw [HR.out]; rfl, Below.refl _ _⟩
theorem enc_parts {L : List Sd} {m : Int} (h : encE L m = 0) : (1 ≤ L.length ∧ L.length ≤ 32) ∧ (∃ n : Nat, m = n ∧ n ≤ 16) ∧ frm L = false := by
  unfold encE at h
  split at h
  · simp at h
  · rename_i h1
    split at h
    · simp at h
    · rename_i h2
      exact ⟨by omega, ⟨m.toNat, by omega, by omega⟩, by simpa using h2⟩
def l57 : List Sd := [some [ge 5 (by decide)], some [ge 7 (by decide)]]
theorem rdS_one (w : World) (x : G) (B : Nat × TypeId) (hB : B.2 = 5) : RdS (w.alloc (.cells #[.int .u8 (gi x)] 5)) B (.slice (some ⟨w.heap.size, 0, none⟩) 1 1) (some [x]) := by
  have h := heap_alloc_new w (.cells #[.int .u8 (gi x)] 5)
  refine ⟨⟨some ⟨w.heap.size, 0, none⟩, 1, 1, rfl, by simp⟩, ⟨some ⟨w.heap.size, 0, none⟩, 1, rfl, Nat.le_refl _, by decide, by simp, ?_⟩, fun _ k hk => .inr ?_⟩
  · intro ad e i hi
    cases e
    rw [add_plain, Nat.zero_add, cell_of_row _ _ _ _ _ _ h]
    match i, hi with
    | 0, _ => rfl
  · simp [ob, Value.ownBlock] at hk
    subst hk
    rw [hB]
    exact ⟨_, h⟩
theorem l57_enc : (encS l57 0) = some [ge 1 (by decide)] := by
  have h : grp (pls l57.length) l57 (rowN l57) (gn (l57.length + 0)) = [ge 1 (by decide)] := by decide +kernel
  unfold encS
  rw [h]
set_option maxHeartbeats 4000000 in
set_option maxRecDepth 100000 in
theorem live10 : Calls Try.prog 10 #[] w fun e w' => e = .returned (.bool true) ∧ Below w.heap.size w w' := by
  obtain ⟨w1, Hw1⟩ : ∃ w1, Hid (w.alloc (.cells #[.int .u8 5] 5) = w1) := ⟨_, ⟨rfl⟩⟩
  obtain ⟨w2, Hw2⟩ : ∃ w2, Hid (w1.alloc (.cells #[.int .u8 7] 5) = w2) := ⟨_, ⟨rfl⟩⟩
  have hS1 : RdS w1 (0, 5) (.slice (some ⟨w.heap.size, 0, none⟩) 1 1) (some [ge 5 (by decide)]) := by rw [← Hw1.out]; exact rdS_one w (ge 5 (by decide)) (0, 5) rfl
  have hS2 : RdS w2 (0, 5) (.slice (some ⟨w1.heap.size, 0, none⟩) 1 1) (some [ge 7 (by decide)]) := by rw [← Hw2.out]; exact rdS_one w1 (ge 7 (by decide)) (0, 5) rfl
  have hB1 : Below w.heap.size w w1 := by rw [← Hw1.out]; exact (Below.refl _ w).alloc (Nat.le_refl _) _
  have hB2 : Below w1.heap.size w1 w2 := by rw [← Hw2.out]; exact (Below.refl _ w1).alloc (Nat.le_refl _) _
  have hs1 : w1.heap.size = w.heap.size + 1 := by rw [← Hw1.out]; simp
  obtain ⟨w3, Hw3⟩ : ∃ w3, Hid (w2.alloc (.cells #[.slice (some ⟨w.heap.size, 0, none⟩) 1 1, .slice (some ⟨w.heap.size + 1, 0, none⟩) 1 1] 33) = w3) := ⟨_, ⟨rfl⟩⟩
  have hB3 : Below w2.heap.size w2 w3 := by rw [← Hw3.out]; exact (Below.refl _ w2).alloc (Nat.le_refl _) _
  have HB3 : Hid (Below w.heap.size w w3) := ⟨(hB1.trans (hB2.mono hB1.size)).trans (hB3.mono (hB1.trans (hB2.mono hB1.size)).size)⟩
  have hR3 : RdR w3 (0, 5) (.slice (some ⟨w2.heap.size, 0, none⟩) 2 2) l57 := by
    have hx : w3.heap[w2.heap.size]? = some (.cells #[.slice (some ⟨w.heap.size, 0, none⟩) 1 1, .slice (some ⟨w.heap.size + 1, 0, none⟩) 1 1] 33 (0, 0)) := by rw [← Hw3.out]; exact heap_alloc_new w2 _
    refine ⟨[.slice (some ⟨w.heap.size, 0, none⟩) 1 1, .slice (some ⟨w.heap.size + 1, 0, none⟩) 1 1], ⟨some ⟨w2.heap.size, 0, none⟩, 2, rfl, Nat.le_refl _, by decide, by simp, ?_⟩, ?_⟩
    · intro ad e i hi
      cases e
      rw [add_plain, Nat.zero_add, cell_of_row _ _ _ _ _ _ hx]
      match i, hi with
      | 0, _ => rfl
      | 1, _ => rfl
    · refine ⟨rfl, fun i hi => ?_⟩
      match i, hi with
      | 0, _ => exact ⟨_, rfl, (hS1.below hB2).below hB3⟩
      | 1, _ => exact ⟨_, rfl, by rw [hs1] at hS2; exact hS2.below hB3⟩
  have t1 : Calls Try.prog 11 #[.slice (some ⟨w2.heap.size, 0, none⟩) 2 2, .int .i64 1] w3 fun e w' => ∃ a n c, e = .returned (.tuple #[.slice a n c, .int .i64 0]) ∧ OwnR w' (0, 5) w3.heap.size (.slice a n c) ((List.range 1).map (encS l57)) ∧ Below w3.heap.size w3 w' :=
    enc_ok _ l57 1 hR3 (by decide) (by decide) (fun i hi => by
      match i, hi with
      | 0, _ => exact (by decide : (1 : Nat) ≤ 4096)
      | 1, _ => exact (by decide : (1 : Nat) ≤ 4096)) (by decide)
  rw [show (List.range 1).map (encS l57) = [some [ge 1 (by decide)]] by rw [← l57_enc]; rfl] at t1
  have Hs2 : Hid (w2.heap.size = w.heap.size + 2) := ⟨by rw [← Hw2.out, World.size_alloc, hs1]⟩
  rw [Hs2.out] at t1
  have Hww : Hid (((w.alloc (.cells #[.int .u8 5] 5)).alloc (.cells #[.int .u8 7] 5)).alloc (.cells #[.slice (some ⟨w.heap.size, 0, none⟩) 1 1, .slice (some ⟨w.heap.size + 1, 0, none⟩) 1 1] 33) = w3) := ⟨by rw [Hw1.out, Hw2.out, Hw3.out]⟩
  clear hS1 hS2 hB1 hB2 hB3 hs1 hR3
  go_enter Try.func10, Try.ntmps10
  go_wp2_with fail
  rw [Hww.out]
  refine t1.mono ?_
  rintro e w4 ⟨a, n, c, rfl, hO, hB⟩
  have HB4 : Hid (Below w.heap.size w w4) := ⟨HB3.out.trans (hB.mono HB3.out.size)⟩
  obtain ⟨b, off, cap, e, _, hc⟩ := hO.rd.at (i := 0) (by decide)
  simp only [Value.slice.injEq] at e
  obtain ⟨rfl, rfl, rfl⟩ := e
  obtain ⟨sa, sc, c1, _, _, _, hs⟩ := hc 0 (by decide)
  obtain ⟨b2, off2, cap2, e, _, hc2⟩ := hs.rd.at (i := 0) (by decide)
  simp only [Value.slice.injEq] at e
  obtain ⟨rfl, -, rfl⟩ := e
  have c2 := hc2 0 (by decide)
  have c1' : w4.cell? ⟨b, off, none⟩ = some (.slice (some ⟨b2, off2, none⟩) 1 sc) := c1
  have c2' : w4.cell? ⟨b2, off2, none⟩ = some (.int .u8 1) := c2
  show _
  simp only [List.length_cons, List.length_nil]
  clear t1 hO hB hc hs hc2 c1 c2
  go_wp2_with fail
  go_ret
  exact ⟨rfl, HB4.out⟩
end
end Go.Proofs.Ytbdmbhpmbklaiaa
