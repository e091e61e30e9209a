/- The walk of ParityChecks. -/
import Derived.Test.YtbdmbhpmbklaiaaX10
import Derived.Test.YtbdmbhpmbklaiaaW1
namespace Go.Proofs.Ytbdmbhpmbklaiaa
open Go.RowKit Gf

section
variable {w : World}
set_option maxHeartbeats 8000000 in
set_option maxRecDepth 100000 in
theorem checks5 (v : Value) (L : List Sd) (m : Int) (hv : ShV w v L) (hm : -9223372036854775808 ≤ m ∧ m ≤ 9223372036854775807) : Calls Try.prog 5 #[v, .int .i64 m] w fun e w' => e = .returned (.bool true) ∧ Below w.heap.size w w' := by
  have t1 := few9 (w := w) v L 200 hv.rd (by decide)
  have HV := Hid.mk hv.rd
  have T2 : Hid (L.length ≤ 81 → (∀ i, i < L.length → (sl (L.getD i none)).length ≤ 200) → ∀ W, Below w.heap.size w W → (Calls Try.prog 16 #[v, .int .i64 m] W fun e w' => e = .returned (.tuple #[.bool (ckA L m).1, .int .i64 (ckA L m).2]) ∧ Below W.heap.size W w') ∧ (Calls Try.prog 17 #[v, .int .i64 m] W fun e w' => e = .returned (.tuple #[.bool (ckA L m).1, .int .i64 (ckA L m).2]) ∧ Below W.heap.size W w') ∧ (Calls Try.prog 18 #[v, .int .i64 m] W fun e w' => e = .returned (.tuple #[.int .i64 (lcA L m).1, .int .i64 (lcA L m).2]) ∧ Below W.heap.size W w') ∧ (Calls Try.prog 19 #[v, .int .i64 m] W fun e w' => e = .returned (.tuple #[.int .i64 (lcA L m).1, .int .i64 (lcA L m).2]) ∧ Below W.heap.size W w')) := ⟨fun h1 h2 W hW => by
    have h4 : ∀ i, i < L.length → (sl (L.getD i none)).length ≤ 4096 := fun i hi => Nat.le_trans (h2 i hi) (by decide)
    have hl : L.length ≤ 1000000 := by omega
    exact ⟨check16 v L m (HV.out.below hW) hl h4, rcheck17 v L m (HV.out.below hW) hl hm h4, loc18 v L m (HV.out.below hW) hl h4, rloc19 v L m (HV.out.below hW) hl hm h4⟩⟩
  generalize ckA L m = C at T2
  generalize lcA L m = D at T2
  obtain ⟨c1, c2⟩ := C
  obtain ⟨d1, d2⟩ := D
  simp only at T2
  obtain ⟨va, vc, rfl, _⟩ := hv.rd.shape
  obtain ⟨n, Hn⟩ : ∃ n, Hid (L.length = n) := ⟨_, ⟨rfl⟩⟩
  rw [Hn.out] at t1 T2 ⊢
  clear hv HV
  go_enter Try.func5, Try.ntmps5
  go_wp2_with fail
  refine t1.mono ?_
  rintro e wx ⟨u, rfl, hu, rfl⟩
  obtain ⟨z, rfl, hz⟩ := hu
  have HZ := Hid.mk hz
  clear t1 hz
  cases z with
  | false =>
    clear HZ
    go_wp2_with fail
    refine (live10 (w := w)).mono ?_
    rintro e w1 ⟨rfl, hb⟩
    have HB := Hid.mk hb
    clear hb
    go_wp2_with fail
    go_ret
    exact ⟨rfl, HB.out⟩
  | true =>
    obtain ⟨hA, hB⟩ := HZ.out rfl
    rw [Hn.out] at hA hB
    have HT := Hid.mk (T2.out hA hB)
    clear T2 HZ hB
    go_wp2_with fail
    refine (HT.out w (Below.refl _ _)).1.mono ?_
    rintro e w1 ⟨rfl, hb1⟩
    have HB1 := Hid.mk hb1
    clear hb1
    go_wp2_with fail
    refine (HT.out w1 HB1.out).2.1.mono ?_
    rintro e w2 ⟨rfl, hb2⟩
    have HB2 : Hid (Below w.heap.size w w2) := ⟨HB1.out.trans (hb2.mono HB1.out.size)⟩
    clear hb2
    have hcc : (c1 != c1) = false := by simp
    by_cases h16 : 16 < n
    · have h16z : (16 : Int) < (n : Int) := by omega
      go_wp2_with fail
      refine (live10 (w := w2)).mono ?_
      rintro e w3 ⟨rfl, hb3⟩
      have HB3 : Hid (Below w.heap.size w w3) := ⟨HB2.out.trans (hb3.mono HB2.out.size)⟩
      clear hb3
      go_wp2_with fail
      go_ret
      exact ⟨rfl, HB3.out⟩
    · have h16z : ¬ (16 : Int) < (n : Int) := by omega
      go_wp2_with fail
      refine (HT.out w2 HB2.out).2.2.1.mono ?_
      rintro e w3 ⟨rfl, hb3⟩
      have HB3 : Hid (Below w.heap.size w w3) := ⟨HB2.out.trans (hb3.mono HB2.out.size)⟩
      clear hb3
      go_wp2_with fail
      refine (HT.out w3 HB3.out).2.2.2.mono ?_
      rintro e w4 ⟨rfl, hb4⟩
      have HB4 : Hid (Below w.heap.size w w4) := ⟨HB3.out.trans (hb4.mono HB3.out.size)⟩
      clear hb4
      go_wp2_with fail
      refine (live10 (w := w4)).mono ?_
      rintro e w5 ⟨rfl, hb5⟩
      have HB5 : Hid (Below w.heap.size w w5) := ⟨HB4.out.trans (hb5.mono HB4.out.size)⟩
      clear hb5
      go_wp2_with fail
      go_ret
      exact ⟨rfl, HB5.out⟩
end
theorem walk_parityChecks (v : Value) (L : List Sd) (m : Int) (W : World) (hv : ShV W v L) (w1 : (Lit.int .i64 m).wf = true) : Calls Try.prog 5 #[v, .int .i64 m] W fun e w' => e = .returned (.bool true) ∧ Below W.heap.size W w' := checks5 v L m hv (i64_in2 w1)
end Go.Proofs.Ytbdmbhpmbklaiaa
