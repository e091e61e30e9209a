/- The walks of ParityEncodes and ParityRepairs. -/
import Derived.Test.YtbdmbhpmbklaiaaT6
import Derived.Test.YtbdmbhpmbklaiaaFr
namespace Go.Proofs.Ytbdmbhpmbklaiaa
open Go.RowKit Gf

theorem smR_self (A : List Sd) : smR A A = true := decide_eq_true rfl
section
variable {w : World}
set_option maxHeartbeats 8000000 in
set_option maxRecDepth 100000 in
theorem encodes3 (v : Value) (L : List Sd) (m : Int) (hv : ShV w v L) (_hm : -9223372036854775808 ≤ m ∧ m ≤ 9223372036854775807) : Calls Try.prog 3 #[v, .int .i64 m] w fun e w' => e = .returned (.bool true) ∧ Below w.heap.size w w' := by
  have t1 := few9 (w := w) v L 400 hv.rd (by decide)
  have HV := Hid.mk hv.rd
  have T2 : Hid (L.length ≤ 81 → (∀ i, i < L.length → (sl (L.getD i none)).length ≤ 400) → Calls Try.prog 11 #[v, .int .i64 m] w fun e w' => ∃ a n c z, e = .returned (.tuple #[.slice a n c, .int .i64 z]) ∧ ResV w' (encE L m) ((List.range m.toNat).map (encS L)) (.slice a n c) z ∧ Below w.heap.size w w') := ⟨fun h1 h2 => (enc11 v L m HV.out (by omega) (fun i hi => Nat.le_trans (h2 i hi) (by decide))).mono fun e w' h => by
    obtain ⟨a, n, c, z, h3, h4, h5⟩ := h
    exact ⟨a, n, c, z, h3, h4, h5⟩⟩
  have T3 : Hid (∀ W, Below w.heap.size w W → L.length ≤ 81 → (∀ i, i < L.length → (sl (L.getD i none)).length ≤ 400) → Calls Try.prog 12 #[v, .int .i64 m] W fun e w' => ∃ a n c z, e = .returned (.tuple #[.slice a n c, .int .i64 z]) ∧ ResV w' (encE L m) ((List.range m.toNat).map (encS L)) (.slice a n c) z ∧ Below W.heap.size W w') := ⟨fun W hW h1 h2 => (renc12 v L m (HV.out.below hW) (by omega) (fun i hi => Nat.le_trans (h2 i hi) (by decide))).mono fun e w' h => by
    obtain ⟨a, n, c, z, h3, h4, h5⟩ := h
    exact ⟨a, n, c, z, h3, h4, h5⟩⟩
  have HML : Hid (L.length ≤ 81 → ((List.range m.toNat).map (encS L)).length ≤ 1000000 ∨ encE L m ≠ 0) := ⟨fun h => by
    by_cases hz : encE L m = 0
    · left
      obtain ⟨_, ⟨n, rfl, hn⟩, _⟩ := enc_parts hz
      simp; omega
    · exact .inr hz⟩
  obtain ⟨M, HM⟩ : ∃ M, Hid ((List.range m.toNat).map (encS L) = M) := ⟨_, ⟨rfl⟩⟩
  obtain ⟨cd, Hcd⟩ : ∃ M, Hid (encE L m = M) := ⟨_, ⟨rfl⟩⟩
  rw [HM.out, Hcd.out] at T2 T3 HML
  obtain ⟨va, vc, rfl, _⟩ := hv.rd.shape
  obtain ⟨n, Hn⟩ : ∃ n, Hid (L.length = n) := ⟨_, ⟨rfl⟩⟩
  rw [Hn.out] at t1 T2 T3 HML ⊢
  clear hv HV
  go_enter Try.func3, Try.ntmps3
  go_wp2_with fail
  refine t1.mono ?_
  rintro e wx ⟨u, rfl, hu, rfl⟩
  obtain ⟨z, rfl, hz⟩ := hu
  have HZ := Hid.mk hz
  clear t1 hz
  cases z with
  | false =>
    clear HZ
    go_wp2_with fail
    refine (live10 (w := w)).mono ?_
    rintro e w1 ⟨rfl, hb⟩
    have HB := Hid.mk hb
    clear hb
    go_wp2_with fail
    go_ret
    exact ⟨rfl, HB.out⟩
  | true =>
    obtain ⟨hA, hB⟩ := HZ.out rfl
    rw [Hn.out] at hA hB
    have t2 := T2.out hA hB
    have HT3 : Hid (∀ W, Below w.heap.size w W → Calls Try.prog 12 #[.slice va n vc, .int .i64 m] W fun e w' => ∃ a n c z, e = .returned (.tuple #[.slice a n c, .int .i64 z]) ∧ ResV w' cd M (.slice a n c) z ∧ Below W.heap.size W w') := ⟨fun W hW => T3.out W hW hA hB⟩
    have HMl := Hid.mk (HML.out hA)
    clear T2 T3 HML HZ hA hB
    go_wp2_with fail
    refine t2.mono ?_
    rintro e w1 ⟨a1, n1, c1, z1, rfl, hr1, hb1⟩
    have HR1 := Hid.mk hr1
    have HB1 := Hid.mk hb1
    clear t2 hr1 hb1
    go_wp2_with fail
    refine (HT3.out w1 HB1.out).mono ?_
    rintro e w2 ⟨a2, n2, c2, z2, rfl, hr2, hb2⟩
    have HR2 := Hid.mk hr2
    have HC2 := Hid.mk hb2
    have HB2 : Hid (Below w.heap.size w w2) := ⟨HB1.out.trans (hb2.mono HB1.out.size)⟩
    clear hr2 hb2
    have ez : z1 = z2 := by rw [HR1.out.1, HR2.out.1]
    subst ez
    go_wp2_with fail
    refine (live10 (w := w2)).mono ?_
    rintro e w3 ⟨rfl, hb3⟩
    have HC3 := Hid.mk hb3
    have HB3 : Hid (Below w.heap.size w w3) := ⟨HB2.out.trans (hb3.mono HB2.out.size)⟩
    clear hb3
    have t4 : Calls Try.prog 13 #[.slice a1 n1 c1, .slice a2 n2 c2] w3 fun e w' => e = .returned (.bool true) ∧ Below w3.heap.size w3 w' := by
      by_cases h0 : z1 = 0
      · have hl : M.length ≤ 1000000 := by
          rcases HMl.out with h | h
          · exact h
          · exact absurd (HR1.out.1.symm.trans h0) h
        have := rsame13 (w := w3) _ _ M M (((HR1.out.2.2 h0).below HC2.out).below HC3.out) ((HR2.out.2.2 h0).below HC3.out) hl hl
        rwa [smR_self] at this
      · have e1 := HR1.out.2.1 h0
        have e2 := HR2.out.2.1 h0
        rw [e1, e2]
        exact rsame13 (w := w3) _ _ [] [] (B := (0, 5)) (B' := (0, 5)) (OwnR.nil _ _ 0).rd (OwnR.nil _ _ 0).rd (by decide) (by decide)
    go_wp2_with fail
    refine t4.mono ?_
    rintro e w4 ⟨rfl, hb4⟩
    have HB4 : Hid (Below w.heap.size w w4) := ⟨HB3.out.trans (hb4.mono HB3.out.size)⟩
    clear t4 hb4
    go_wp2_with fail
    go_ret
    exact ⟨rfl, HB4.out⟩
set_option maxHeartbeats 8000000 in
set_option maxRecDepth 100000 in
theorem repairs4 (v : Value) (L : List Sd) (m : Int) (hv : ShV w v L) (hm : -9223372036854775808 ≤ m ∧ m ≤ 9223372036854775807) : Calls Try.prog 4 #[v, .int .i64 m] w fun e w' => e = .returned (.bool true) ∧ Below w.heap.size w w' := by
  have t1 := few9 (w := w) v L 400 hv.rd (by decide)
  have HV := Hid.mk hv.rd
  have T2 : Hid (L.length ≤ 81 → (∀ i, i < L.length → (sl (L.getD i none)).length ≤ 400) → Calls Try.prog 14 #[v, .int .i64 m] w fun e w' => ∃ a n c z, e = .returned (.tuple #[.slice a n c, .int .i64 z]) ∧ ResV w' (chkE L m) ((List.range L.length).map (repS L m.toNat)) (.slice a n c) z ∧ Below w.heap.size w w') := ⟨fun h1 h2 => (rep14 v L m HV.out (by omega) (fun i hi => Nat.le_trans (h2 i hi) (by decide))).mono fun e w' h => by
    obtain ⟨a, n, c, z, h3, h4, h5⟩ := h
    exact ⟨a, n, c, z, h3, h4.res, h5⟩⟩
  have T3 : Hid (∀ W, Below w.heap.size w W → L.length ≤ 81 → (∀ i, i < L.length → (sl (L.getD i none)).length ≤ 400) → Calls Try.prog 15 #[v, .int .i64 m] W fun e w' => ∃ a n c z, e = .returned (.tuple #[.slice a n c, .int .i64 z]) ∧ ResV w' (chkE L m) ((List.range L.length).map (repS L m.toNat)) (.slice a n c) z ∧ Below W.heap.size W w') := ⟨fun W hW h1 h2 => (rrep15 v L m (HV.out.below hW) (by omega) hm (fun i hi => Nat.le_trans (h2 i hi) (by decide))).mono fun e w' h => by
    obtain ⟨a, n, c, z, h3, h4, h5⟩ := h
    exact ⟨a, n, c, z, h3, h4.res, h5⟩⟩
  have HML : Hid (L.length ≤ 81 → ((List.range L.length).map (repS L m.toNat)).length ≤ 1000000 ∨ chkE L m ≠ 0) := ⟨fun h => by
    by_cases hz : chkE L m = 0
    · left
      simp; omega
    · exact .inr hz⟩
  obtain ⟨M, HM⟩ : ∃ M, Hid ((List.range L.length).map (repS L m.toNat) = M) := ⟨_, ⟨rfl⟩⟩
  obtain ⟨cd, Hcd⟩ : ∃ M, Hid (chkE L m = M) := ⟨_, ⟨rfl⟩⟩
  rw [HM.out, Hcd.out] at T2 T3 HML
  obtain ⟨va, vc, rfl, _⟩ := hv.rd.shape
  obtain ⟨n, Hn⟩ : ∃ n, Hid (L.length = n) := ⟨_, ⟨rfl⟩⟩
  rw [Hn.out] at t1 T2 T3 HML ⊢
  clear hv HV
  go_enter Try.func4, Try.ntmps4
  go_wp2_with fail
  refine t1.mono ?_
  rintro e wx ⟨u, rfl, hu, rfl⟩
  obtain ⟨z, rfl, hz⟩ := hu
  have HZ := Hid.mk hz
  clear t1 hz
  cases z with
  | false =>
    clear HZ
    go_wp2_with fail
    refine (live10 (w := w)).mono ?_
    rintro e w1 ⟨rfl, hb⟩
    have HB := Hid.mk hb
    clear hb
    go_wp2_with fail
    go_ret
    exact ⟨rfl, HB.out⟩
  | true =>
    obtain ⟨hA, hB⟩ := HZ.out rfl
    rw [Hn.out] at hA hB
    have t2 := T2.out hA hB
    have HT3 : Hid (∀ W, Below w.heap.size w W → Calls Try.prog 15 #[.slice va n vc, .int .i64 m] W fun e w' => ∃ a n c z, e = .returned (.tuple #[.slice a n c, .int .i64 z]) ∧ ResV w' cd M (.slice a n c) z ∧ Below W.heap.size W w') := ⟨fun W hW => T3.out W hW hA hB⟩
    have HMl := Hid.mk (HML.out hA)
    clear T2 T3 HML HZ hA hB
    go_wp2_with fail
    refine t2.mono ?_
    rintro e w1 ⟨a1, n1, c1, z1, rfl, hr1, hb1⟩
    have HR1 := Hid.mk hr1
    have HB1 := Hid.mk hb1
    clear t2 hr1 hb1
    go_wp2_with fail
    refine (HT3.out w1 HB1.out).mono ?_
    rintro e w2 ⟨a2, n2, c2, z2, rfl, hr2, hb2⟩
    have HR2 := Hid.mk hr2
    have HC2 := Hid.mk hb2
    have HB2 : Hid (Below w.heap.size w w2) := ⟨HB1.out.trans (hb2.mono HB1.out.size)⟩
    clear hr2 hb2
    have ez : z1 = z2 := by rw [HR1.out.1, HR2.out.1]
    subst ez
    go_wp2_with fail
    refine (live10 (w := w2)).mono ?_
    rintro e w3 ⟨rfl, hb3⟩
    have HC3 := Hid.mk hb3
    have HB3 : Hid (Below w.heap.size w w3) := ⟨HB2.out.trans (hb3.mono HB2.out.size)⟩
    clear hb3
    have t4 : Calls Try.prog 13 #[.slice a1 n1 c1, .slice a2 n2 c2] w3 fun e w' => e = .returned (.bool true) ∧ Below w3.heap.size w3 w' := by
      by_cases h0 : z1 = 0
      · have hl : M.length ≤ 1000000 := by
          rcases HMl.out with h | h
          · exact h
          · exact absurd (HR1.out.1.symm.trans h0) h
        have := rsame13 (w := w3) _ _ M M (((HR1.out.2.2 h0).below HC2.out).below HC3.out) ((HR2.out.2.2 h0).below HC3.out) hl hl
        rwa [smR_self] at this
      · have e1 := HR1.out.2.1 h0
        have e2 := HR2.out.2.1 h0
        rw [e1, e2]
        exact rsame13 (w := w3) _ _ [] [] (B := (0, 5)) (B' := (0, 5)) (OwnR.nil _ _ 0).rd (OwnR.nil _ _ 0).rd (by decide) (by decide)
    go_wp2_with fail
    refine t4.mono ?_
    rintro e w4 ⟨rfl, hb4⟩
    have HB4 : Hid (Below w.heap.size w w4) := ⟨HB3.out.trans (hb4.mono HB3.out.size)⟩
    clear t4 hb4
    go_wp2_with fail
    go_ret
    exact ⟨rfl, HB4.out⟩
end
theorem i64_in2 {z : Int} (h : (Lit.int .i64 z).wf = true) : -9223372036854775808 ≤ z ∧ z ≤ 9223372036854775807 := by
  have hb : IntKind.i64.min ≤ z ∧ z ≤ 9223372036854775807 := by simpa [Lit.wf] using h
  have hm : IntKind.i64.min = -9223372036854775808 := by decide
  omega
theorem walk_parityEncodes (v : Value) (L : List Sd) (m : Int) (W : World) (hv : ShV W v L) (w1 : (Lit.int .i64 m).wf = true) : Calls Try.prog 3 #[v, .int .i64 m] W fun e w' => e = .returned (.bool true) ∧ Below W.heap.size W w' := encodes3 v L m hv (i64_in2 w1)
theorem walk_parityRepairs (v : Value) (L : List Sd) (m : Int) (W : World) (hv : ShV W v L) (w1 : (Lit.int .i64 m).wf = true) : Calls Try.prog 4 #[v, .int .i64 m] W fun e w' => e = .returned (.bool true) ∧ Below W.heap.size W w' := repairs4 v L m hv (i64_in2 w1)
end Go.Proofs.Ytbdmbhpmbklaiaa
