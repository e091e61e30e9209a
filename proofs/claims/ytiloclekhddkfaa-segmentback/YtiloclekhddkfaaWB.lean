/- The walk of SegmentBack. -/
import Derived.Test.YtiloclekhddkfaaP3
namespace Go.Proofs.Ytiloclekhddkfaa
open Go.RowKit Go.Lib

theorem tkRef_no {bs : List Int} {i c : Int} (h : tkRef bs i = .error c) : c ≠ 0 := by
  unfold tkRef at h
  split at h
  · cases h; decide
  split at h
  · rename_i h1; cases h; exact (nm_no h1).elim fun _ q => q.elim fun _ z => z.2
  split at h
  · rename_i h1; cases h; exact (nm_no h1).elim fun _ q => q.elim fun _ z => z.2
  split at h
  · rename_i h1; cases h; exact (nm_no h1).elim fun _ q => q.elim fun _ z => z.2
  split at h
  · cases h
  · cases h; decide
theorem tkRefs_no {bs : List Int} : ∀ (n : Nat) (i c : Int), tkRefs bs n i = .error c → c ≠ 0
  | 0, i, c, h => by rw [tkRefs] at h; cases h
  | n + 1, i, c, h => by
    rw [tkRefs] at h
    split at h
    · rename_i h1; cases h; exact tkRef_no h1
    split at h
    · rename_i h1; cases h; exact tkRefs_no n _ _ h1
    · cases h
theorem takeF_no {bs : List Int} {c : Int} (h : takeF bs = .error c) : c ≠ 0 := by
  unfold takeF at h
  split at h
  · rename_i h1; cases h; exact (nm_no h1).elim fun _ q => q.elim fun _ z => z.2
  split at h
  · cases h; decide
  split at h
  · rename_i h1; cases h; exact tkRefs_no _ _ _ h1
  split at h
  · cases h; decide
  · cases h
theorem nums_byte (ns : List Int) : ∀ x ∈ nums ns, 0 ≤ x ∧ x < 256 := by
  intro x hx
  unfold nums at hx
  obtain ⟨l, hl, hx⟩ := List.mem_flatten.1 hx
  obtain ⟨n, _, rfl⟩ := List.mem_map.1 hl
  exact Oct.numB_byte _ x hx
theorem putR_byte {L : List Rf} (hs : ∀ r ∈ L, Sm r.s) : ∀ x ∈ (putR L).1, 0 ≤ x ∧ x < 256 := by
  intro x hx
  unfold putR at hx
  split at hx
  · cases hx
  split at hx
  · rcases List.mem_append.1 hx with q | q
    · exact Oct.numB_byte _ x q
    · unfold refsB at q
      obtain ⟨l, hl, hx⟩ := List.mem_flatten.1 q
      obtain ⟨r, hr, rfl⟩ := List.mem_map.1 hl
      rcases List.mem_append.1 hx with z | z
      · exact (hs r hr).byte x z
      · exact nums_byte _ x z
  · cases hx
theorem putR_len {L : List Rf} (hs : ∀ r ∈ L, Sm r.s) : (putR L).1.length ≤ 100000 := by
  unfold putR
  split
  · simp
  rename_i h64
  split
  · rename_i ha
    have h1 := refsB_len L (fun r hr => ⟨hs r hr, List.all_eq_true.1 ha r hr⟩)
    have h2 := Oct.numB_len8 L.length (by omega)
    simp only [List.length_append]
    omega
  · simp
theorem putR_ok {L : List Rf} (h : (putR L).2 = 0) : L.length ≤ 64 := by
  unfold putR at h
  split at h
  · simp at h
  · omega
section
variable {w : World}
set_option maxHeartbeats 4000000 in
set_option maxRecDepth 100000 in
theorem walk_back (v u : Value) (L : List Rf) (bs : List Int) (h : RdR w v L) (hL : L.length ≤ 10000000000000) (hu : Oct.Bs w u bs) (hby : ∀ x ∈ bs, 0 ≤ x ∧ x < 256) (hl : bs.length ≤ 1000000000000000) : Calls Try.prog 8 #[v, u] w fun e w' => e = .returned (.bool true) ∧ Below w.heap.size w w' := by
  have H := Hid.mk h
  have HU := Hid.mk hu
  have t1 := put_any v L h hL
  have Hpb := Hid.mk (putR_byte h.sums)
  have Hpl := Hid.mk (putR_len h.sums)
  have Htp : Hid ((putR L).2 = 0 → takeF (putR L).1 = .ok L) := ⟨take_put h.sums⟩
  generalize putR L = PR at t1 Hpb Hpl Htp
  obtain ⟨PB, pc⟩ := PR
  simp only at t1 Hpb Hpl Htp
  have Hpt : Hid (∀ M, takeF bs = .ok M → putR M = (bs, 0)) := ⟨fun M hM => put_take hby hM⟩
  have Hno : Hid (∀ c, takeF bs = .error c → c ≠ 0) := ⟨fun c hc => takeF_no hc⟩
  have t3' := fun (wx : World) (hx : Oct.Bs wx u bs) => take_any (w := wx) hx hby hl
  generalize takeF bs = Y at Hpt Hno t3'
  obtain ⟨X1, HX1⟩ : ∃ X, Hid (takeF PB = X) := ⟨_, ⟨rfl⟩⟩
  rw [HX1.out] at Htp
  obtain ⟨nL, HnL⟩ : ∃ n, Hid (L.length = n) := ⟨_, ⟨rfl⟩⟩
  obtain ⟨av, cv, rfl, _⟩ := h.shape
  obtain ⟨nb, Hnb⟩ : ∃ n, Hid (bs.length = n) := ⟨_, ⟨rfl⟩⟩
  obtain ⟨au, cu, rfl, _⟩ := hu
  rw [HnL.out] at H t1 hL ⊢
  rw [Hnb.out] at HU hl ⊢
  simp only [Hnb.out] at t3'
  clear h
  go_enter Try.func8, Try.ntmps8
  go_upto_region 2 with (go_at_call 22; refine t1.mono ?_; rintro e w1 ⟨v1, rfl, hO1, hb1⟩)
  have HB1 := Hid.mk hb1
  have HY1 : Hid (Oct.Bs w1 v1 PB) := ⟨Oct.OwnB.bs hO1⟩
  have t2 := take_any (w := w1) HY1.out Hpb.out (by have := Hpl.out; omega)
  rw [HX1.out] at t2
  obtain ⟨xc, Hxc⟩ : ∃ c, Hid (tkC X1 = c) := ⟨_, ⟨rfl⟩⟩
  rw [Hxc.out] at t2
  obtain ⟨a1, c1, e1, _⟩ := hO1.shape
  subst e1
  obtain ⟨n1, Hn1⟩ : ∃ n, Hid (PB.length = n) := ⟨_, ⟨rfl⟩⟩
  rw [Hn1.out] at t2 ⊢
  clear hO1 hb1 t1
  go_upto_region 3 with (go_at_call 24; refine t2.mono ?_; rintro e w2 ⟨v2, rfl, hO2, hs2, hb2⟩)
  have HB2 : Hid (Below w.heap.size w w2) := ⟨HB1.out.trans (hb2.mono HB1.out.size)⟩
  have HO2 := Hid.mk hO2
  have Hs2 := Hid.mk hs2
  have t3 := t3' w2 (HU.out.below HB2.out)
  obtain ⟨yc, Hyc⟩ : ∃ c, Hid (tkC Y = c) := ⟨_, ⟨rfl⟩⟩
  rw [Hyc.out] at t3
  obtain ⟨a2, c2, e2, _⟩ := (hO2.rd r0).shape
  subst e2
  obtain ⟨n2, Hn2⟩ : ∃ n, Hid ((tkL X1).length = n) := ⟨_, ⟨rfl⟩⟩
  rw [Hn2.out] at HO2 ⊢
  clear hO2 hs2 hb2 t2 t3'
  go_upto_region 4 with (go_at_call 24; refine t3.mono ?_; rintro e w3 ⟨v3, rfl, hO3, hs3, hb3⟩)
  have HB3 : Hid (Below w.heap.size w w3) := ⟨HB2.out.trans (hb3.mono HB2.out.size)⟩
  have HO23 : Hid (OwnE rc 35 28 w3 w1.heap.size (.slice a2 n2 c2) (tkL X1)) := ⟨HO2.out.far (Chg.ofBelow (X := []) hb3) (by simp)⟩
  have hlen3 : (tkL Y).length ≤ 64 := by
    cases Y with
    | error c => simp [tkL]
    | ok M => exact putR_ok (by show (putR M).2 = 0; rw [Hpt.out M rfl])
  have t4 := put_any (w := w3) v3 (tkL Y) ((hO3.rd r0).toR hs3) (by omega)
  obtain ⟨P4, HP4⟩ : ∃ P, Hid (putR (tkL Y) = P) := ⟨_, ⟨rfl⟩⟩
  rw [HP4.out] at t4
  obtain ⟨P4b, P4c⟩ := P4
  simp only at t4
  obtain ⟨a3, c3, e3, _⟩ := (hO3.rd r0).shape
  subst e3
  obtain ⟨n3, Hn3⟩ : ∃ n, Hid ((tkL Y).length = n) := ⟨_, ⟨rfl⟩⟩
  rw [Hn3.out] at t4 ⊢
  clear hO3 hs3 hb3 t3 hlen3 HO2
  go_upto_region 5 with (go_at_call 22; refine t4.mono ?_; rintro e w4 ⟨v4, rfl, hO4, hb4⟩)
  have HB4 : Hid (Below w.heap.size w w4) := ⟨HB3.out.trans (hb4.mono HB3.out.size)⟩
  have HO24 : Hid (OwnE rc 35 28 w4 w1.heap.size (.slice a2 n2 c2) (tkL X1)) := ⟨HO23.out.far (Chg.ofBelow (X := []) hb4) (by simp)⟩
  have HY4 : Hid (Oct.Bs w4 v4 P4b) := ⟨Oct.OwnB.bs hO4⟩
  obtain ⟨a4, c4, e4, _⟩ := hO4.shape
  subst e4
  obtain ⟨n4, Hn4⟩ : ∃ n, Hid (P4b.length = n) := ⟨_, ⟨rfl⟩⟩
  rw [Hn4.out] at HY4 ⊢
  clear hO4 hb4 t4
  go_wp2_with fail
  refine (live_any (w := w4)).mono ?_
  rintro e w5 ⟨rfl, hb5⟩
  have HB5 : Hid (Below w.heap.size w w5) := ⟨HB4.out.trans (hb5.mono HB4.out.size)⟩
  have HO25 : Hid (OwnE rc 35 28 w5 w1.heap.size (.slice a2 n2 c2) (tkL X1)) := ⟨HO24.out.far (Chg.ofBelow (X := []) hb5) (by simp)⟩
  have HY5 : Hid (Oct.Bs w5 (.slice a4 n4 c4) P4b) := ⟨HY4.out.below hb5⟩
  have HU5 : Hid (Oct.Bs w5 (.slice au nb cu) bs) := ⟨HU.out.below HB5.out⟩
  have HL5 : Hid (RdR w5 (.slice av nL cv) L) := ⟨H.out.below HB5.out⟩
  clear hb5 HY4 HO24 HO23
  have Hend : ∀ wl, Hid (Below w.heap.size w wl) → Hid (Oct.Bs wl (.slice a4 n4 c4) P4b) → Hid (Oct.Bs wl (.slice au nb cu) bs) → Hid (∀ M, Y = .ok M → (convert 42 9 (.slice a4 n4 c4)).run Try.prog wl = (convert 42 9 (.slice au nb cu)).run Try.prog wl ∧ ∃ st, (convert 42 9 (.slice au nb cu)).run Try.prog wl = .ok (.string st) wl) := fun wl _ h1 h2 => ⟨fun M hM => by
    subst hM
    have e := Hpt.out M rfl
    have e2 := HP4.out
    simp only [tkL] at e2
    rw [e] at e2
    have e3 := (Prod.mk.inj e2).1
    have r1 := Oct.run_str Oct.Try.bt h1.out 9 Try.underlying9
    have r2 := Oct.run_str Oct.Try.bt h2.out 9 Try.underlying9
    rw [← e3] at r1
    exact ⟨r1.trans r2.symm, _, r2⟩⟩
  by_cases hpc : pc = 0
  · subst hpc
    have hX1 := Htp.out rfl
    subst hX1
    have hxc : xc = 0 := Hxc.out.symm
    subst hxc
    simp only [tkL] at HO25 Hn2
    have e2 : n2 = nL := by rw [← Hn2.out, HnL.out]
    subst e2
    have t6 := same_yes (w := w5) _ _ L ((HO25.out.rd r0).toR H.out.sums) HL5.out (by rw [HnL.out]; exact hL)
    go_wp2_with fail
    refine t6.mono ?_
    rintro e w6 ⟨rfl, hc6⟩
    have hb6 : Below w5.heap.size w5 w6 := hc6.below (Nat.le_refl _) (by simp)
    have HB6 : Hid (Below w.heap.size w w6) := ⟨HB5.out.trans (hb6.mono HB5.out.size)⟩
    have HE6 := Hend w6 HB6 ⟨HY5.out.below hb6⟩ ⟨HU5.out.below hb6⟩
    clear hc6 hb6 t6 Hend
    cases Y with
    | error c =>
      have hc0 : ¬ yc = 0 := by rw [← Hyc.out]; exact Hno.out c rfl
      clear HE6
      go_wp2_with fail
      go_ret
      exact ⟨rfl, HB6.out⟩
    | ok M =>
      have e := Hpt.out M rfl
      obtain ⟨r1, st, r2⟩ := HE6.out M rfl
      rw [r2] at r1
      have hyc : yc = 0 := Hyc.out.symm
      subst hyc
      have e2 := HP4.out
      simp only [tkL] at e2
      rw [e] at e2
      have e4 : P4c = 0 := (Prod.mk.inj e2).2.symm
      subst e4
      clear e e2
      clear HE6
      go_wp2_with fail
      go_ret
      exact ⟨rfl, HB6.out⟩
  · have HE6 := Hend w5 HB5 HY5 HU5
    clear Hend
    cases Y with
    | error c =>
      have hc0 : ¬ yc = 0 := by rw [← Hyc.out]; exact Hno.out c rfl
      clear HE6
      go_wp2_with fail
      go_ret
      exact ⟨rfl, HB5.out⟩
    | ok M =>
      have e := Hpt.out M rfl
      obtain ⟨r1, st, r2⟩ := HE6.out M rfl
      rw [r2] at r1
      have hyc : yc = 0 := Hyc.out.symm
      subst hyc
      have e2 := HP4.out
      simp only [tkL] at e2
      rw [e] at e2
      have e4 : P4c = 0 := (Prod.mk.inj e2).2.symm
      subst e4
      clear e e2
      clear HE6
      go_wp2_with fail
      go_ret
      exact ⟨rfl, HB5.out⟩
end
end Go.Proofs.Ytiloclekhddkfaa
