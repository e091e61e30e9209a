/- Check: are all shards those of their group? Would the loss of one leave a group? -/
import Derived.Test.YtbdmbhpmbklaiaaX3
namespace Go.Proofs.Ytbdmbhpmbklaiaa
open Go.RowKit Go.Lib Go.Shelf Gf

/-- What checkWhole answers. -/
def chwE (L : List Sd) (k : Int) : Int := if chkE L k ≠ 0 then chkE L k else if L.any pLost then 3 else 0
/-- Is each shard that is there the group's? -/
def isGrp (L : List Sd) (k : Nat) : Bool := decide (∀ i, i < L.length → (L.getD i none).isSome = true → L.getD i none = repS L k i)
theorem WrP.grp {L : List Sd} {k : Nat} {p : Int} {z : Bool} (h : WrP L k p z) : z = !isGrp L k := by
  unfold isGrp
  rcases h with ⟨rfl, _, h⟩ | ⟨rfl, i, j, h1, _, _, h4, h5⟩
  · rw [decide_eq_true h]; rfl
  · rw [decide_eq_false (fun h => h5 (by rw [h i h1 h4]))]; rfl
/-- Would the loss of a shard leave a group of the others? -/
def gwB (L : List Sd) (k i : Nat) : Bool := decide (chkE (L.set i none) (k : Int) = 0) && isGrp (L.set i none) k
theorem set_rows {L : List Sd} {N i : Nat} (h : ∀ j, j < L.length → (sl (L.getD j none)).length ≤ N) (j : Nat) (hj : j < (L.set i none).length) : (sl ((L.set i none).getD j none)).length ≤ N := by
  rw [List.length_set] at hj
  by_cases e : i = j
  · subst e
    simp [List.getD, hj, sl]
  · have := h j hj
    rwa [show (L.set i none).getD j none = L.getD j none by simp only [List.getD]; rw [List.getElem?_set_ne e]]
section
variable {w : World}
set_option maxHeartbeats 4000000 in
set_option maxRecDepth 100000 in
theorem whole30 (v : Value) (L : List Sd) (k : Int) {B : Nat × TypeId} (hv : RdR w B v L) (hl : L.length ≤ 1000000) (h4 : ∀ i, i < L.length → (sl (L.getD i none)).length ≤ 4096) :
    Calls Try.prog 30 #[v, .int .i64 k] w fun e w' => e = .returned (.int .i64 (chwE L k)) ∧ Below w.heap.size w w' := by
  have t1 := checkShards28 (w := w) v L k hv hl h4
  obtain ⟨va, vc, rfl, h1, h2, _⟩ := hv.shape
  have HV0 : Hid (RdR w B (.slice va L.length vc) L) := ⟨hv⟩
  obtain ⟨r, Hr⟩ : ∃ r, Hid (chwE L k = r) := ⟨_, ⟨rfl⟩⟩
  rw [Hr.out]
  obtain ⟨c, Hc⟩ : ∃ r, Hid (chkE L k = r) := ⟨_, ⟨rfl⟩⟩
  rw [Hc.out] at t1
  obtain ⟨n, Hn⟩ : ∃ n, Hid (L.length = n) := ⟨_, ⟨rfl⟩⟩
  rw [Hn.out] at t1 h1 hl HV0 ⊢
  clear hv h4
  by_cases hc : c = 0
  · subst hc
    go_enter Try.func30, Try.ntmps30
    go_wp2_with fail
    refine t1.mono ?_
    rintro e w1 ⟨rfl, hb⟩
    have HB := Hid.mk hb
    clear t1
    have t2 := has_lost (w := w1) _ L pLost (HV0.out.below hb) (by rw [Hn.out]; exact hl) (fun i a c _ he => (isLost44 a _ c).mono (fun e w' h => ⟨h.1.trans (ret_bool (by
      unfold pLost
      cases a with
      | none => rw [he.1 rfl]; rfl
      | some x => cases hq : L.getD i none with
        | none => exact absurd (he.2 hq) (by simp)
        | some y => rfl)), h.2⟩))
    cases hz : L.any pLost with
    | true =>
      rw [hz] at t2
      have HRR : Hid (r = 3) := ⟨by rw [← Hr.out, chwE, Hc.out, if_neg (by simp), hz, if_pos rfl]⟩
      clear hz hb
      go_wp2_with fail
      refine t2.mono ?_
      rintro e wx ⟨rfl, rfl⟩
      clear t2
      go_wp2_with fail
      go_ret
      exact ⟨ret_int HRR.out.symm, HB.out⟩
    | false =>
      rw [hz] at t2
      have HRR : Hid (r = 0) := ⟨by rw [← Hr.out, chwE, Hc.out, if_neg (by simp), hz, if_neg (by simp)]⟩
      clear hz hb
      go_wp2_with fail
      refine t2.mono ?_
      rintro e wx ⟨rfl, rfl⟩
      clear t2
      go_wp2_with fail
      go_ret
      exact ⟨ret_int HRR.out.symm, HB.out⟩
  · have hne : (c != 0) = true := by simpa using hc
    have HR : Hid (r = c) := ⟨by rw [← Hr.out, chwE, Hc.out, if_pos hc]⟩
    clear hc
    go_enter Try.func30, Try.ntmps30
    go_wp2_with fail
    refine t1.mono ?_
    rintro e w1 ⟨rfl, hb⟩
    have HB := Hid.mk hb
    clear t1 hb
    go_wp2_with fail
    go_ret
    exact ⟨ret_int HR.out.symm, HB.out⟩
theorem chw_fine {L : List Sd} {k : Int} (h : chwE L k = 0) : ∃ n : Nat, k = n ∧ Fine L n ∧ ∀ i, i < L.length → (L.getD i none).isSome = true := by
  unfold chwE at h
  split at h
  · rename_i h1; exact absurd h h1
  · rename_i h1
    obtain ⟨n, h2, h3⟩ := fine_of (Classical.not_not.1 h1)
    refine ⟨n, h2, h3, fun i hi => ?_⟩
    cases hz : L.any pLost with
    | true => rw [hz] at h; simp at h
    | false =>
      cases hq : L.getD i none with
      | some y => rfl
      | none => rw [any_some (p := pLost) hi (by rw [hq]; rfl)] at hz; cases hz
set_option maxHeartbeats 4000000 in
set_option maxRecDepth 100000 in
theorem check_no (v : Value) (L : List Sd) (k : Int) {B : Nat × TypeId} (hv : RdR w B v L) (hl : L.length ≤ 1000000) (h4 : ∀ i, i < L.length → (sl (L.getD i none)).length ≤ 4096) (hc : chwE L k ≠ 0) :
    Calls Try.prog 16 #[v, .int .i64 k] w fun e w' => e = .returned (.tuple #[.bool false, .int .i64 (chwE L k)]) ∧ Below w.heap.size w w' := by
  have t1 := whole30 (w := w) v L k hv hl h4
  obtain ⟨va, vc, rfl, h1, h2, _⟩ := hv.shape
  have hne : (chwE L k != 0) = true := by simpa using hc
  generalize chwE L k = r at *
  generalize L.length = n at *
  clear hv h4 hc
  go_enter Try.func16, Try.ntmps16
  go_wp2_with fail
  refine t1.mono ?_
  rintro e w1 ⟨rfl, hb⟩
  have HB := Hid.mk hb
  clear t1 hb
  go_wp2_with fail
  go_ret2
  exact ⟨rfl, HB.out⟩
set_option maxHeartbeats 4000000 in
set_option maxRecDepth 100000 in
theorem check_ok (v : Value) (L : List Sd) (k : Nat) {B : Nat × TypeId} (hv : RdR w B v L) (hl : L.length ≤ 1000000) (h4 : ∀ i, i < L.length → (sl (L.getD i none)).length ≤ 4096) (hc : chwE L (k : Int) = 0) (hF : Fine L k) :
    Calls Try.prog 16 #[v, .int .i64 k] w fun e w' => e = .returned (.tuple #[.bool (isGrp L k), .int .i64 0]) ∧ Below w.heap.size w w' := by
  have t1 := whole30 (w := w) v L k hv hl h4
  rw [hc] at t1
  have HT : Hid (∀ w1, Below w.heap.size w w1 → Calls Try.prog 31 #[v, .int .i64 k] w1 fun e w' => WrV L k e ∧ Below w1.heap.size w1 w') := ⟨fun w1 hb => wrong31 (w := w1) v L k (hv.below hb) h4 hF⟩
  obtain ⟨va, vc, rfl, h1, h2, _⟩ := hv.shape
  obtain ⟨g, Hg⟩ : ∃ g, Hid (isGrp L k = g) := ⟨_, ⟨rfl⟩⟩
  rw [Hg.out]
  have HW : Hid (∀ e, WrV L k e → ∃ p : Int, e = .returned (.tuple #[.int .i64 p, .bool (!g)])) := ⟨fun e h => by
    obtain ⟨p, z, h1, h2⟩ := h
    rw [h2.grp, Hg.out] at h1
    exact ⟨p, h1⟩⟩
  generalize L.length = n at *
  clear hv h4 hc hF
  go_enter Try.func16, Try.ntmps16
  go_wp2_with fail
  refine t1.mono ?_
  rintro e w1 ⟨rfl, hb⟩
  have HB := Hid.mk hb
  have t2 := HT.out w1 hb
  clear t1 hb HT
  go_wp2_with fail
  refine t2.mono ?_
  rintro e w2 ⟨hw, hb2⟩
  obtain ⟨p, rfl⟩ := HW.out e hw
  have HB2 : Hid (Below w.heap.size w w2) := ⟨HB.out.trans (hb2.mono HB.out.size)⟩
  clear hw hb2 t2
  cases g with
  | true =>
    go_wp2_with fail
    go_ret2
    exact ⟨rfl, HB2.out⟩
  | false =>
    go_wp2_with fail
    go_ret2
    exact ⟨rfl, HB2.out⟩
set_option maxHeartbeats 4000000 in
set_option maxRecDepth 100000 in
theorem without33 (v : Value) (L : List Sd) (k i : Nat) {B : Nat × TypeId} (hv : RdR w B v L) (hl : L.length ≤ 1000000) (h4 : ∀ i, i < L.length → (sl (L.getD i none)).length ≤ 4096) (hi : i < L.length) :
    Calls Try.prog 33 #[v, .int .i64 k, .int .i64 i] w fun e w' => e = .returned (.bool (gwB L k i)) ∧ Below w.heap.size w w' := by
  have HV0 : Hid (RdR w (w.heap.size, 1000) v L) := ⟨by obtain ⟨vs, x1, x2⟩ := hv; exact ⟨vs, x1, x2.1, fun i hi => by obtain ⟨u, hu, hs⟩ := x2.2 i hi; exact ⟨u, hu, hs.sh, hs.rd, fun h0 k hk => .inl (hs.rd.lt h0 k hk)⟩⟩⟩
  have t1 := clone43 HV0.out (Nat.le_refl _) (show (1000 : TypeId) ≠ 33 by decide) hl
  obtain ⟨va, vc, rfl, h1, h2, _⟩ := hv.shape
  obtain ⟨r, Hr⟩ : ∃ r, Hid (gwB L k i = r) := ⟨_, ⟨rfl⟩⟩
  rw [Hr.out]
  obtain ⟨c, Hc⟩ : ∃ c, Hid (chkE (L.set i none) (k : Int) = c) := ⟨_, ⟨rfl⟩⟩
  have H4 : Hid (∀ j, j < (L.set i none).length → (sl ((L.set i none).getD j none)).length ≤ 4096) := ⟨set_rows h4⟩
  obtain ⟨n, Hn⟩ : ∃ n, Hid (L.length = n) := ⟨_, ⟨rfl⟩⟩
  rw [Hn.out] at t1 h1 hl hi ⊢
  have hiz : (i : Int) < (n : Int) := by omega
  have HL1 : Hid ((L.set i none).length = n) := ⟨by rw [List.length_set]; exact Hn.out⟩
  clear hv h4
  go_enter Try.func33, Try.ntmps33
  go_wp2_with fail
  refine t1.mono ?_
  rintro e w1 ⟨a1, n1, c1, rfl, hO1, hb1⟩
  obtain ⟨g, c2, cur, e, hnc, hcm, hcur, hcs⟩ := ownR_cap hO1 (by rw [Hn.out]; omega)
  simp only [Value.slice.injEq] at e
  rw [Hn.out] at e hnc
  obtain ⟨rfl, rfl, rfl⟩ := e
  have hfz := ownR_frozenAt hO1 i
  have hO2 := ownR_stored hO1 (Nat.le_refl _) (show (1000 : TypeId) ≠ 33 by decide) i (RdS.nil w1 (w.heap.size, 1000))
  obtain ⟨w2, Hw2⟩ : ∃ x, Hid (w1.setCell ⟨g, i, none⟩ (.slice none 0 0) = x) := ⟨_, ⟨rfl⟩⟩
  rw [Hw2.out] at hO2
  have hg : w.heap.size ≤ g := (hO1.lt g (by simp [ob, Value.ownBlock])).1
  have HB2 : Hid (Below w.heap.size w w2) := ⟨by
    rw [← Hw2.out]
    exact hb1.trans (((Chg.refl [g] w1).setCell (a := ⟨g, i, none⟩) (.inl (by simp)) (.slice none 0 0)).below hb1.size (by simp; omega))⟩
  obtain ⟨ci, hci⟩ : ∃ ci, w1.cell? ⟨g, i, none⟩ = some ci := by
    obtain ⟨b', o', cp', e, _, hat⟩ := hO1.rd.at (i := i) (by rw [Hn.out]; exact hi)
    simp only [Value.slice.injEq, Option.some.injEq, Addr.mk.injEq] at e
    obtain ⟨⟨rfl, rfl, -⟩, -, -⟩ := e
    obtain ⟨a, c, hc, _⟩ := hat i (by rw [Hn.out]; exact hi)
    exact ⟨_, by simpa using hc⟩
  have t2 := checkShards28 (w := w2) _ (L.set i none) (k : Int) hO2.rd (by rw [HL1.out]; exact hl) H4.out
  rw [Hc.out] at t2
  have HO2 := Hid.mk hO2
  clear t1 hO1 hb1 hO2 hcur hcs
  by_cases hc : c = 0
  · subst hc
    have hF : Fine (L.set i none) k := by obtain ⟨k', e, hF⟩ := fine_of Hc.out; have : k = k' := by omega
                                          subst this; exact hF
    have HT : Hid (∀ w3, Below w2.heap.size w2 w3 → Calls Try.prog 31 #[.slice (some ⟨g, 0, none⟩) n1 c1, .int .i64 k] w3 fun e w' => WrV (L.set i none) k e ∧ Below w3.heap.size w3 w') := ⟨fun w3 hb => wrong31 (w := w3) _ _ k (HO2.out.rd.below hb) H4.out hF⟩
    have HW : Hid (∀ e, WrV (L.set i none) k e → ∃ p : Int, e = .returned (.tuple #[.int .i64 p, .bool (!r)])) := ⟨fun e h => by
      obtain ⟨p, z, h1, h2⟩ := h
      have : isGrp (L.set i none) k = r := by rw [← Hr.out, gwB, decide_eq_true Hc.out, Bool.true_and]
      rw [h2.grp, this] at h1
      exact ⟨p, h1⟩⟩
    clear hF
    go_wp2_with fail
    rw [Hw2.out]
    refine t2.mono ?_
    rintro e w3 ⟨rfl, hb3⟩
    have t3 := HT.out w3 hb3
    have HB3 : Hid (Below w.heap.size w w3) := ⟨HB2.out.trans (hb3.mono HB2.out.size)⟩
    clear t2 hb3 HT
    go_wp2_with fail
    refine t3.mono ?_
    rintro e w4 ⟨hw, hb4⟩
    obtain ⟨p, rfl⟩ := HW.out e hw
    have HB4 : Hid (Below w.heap.size w w4) := ⟨HB3.out.trans (hb4.mono HB3.out.size)⟩
    clear hw hb4 t3
    cases r with
    | true =>
      go_wp2_with fail
      go_ret
      exact ⟨rfl, HB4.out⟩
    | false =>
      go_wp2_with fail
      go_ret
      exact ⟨rfl, HB4.out⟩
  · have hne : (c != 0) = true := by simpa using hc
    have HR : Hid (r = false) := ⟨by rw [← Hr.out, gwB, Hc.out, decide_eq_false hc]; rfl⟩
    clear hc
    go_wp2_with fail
    rw [Hw2.out]
    refine t2.mono ?_
    rintro e w3 ⟨rfl, hb3⟩
    have HB3 : Hid (Below w.heap.size w w3) := ⟨HB2.out.trans (hb3.mono HB2.out.size)⟩
    clear t2 hb3
    go_wp2_with fail
    go_ret
    exact ⟨ret_bool HR.out.symm, HB3.out⟩
end
end Go.Proofs.Ytbdmbhpmbklaiaa
