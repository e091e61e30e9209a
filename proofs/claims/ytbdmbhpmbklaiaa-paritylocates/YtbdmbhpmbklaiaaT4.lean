/- The document's Same; few. -/
import Derived.Test.YtbdmbhpmbklaiaaFrGp
namespace Go.Proofs.Ytbdmbhpmbklaiaa
open Go.RowKit Gf

theorem strOf_inj {l m : List Int} (hl : ∀ x ∈ l, 0 ≤ x ∧ x < 256) (hm : ∀ x ∈ m, 0 ≤ x ∧ x < 256) (h : (strOfNums l).toList = (strOfNums m).toList) : l = m := by
  rw [ByteArray.toList_eq, ByteArray.toList_eq] at h
  have h2 : strOfNums l = strOfNums m := WideShapes.bytes_inj h
  have h3 := congrArg (fun b : ByteArray => b.data.toList) h2
  simp only [strOfNums_data] at h3
  apply List.ext_getElem?
  intro i
  have h4 := congrArg (fun b : List UInt8 => b[i]?) h3
  simp only [List.getElem?_map] at h4
  cases e1 : l[i]? with
  | none => cases e2 : m[i]? with
    | none => rfl
    | some y => rw [e1, e2] at h4; simp at h4
  | some x => cases e2 : m[i]? with
    | none => rw [e1, e2] at h4; simp at h4
    | some y =>
      rw [e1, e2] at h4
      simp only [Option.map_some, Option.some.injEq] at h4
      have a1 := hl x (List.mem_of_getElem? e1)
      have a2 := hm y (List.mem_of_getElem? e2)
      have a3 := congrArg UInt8.toNat h4
      simp only [UInt8.toNat_ofNat'] at a3
      rw [show x = y by omega]
theorem strG_inj {l m : List G} (h : (strG l).toList = (strG m).toList) : l = m := by
  have := strOf_inj (fun x hx => by obtain ⟨y, _, rfl⟩ := List.mem_map.1 hx; exact ⟨gi_lo y, gi_hi y⟩) (fun x hx => by obtain ⟨y, _, rfl⟩ := List.mem_map.1 hx; exact ⟨gi_lo y, gi_hi y⟩) h
  exact (List.map_inj_right (fun x y h => gi_inj h)).1 this
/-- What few answers. -/
def FewV (L : List Sd) (most : Nat) (v : Value) : Prop := ∃ z, v = .bool z ∧ (z = true → L.length ≤ 81 ∧ ∀ i, i < L.length → (sl (L.getD i none)).length ≤ most)
section
variable {w : World}
/-- Are rows of shards the same? -/
def smR (A C : List Sd) : Bool := decide (A.map sl = C.map sl)
set_option maxHeartbeats 8000000 in
set_option maxRecDepth 100000 in
theorem few9 (v : Value) (L : List Sd) (most : Nat) {B : Nat × TypeId} (hv : RdR w B v L) (hmost : most ≤ 100000) :
    Calls Try.prog 9 #[v, .int .i64 most] w fun e w' => ∃ u, e = .returned u ∧ FewV L most u ∧ w = w' := by
  obtain ⟨va, vc, rfl, h1, h2, _⟩ := hv.shape
  have HV := Hid.mk hv
  obtain ⟨n, Hn⟩ : ∃ n, Hid (L.length = n) := ⟨_, ⟨rfl⟩⟩
  rw [Hn.out] at h1 HV ⊢
  have h2' : vc ≤ 9223372036854775807 := h2
  clear h2 hv
  go_enter Try.func9, Try.ntmps9
  go_upto_region 3 with fail
  go_loopg [5, 6] n (fun gg s5 s6 wr => ∃ (i : Nat) (t : Nat), i ≤ n ∧ i ≤ 81 ∧ n - i ≤ gg ∧ t ≤ most ∧ s6 = .int .i64 (i : Int) ∧ s5 = .int .i64 (t : Int) ∧ Hid (∀ j, j < i → (sl (L.getD j none)).length ≤ most) ∧ Hid (w = wr))
  case atStart => exact ⟨0, 0, Nat.zero_le _, by omega, by omega, by omega, rfl, rfl, ⟨fun j hj => by omega⟩, ⟨rfl⟩⟩
  case round =>
    obtain ⟨i, t, hi, hi8, hgg, ht, rfl, rfl, HF, HW⟩ := hrel
    rename World => wo
    have hw := HW.out
    subst hw
    clear HW
    by_cases hlt : i < n
    · have hltz : (i : Int) < (n : Int) := by omega
      have hiL : i < L.length := by rw [Hn.out]; exact hlt
      obtain ⟨b, off, cap, e, _, hc⟩ := HV.out.at hiL
      rw [Hn.out] at e
      simp only [Value.slice.injEq] at e
      obtain ⟨rfl, -, rfl⟩ := e
      obtain ⟨sa, sc, c1, _⟩ := hc i hiL
      obtain ⟨sn, Hsn⟩ : ∃ r, Hid ((sl (L.getD i none)).length = r) := ⟨_, ⟨rfl⟩⟩
      rw [Hsn.out] at c1
      obtain ⟨q, Hq⟩ : ∃ q : Nat, Hid (min sn (most + 1) = q) := ⟨_, ⟨rfl⟩⟩
      have hq := Hq.out
      have hmin : min (sn : Int) ((most : Int) + 1) = (q : Int) := by omega
      have hq2 : q ≤ most + 1 := by omega
      have hq3 : q ≤ most → sn ≤ most := by omega
      clear hc hq
      by_cases hbad : most < t + q
      · have hbz : (most : Int) < (t : Int) + (q : Int) := by omega
        go_wp2_with fail
        go_ret
        exact ⟨_, rfl, ⟨false, rfl, fun h => by simp at h⟩, rfl⟩
      · have hbz : ¬ (most : Int) < (t : Int) + (q : Int) := by omega
        by_cases h80 : 80 < i
        · have h80z : (80 : Int) < (i : Int) := by omega
          go_wp2_with fail
          go_ret
          exact ⟨_, rfl, ⟨false, rfl, fun h => by simp at h⟩, rfl⟩
        · have h80z : ¬ (80 : Int) < (i : Int) := by omega
          have HF' : Hid (∀ j, j < i + 1 → (sl (L.getD j none)).length ≤ most) := ⟨fun j hj => by
            by_cases e : j = i
            · rw [e, Hsn.out]; exact hq3 (by omega)
            · exact HF.out j (by omega)⟩
          go_wp2_with fail
          go_roundg (n - (i + 1))
          case measure => omega
          case rel => exact ⟨i + 1, t + q, by omega, by omega, by omega, by omega, by go_num, by go_num, HF', ⟨rfl⟩⟩
    · obtain rfl : n = i := by omega
      go_wp2_with fail
      go_ret
      exact ⟨_, rfl, ⟨true, rfl, fun _ => ⟨by rw [Hn.out]; exact hi8, fun j hj => HF.out j (by rw [← Hn.out]; exact hj)⟩⟩, rfl⟩
set_option maxHeartbeats 8000000 in
set_option maxRecDepth 100000 in
theorem rsame13 (u v : Value) (A C : List Sd) {B B' : Nat × TypeId} (hu : RdR w B u A) (hv : RdR w B' v C) (hA : A.length ≤ 1000000) (_hC : C.length ≤ 1000000) :
    Calls Try.prog 13 #[u, v] w fun e w' => e = .returned (.bool (smR A C)) ∧ Below w.heap.size w w' := by
  obtain ⟨ua, uc, rfl, h1, h2, _⟩ := hu.shape
  obtain ⟨va, vc, rfl, h3, h4, _⟩ := hv.shape
  have HU := Hid.mk hu
  have HV := Hid.mk hv
  obtain ⟨z, Hz⟩ : ∃ z, Hid (smR A C = z) := ⟨_, ⟨rfl⟩⟩
  rw [Hz.out]
  obtain ⟨n, Hn⟩ : ∃ n, Hid (A.length = n) := ⟨_, ⟨rfl⟩⟩
  obtain ⟨m, Hm⟩ : ∃ n, Hid (C.length = n) := ⟨_, ⟨rfl⟩⟩
  rw [Hn.out] at hA HU ⊢
  rw [Hm.out] at _hC HV ⊢
  clear hu hv h1 h2 h3 h4
  by_cases hnm : n = m
  · have hb : ((n : Int) != (m : Int)) = false := by simp [hnm]
    have HNM := Hid.mk hnm
    clear hnm
    go_enter Try.func13, Try.ntmps13
    go_upto_region 4 with fail
    go_loopg [5] n (fun gg s5 wr => ∃ i : Nat, i ≤ n ∧ n - i ≤ gg ∧ s5 = .int .i64 (i : Int) ∧ Hid (∀ j, j < i → sl (A.getD j none) = sl (C.getD j none)) ∧ Hid (Below w.heap.size w wr))
    case atStart => exact ⟨0, Nat.zero_le _, by omega, rfl, ⟨fun j hj => by omega⟩, ⟨Below.refl _ _⟩⟩
    case round =>
      obtain ⟨i, hi, hgg, rfl, HF, HB⟩ := hrel
      rename World => wo
      by_cases hlt : i < n
      · have hltz : (i : Int) < (n : Int) := by omega
        have hltm : (i : Int) < (m : Int) := by have := HNM.out; omega
        have hiA : i < A.length := by rw [Hn.out]; exact hlt
        have hiC : i < C.length := by rw [Hm.out]; have := HNM.out; omega
        obtain ⟨b, off, cap, e, _, hc⟩ := (HU.out.below HB.out).at hiA
        rw [Hn.out] at e
        simp only [Value.slice.injEq] at e
        obtain ⟨rfl, -, rfl⟩ := e
        obtain ⟨b2, off2, cap2, e, _, hc2⟩ := (HV.out.below HB.out).at hiC
        rw [Hm.out] at e
        simp only [Value.slice.injEq] at e
        obtain ⟨rfl, -, rfl⟩ := e
        obtain ⟨a1, s1, c1, _, _, _, r1⟩ := hc i hiA
        obtain ⟨a2, s2, c2, _, _, _, r2⟩ := hc2 i hiC
        have q1 : ∀ W, Below wo.heap.size wo W → (convert 33 9 (.slice a1 (sl (A.getD i none)).length s1)).run Try.prog W = .ok (.string (strG (sl (A.getD i none)))) W := fun W hW => run_strG (r1.rd.far (Chg.ofBelow (X := []) hW) (by simp))
        have q2 : ∀ W, Below wo.heap.size wo W → (convert 33 9 (.slice a2 (sl (C.getD i none)).length s2)).run Try.prog W = .ok (.string (strG (sl (C.getD i none)))) W := fun W hW => run_strG (r2.rd.far (Chg.ofBelow (X := []) hW) (by simp))
        have k1 : ∀ nq, (convert 33 9 (.slice a1 (sl (A.getD i none)).length s1)).run Try.prog (wo.drewN nq) = .ok (.string (strG (sl (A.getD i none)))) (wo.drewN nq) := fun nq => q1 _ (below_drewN (Below.refl _ _) nq)
        have k2 : ∀ nq, (convert 33 9 (.slice a2 (sl (C.getD i none)).length s2)).run Try.prog (wo.drewN nq) = .ok (.string (strG (sl (C.getD i none)))) (wo.drewN nq) := fun nq => q2 _ (below_drewN (Below.refl _ _) nq)
        by_cases he : sl (A.getD i none) = sl (C.getD i none)
        · have HF' : Hid (∀ j, j < i + 1 → sl (A.getD j none) = sl (C.getD j none)) := ⟨fun j hj => by
            by_cases e : j = i
            · rw [e]; exact he
            · exact HF.out j (by omega)⟩
          rw [he] at k1 c1
          generalize (sl (C.getD i none)).length = sn at c1 c2 k1 k2
          generalize strG (sl (C.getD i none)) = st at k1 k2
          clear hc hc2 r1 r2 q1 q2 he
          go_upto_region 6 with fail
          go_quiet (fail)
          go_wp2_with fail
          go_roundg (n - (i + 1))
          case measure => omega
          case rel => exact ⟨i + 1, by omega, by omega, by go_num, HF', ⟨below_drewN HB.out nq⟩⟩
        · have HZ : Hid (z = false) := ⟨by
            rw [← Hz.out]
            refine decide_eq_false (fun h => he ?_)
            have := congrArg (fun l => l.getD i []) h
            simpa [List.getD, List.getElem?_eq_getElem hiA, List.getElem?_eq_getElem hiC] using this⟩
          have hst : ¬ (strG (sl (A.getD i none))).toList = (strG (sl (C.getD i none))).toList := fun h => he (strG_inj h)
          generalize (sl (A.getD i none)).length = sn at c1 k1
          generalize (sl (C.getD i none)).length = sm at c2 k2
          generalize strG (sl (A.getD i none)) = st1 at k1 hst
          generalize strG (sl (C.getD i none)) = st2 at k2 hst
          have hst2 : (st1.toList == st2.toList) = false := by rw [beq_eq_false_iff_ne]; exact hst
          clear hc hc2 r1 r2 q1 q2 he
          go_upto_region 6 with fail
          go_quiet (fail)
          go_wp2_with fail
          go_ret
          exact ⟨ret_bool HZ.out.symm, below_drewN HB.out nq⟩
      · obtain rfl : n = i := by omega
        have HZ : Hid (z = true) := ⟨by
          rw [← Hz.out]
          refine decide_eq_true ?_
          apply List.ext_getElem
          · rw [List.length_map, List.length_map, Hn.out, Hm.out]; exact HNM.out
          · intro j h1 h2
            rw [List.length_map] at h1 h2
            have := HF.out j (by rw [← Hn.out]; exact h1)
            simpa [List.getD, List.getElem?_eq_getElem h1, List.getElem?_eq_getElem h2] using this⟩
        go_wp2_with fail
        go_ret
        exact ⟨ret_bool HZ.out.symm, HB.out⟩
  · have hb : ((n : Int) != (m : Int)) = true := by simp; omega
    have HZ : Hid (z = false) := ⟨by
      rw [← Hz.out]
      refine decide_eq_false (fun h => hnm ?_)
      have := congrArg List.length h
      rwa [List.length_map, List.length_map, Hn.out, Hm.out] at this⟩
    clear hnm
    go_enter Try.func13, Try.ntmps13
    go_wp2_with fail
    go_ret
    exact ⟨ret_bool HZ.out.symm, Below.refl _ _⟩
end
end Go.Proofs.Ytbdmbhpmbklaiaa
