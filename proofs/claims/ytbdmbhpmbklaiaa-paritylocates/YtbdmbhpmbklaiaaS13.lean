/- What stands against repairing shards: checkShards; Encode's errors. -/
import Derived.Test.YtbdmbhpmbklaiaaS10
import Derived.Test.YtbdmbhpmbklaiaaS12
namespace Go.Proofs.Ytbdmbhpmbklaiaa
open Go.RowKit Gf

def left (L : List Sd) : List Sd := L.filter Option.isSome
/-- What checkShards answers. -/
def chkE (L : List Sd) (k : Int) : Int := if ¬ (1 ≤ k ∧ k ≤ 32) ∨ ¬ (0 ≤ (L.length : Int) - k ∧ (L.length : Int) - k ≤ 16) then 2 else if frm (left L) then 4 else if ((left L).length : Int) < k then 3 else 0
theorem left_len (L : List Sd) : (left L).length ≤ L.length := List.length_filter_le _ _
theorem getD_mem {α : Type} {L : List α} {i : Nat} {d : α} (h : i < L.length) : L.getD i d ∈ L := by
  rw [show L.getD i d = L[i] by simp [List.getD, List.getElem?_eq_getElem h]]
  exact List.getElem_mem h
theorem left_row {L : List Sd} {m : Nat} (h : ∀ i, i < L.length → (sl (L.getD i none)).length ≤ m) (i : Nat) (hi : i < (left L).length) : (sl ((left L).getD i none)).length ≤ m := by
  have h1 := getD_mem (d := none) hi
  have h2 := (List.mem_filter.1 h1).1
  obtain ⟨j, hj, e⟩ := List.mem_iff_getElem.1 h2
  have := h j hj
  rw [show L.getD j none = L[j] by simp [List.getD, List.getElem?_eq_getElem hj], e] at this
  exact this
section
variable {w : World}
set_option maxHeartbeats 4000000 in
set_option maxRecDepth 100000 in
theorem checkShards28 (v : Value) (L : List Sd) (k : Int) {B : Nat × TypeId} (hv : RdR w B v L) (hl : L.length ≤ 1000000) (h4 : ∀ i, i < L.length → (sl (L.getD i none)).length ≤ 4096) :
    Calls Try.prog 28 #[v, .int .i64 k] w fun e w' => e = .returned (.int .i64 (chkE L k)) ∧ Below w.heap.size w w' := by
  obtain ⟨va, vc, rfl, h1, h2, _⟩ := hv.shape
  have HV0 : Hid (RdR w (w.heap.size, 1000) (.slice va L.length vc) L) := ⟨by obtain ⟨vs, x1, x2⟩ := hv; exact ⟨vs, x1, x2.1, fun i hi => by obtain ⟨u, hu, hs⟩ := x2.2 i hi; exact ⟨u, hu, hs.sh, hs.rd, fun h0 k hk => .inl (hs.rd.lt h0 k hk)⟩⟩⟩
  have t1 := isData21 (w := w) k
  obtain ⟨r, Hr⟩ : ∃ r, Hid (chkE L k = r) := ⟨_, ⟨rfl⟩⟩
  rw [Hr.out]
  have H4 := Hid.mk h4
  clear hv h4
  by_cases hk : 1 ≤ k ∧ k ≤ 32
  · rw [decide_eq_true hk] at t1
    have t2 := isParity22 (w := w) ((L.length : Int) - k)
    have hwr : IntKind.i64.wrap ((L.length : Int) - k) = (L.length : Int) - k := IntWalk.i64_in _ ⟨by omega, by omega⟩
    by_cases hm : 0 ≤ (L.length : Int) - k ∧ (L.length : Int) - k ≤ 16
    · rw [decide_eq_true hm] at t2
      have HR : Hid (r = if frm (left L) then 4 else if ((left L).length : Int) < k then 3 else 0) := ⟨by rw [← Hr.out, chkE, if_neg (by omega)]⟩
      have t3 := clone43 HV0.out (Nat.le_refl _) (show (1000 : TypeId) ≠ 33 by decide) hl
      have hll := left_len L
      obtain ⟨n, Hn⟩ : ∃ n, Hid (L.length = n) := ⟨_, ⟨rfl⟩⟩
      obtain ⟨m, Hm⟩ : ∃ n, Hid ((left L).length = n) := ⟨_, ⟨rfl⟩⟩
      rw [Hn.out] at t2 t3 hm hwr h1 hll hl
      rw [Hm.out] at hll HR
      rw [Hn.out]
      go_enter Try.func28, Try.ntmps28
      go_wp2_with fail
      refine t1.mono ?_
      rintro e wx ⟨rfl, rfl⟩
      clear t1
      go_wp2_with fail
      refine t2.mono ?_
      rintro e wx ⟨rfl, rfl⟩
      clear t2
      go_wp2_with fail
      refine t3.mono ?_
      rintro e w3 ⟨a3, n3, c3, rfl, hO3, hB3⟩
      have HB3 := Hid.mk hB3
      have t4 := del42 hO3 (Nat.le_refl _) (show (1000 : TypeId) ≠ 33 by decide) hB3.size (by rw [Hn.out]; exact hl)
      clear t3 hO3 hB3
      go_wp2_with fail
      refine t4.mono ?_
      rintro e w4 ⟨a4, n4, c4, rfl, hO4, hB4⟩
      have HB4 : Hid (Below w.heap.size w w4) := ⟨HB3.out.trans hB4⟩
      have hn4 : n4 = m := by
        obtain ⟨a', c', e, _⟩ := hO4.rd.shape
        simp only [Value.slice.injEq] at e
        rw [e.2.1, ← Hm.out]
        rfl
      subst hn4
      have t5 := checkRows23 (w := w4) _ (left L) hO4.rd (by rw [Hm.out]; omega) (left_row H4.out)
      clear t4 hO4 hB4
      cases hfr : frm (left L) with
      | true =>
        rw [hfr, if_pos rfl] at t5
        have HRR : Hid (r = 4) := ⟨by rw [HR.out, hfr, if_pos rfl]⟩
        clear hfr
        go_wp2_with fail
        refine t5.mono ?_
        rintro e w5 ⟨rfl, hB5⟩
        have HB5 : Hid (Below w.heap.size w w5) := ⟨HB4.out.trans (hB5.mono HB4.out.size)⟩
        clear t5 hB5
        go_wp2_with fail
        go_ret
        exact ⟨ret_int HRR.out.symm, HB5.out⟩
      | false =>
        rw [hfr, if_neg (by decide)] at t5
        rw [hfr, if_neg (by decide)] at HR
        clear hfr
        by_cases hlk : (n4 : Int) < k
        · have HRR : Hid (r = 3) := ⟨by rw [HR.out, if_pos hlk]⟩
          go_wp2_with fail
          refine t5.mono ?_
          rintro e w5 ⟨rfl, hB5⟩
          have HB5 : Hid (Below w.heap.size w w5) := ⟨HB4.out.trans (hB5.mono HB4.out.size)⟩
          clear t5 hB5
          go_wp2_with fail
          go_ret
          exact ⟨ret_int HRR.out.symm, HB5.out⟩
        · have HRR : Hid (r = 0) := ⟨by rw [HR.out, if_neg hlk]⟩
          go_wp2_with fail
          refine t5.mono ?_
          rintro e w5 ⟨rfl, hB5⟩
          have HB5 : Hid (Below w.heap.size w w5) := ⟨HB4.out.trans (hB5.mono HB4.out.size)⟩
          clear t5 hB5
          go_wp2_with fail
          go_ret
          exact ⟨ret_int HRR.out.symm, HB5.out⟩
    · rw [decide_eq_false hm] at t2
      have HR : Hid (r = 2) := ⟨by rw [← Hr.out, chkE, if_pos (.inr hm)]⟩
      generalize L.length = n at *
      clear hm
      go_enter Try.func28, Try.ntmps28
      go_wp2_with fail
      refine t1.mono ?_
      rintro e wx ⟨rfl, rfl⟩
      clear t1
      go_wp2_with fail
      refine t2.mono ?_
      rintro e wx ⟨rfl, rfl⟩
      clear t2
      go_wp2_with fail
      go_ret
      exact ⟨ret_int HR.out.symm, Below.refl _ _⟩
  · rw [decide_eq_false hk] at t1
    have HR : Hid (r = 2) := ⟨by rw [← Hr.out, chkE, if_pos (.inl hk)]⟩
    generalize L.length = n at *
    clear hk
    go_enter Try.func28, Try.ntmps28
    go_wp2_with fail
    refine t1.mono ?_
    rintro e wx ⟨rfl, rfl⟩
    clear t1
    go_wp2_with fail
    go_ret
    exact ⟨ret_int HR.out.symm, Below.refl _ _⟩
end
end Go.Proofs.Ytbdmbhpmbklaiaa
