/- The document's Repair. -/
import Derived.Test.YtbdmbhpmbklaiaaT2
import Derived.Test.YtbdmbhpmbklaiaaT3
import Derived.Test.YtbdmbhpmbklaiaaT4
namespace Go.Proofs.Ytbdmbhpmbklaiaa
open Go.RowKit Gf

theorem mem_left {L : List Sd} {s : Sd} : s ∈ left L ↔ s ∈ L ∧ s.isSome = true := List.mem_filter
theorem idx_of {L : List Sd} {s : Sd} (h : s ∈ L) : ∃ i, i < L.length ∧ L.getD i none = s := by
  obtain ⟨i, hi, e⟩ := List.mem_iff_getElem.1 h
  exact ⟨i, hi, by simp [List.getD, List.getElem?_eq_getElem hi, e]⟩
theorem wr_frm (L : List Sd) : Wr L ↔ frm (left L) = true := by
  constructor
  · rintro ⟨i, k, hki, hi, h1, h2, h3⟩
    cases hf : frm (left L) with
    | true => rfl
    | false =>
      exfalso
      obtain ⟨a, ha, ea⟩ := idx_of (mem_left.2 ⟨getD_mem (d := none) hi, h1⟩)
      obtain ⟨b, hb, eb⟩ := idx_of (mem_left.2 ⟨getD_mem (d := none) (show k < L.length by omega), h2⟩)
      have e1 := frm_len hf ha
      have e2 := frm_len hf hb
      rw [ea] at e1
      rw [eb] at e2
      exact h3 (by rw [e1, e2])
  · intro h
    unfold frm at h
    rw [List.any_eq_true] at h
    obtain ⟨s, hs, hp⟩ := h
    have h0 : 0 < (left L).length := List.length_pos_of_mem hs
    have hp' : (sl s).length ≠ (sl ((left L).getD 0 none)).length := by simpa [pOther] using hp
    obtain ⟨hsL, hss⟩ := mem_left.1 hs
    obtain ⟨htL, hts⟩ := mem_left.1 (getD_mem (d := none) h0)
    obtain ⟨i, hi, ei⟩ := idx_of hsL
    obtain ⟨k, hk, ek⟩ := idx_of htL
    rw [← ei] at hp' hss
    rw [← ek] at hp' hts
    rcases Nat.lt_trichotomy i k with h | h | h
    · exact ⟨k, i, h, hk, hts, hss, fun e => hp' e.symm⟩
    · subst h; exact absurd rfl hp'
    · exact ⟨i, k, h, hi, hss, hts, hp'⟩
/-- What Repair answers. -/
def RepV (w' : World) (base : Nat) (L : List Sd) (k : Int) (v : Value) (z : Int) : Prop := z = chkE L k ∧ (z ≠ 0 → v = .slice none 0 0) ∧ (z = 0 → OwnR w' (0, 5) base v ((List.range L.length).map (repS L k.toNat)))
section
variable {w : World}
theorem rep14 (v : Value) (L : List Sd) (k : Int) {B : Nat × TypeId} (hv : RdR w B v L) (hl : L.length ≤ 1000000) (h4 : ∀ i, i < L.length → (sl (L.getD i none)).length ≤ 4096) :
    Calls Try.prog 14 #[v, .int .i64 k] w fun e w' => ∃ a n c z, e = .returned (.tuple #[.slice a n c, .int .i64 z]) ∧ RepV w' w.heap.size L k (.slice a n c) z ∧ Below w.heap.size w w' := by
  by_cases hc : chkE L k = 0
  · obtain ⟨n, rfl, hF⟩ := fine_of hc
    refine (rep_ok v L n hv h4 hc hF).mono ?_
    rintro e w' ⟨a, m, c, rfl, hO, hB⟩
    exact ⟨a, m, c, 0, rfl, ⟨hc.symm, fun h => absurd rfl h, fun _ => by simpa using hO⟩, hB⟩
  · refine (rep_no v L k hv hl h4 hc).mono ?_
    rintro e w' ⟨rfl, hB⟩
    exact ⟨none, 0, 0, _, rfl, ⟨rfl, fun _ => rfl, fun h => absurd h hc⟩, hB⟩
set_option maxHeartbeats 8000000 in
set_option maxRecDepth 100000 in
theorem rrep15 (v : Value) (L : List Sd) (k : Int) {B : Nat × TypeId} (hv : RdR w B v L) (hl : L.length ≤ 1000000) (hk0 : -9223372036854775808 ≤ k ∧ k ≤ 9223372036854775807) (h4 : ∀ i, i < L.length → (sl (L.getD i none)).length ≤ 4096) :
    Calls Try.prog 15 #[v, .int .i64 k] w fun e w' => ∃ a n c z, e = .returned (.tuple #[.slice a n c, .int .i64 z]) ∧ RepV w' w.heap.size L k (.slice a n c) z ∧ Below w.heap.size w w' := by
  have t1 := rwrong26 (w := w) v L hv hl h4
  obtain ⟨va, vc, rfl, h1, h2, _⟩ := hv.shape
  have HV := Hid.mk hv
  have H4 := Hid.mk h4
  obtain ⟨n, Hn⟩ : ∃ n, Hid (L.length = n) := ⟨_, ⟨rfl⟩⟩
  rw [Hn.out] at hl h1 HV t1 ⊢
  clear hv h4 h2
  by_cases ha1 : k < 1
  · have HR : Hid (chkE L k = 2) := ⟨by unfold chkE; rw [if_pos (.inl (by omega))]⟩
    clear t1
    go_enter Try.func15, Try.ntmps15
    go_wp2_with fail
    go_ret2
    exact ⟨_, _, _, _, rfl, ⟨HR.out.symm, fun _ => rfl, fun h => by simp at h⟩, Below.refl _ _⟩
  · by_cases ha2 : 32 < k
    · have HR : Hid (chkE L k = 2) := ⟨by unfold chkE; rw [if_pos (.inl (by omega))]⟩
      clear t1
      go_enter Try.func15, Try.ntmps15
      go_wp2_with fail
      go_ret2
      exact ⟨_, _, _, _, rfl, ⟨HR.out.symm, fun _ => rfl, fun h => by simp at h⟩, Below.refl _ _⟩
    · by_cases ha3 : (n : Int) < k
      · have HR : Hid (chkE L k = 2) := ⟨by unfold chkE; rw [Hn.out, if_pos (.inr (by omega))]⟩
        clear t1
        go_enter Try.func15, Try.ntmps15
        go_wp2_with fail
        go_ret2
        exact ⟨_, _, _, _, rfl, ⟨HR.out.symm, fun _ => rfl, fun h => by simp at h⟩, Below.refl _ _⟩
      · by_cases ha4 : k + 16 < (n : Int)
        · have HR : Hid (chkE L k = 2) := ⟨by unfold chkE; rw [Hn.out, if_pos (.inr (by omega))]⟩
          clear t1
          go_enter Try.func15, Try.ntmps15
          go_wp2_with fail
          go_ret2
          exact ⟨_, _, _, _, rfl, ⟨HR.out.symm, fun _ => rfl, fun h => by simp at h⟩, Below.refl _ _⟩
        · have HR0 : Hid (chkE L k = if frm (left L) then 4 else if ((left L).length : Int) < k then 3 else 0) := ⟨by unfold chkE; rw [Hn.out, if_neg (by omega)]⟩
          go_enter Try.func15, Try.ntmps15
          go_wp2_with fail
          refine t1.mono ?_
          rintro e w1 ⟨z, rfl, hz, hb1⟩
          have HB1 := Hid.mk hb1
          have HZ := Hid.mk hz
          clear t1 hz hb1
          rcases HZ.out with ⟨rfl, hw⟩ | ⟨rfl, hw⟩
          · have HR : Hid (chkE L k = 4) := ⟨by rw [HR0.out, if_pos ((wr_frm L).1 hw)]⟩
            clear HZ hw
            go_wp2_with fail
            go_ret2
            exact ⟨_, _, _, _, rfl, ⟨HR.out.symm, fun _ => rfl, fun h => by simp at h⟩, HB1.out⟩
          · have HR : Hid (chkE L k = if ((left L).length : Int) < k then 3 else 0) := ⟨by rw [HR0.out, if_neg (fun h => hw ((wr_frm L).2 h))]⟩
            clear HZ hw HR0
            go_upto_region 8 with fail
            go_loopg [7, 8] n (fun gg s7 s8 wr => ∃ i : Nat, i ≤ n ∧ n - i ≤ gg ∧ s8 = .int .i64 (i : Int) ∧ s7 = .int .i64 ((left (L.take i)).length : Nat) ∧ Hid (w1 = wr))
            case atStart => exact ⟨0, Nat.zero_le _, by omega, rfl, rfl, ⟨rfl⟩⟩
            case round =>
              obtain ⟨i, hi, hgg, rfl, rfl, HW⟩ := hrel
              rename World => wo
              have hw := HW.out
              subst hw
              clear HW
              have hll := left_len (L.take i)
              rw [List.length_take] at hll
              by_cases hlt : i < n
              · have hltz : (i : Int) < (n : Int) := by omega
                have hiL : i < L.length := by rw [Hn.out]; exact hlt
                obtain ⟨b, off, cap, e, _, hc⟩ := (HV.out.below HB1.out).at hiL
                rw [Hn.out] at e
                simp only [Value.slice.injEq] at e
                obtain ⟨rfl, -, rfl⟩ := e
                obtain ⟨sa, sc, c1, hsn, _⟩ := hc i hiL
                have q1 := nilNe33 sa (sl (L.getD i none)).length sc w1
                have HN : Hid (sa.isSome = (L.getD i none).isSome) := ⟨by cases sa <;> cases hh : L.getD i none <;> simp_all⟩
                rw [HN.out] at q1
                have HS : Hid ((left (L.take (i + 1))).length = (left (L.take i)).length + (if (L.getD i none).isSome then 1 else 0)) := ⟨by
                  have := flt_take hiL
                  unfold left
                  rw [this, List.length_append]
                  split <;> rfl⟩
                generalize (left (L.take i)).length = t at *
                generalize (sl (L.getD i none)).length = sn at c1 q1
                cases hso : (L.getD i none).isSome with
                | true =>
                  rw [hso] at q1 HS
                  clear hc hsn HN hso
                  go_wp2_with fail
                  go_roundg (n - (i + 1))
                  case measure => omega
                  case rel => exact ⟨i + 1, by omega, by omega, by go_num, by rw [HS.out]; go_num, ⟨rfl⟩⟩
                | false =>
                  rw [hso] at q1 HS
                  clear hc hsn HN hso
                  go_wp2_with fail
                  go_roundg (n - (i + 1))
                  case measure => omega
                  case rel => exact ⟨i + 1, by omega, by omega, by go_num, by rw [HS.out]; rfl, ⟨rfl⟩⟩
              · obtain rfl : n = i := by omega
                rw [show L.take n = L from List.take_of_length_le (by rw [Hn.out]; exact Nat.le_refl _)] at hll ⊢
                by_cases hlk : ((left L).length : Int) < k
                · rw [if_pos hlk] at HR
                  generalize (left L).length = t at *
                  go_wp2_with fail
                  go_ret2
                  exact ⟨_, _, _, _, rfl, ⟨HR.out.symm, fun _ => rfl, fun h => by simp at h⟩, HB1.out⟩
                · rw [if_neg hlk] at HR
                  obtain ⟨k', Hk', hF⟩ := fine_of HR.out
                  subst Hk'
                  have t2 := rgroup27 (w := w1) _ L (k' : Int) n (rowN (lfR L k' L.length)) (HV.out.below HB1.out) (by rw [Hn.out]; omega) (by omega) (by rw [hF.len]; exact hF.k1) hF.row (hF.small H4.out)
                  have HFf : Hid ((fun j => some (grp (lfP L (k' : Int) L.length) (lfR L (k' : Int) L.length) (rowN (lfR L k' L.length)) (gn j))) = repS L k') := ⟨rfl⟩
                  rw [HFf.out] at t2
                  generalize (left L).length = t at *
                  go_wp2_with fail
                  refine t2.mono ?_
                  rintro e w2 ⟨a2, n2, c2, rfl, hO2, hB2⟩
                  have HO2 := Hid.mk hO2
                  have HB2 : Hid (Below w.heap.size w w2) := ⟨HB1.out.trans (hB2.mono HB1.out.size)⟩
                  clear t2 hO2 hB2
                  go_wp2_with fail
                  go_ret2
                  refine ⟨_, _, _, _, rfl, ⟨HR.out.symm, fun h => absurd rfl h, fun _ => ?_⟩, HB2.out⟩
                  rw [Hn.out, Int.toNat_natCast]
                  exact HO2.out.base HB1.out.size
end
end Go.Proofs.Ytbdmbhpmbklaiaa
