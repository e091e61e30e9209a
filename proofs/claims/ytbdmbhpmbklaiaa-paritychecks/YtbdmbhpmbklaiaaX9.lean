/- The document's Check. -/
import Derived.Test.YtbdmbhpmbklaiaaX8
namespace Go.Proofs.Ytbdmbhpmbklaiaa
open Go.RowKit Gf

/-- What Check answers. -/
def ckA (L : List Sd) (k : Int) : Bool × Int := if chwE L k = 0 then (isGrp L k.toNat, 0) else (false, chwE L k)
theorem same_grp {L : List Sd} {k : Nat} (hs : ∀ i, i < L.length → (L.getD i none).isSome = true) : smR ((List.range L.length).map (repS L k)) L = isGrp L k := by
  unfold smR isGrp
  rw [decide_eq_decide]
  have hg : ∀ i (hi : i < L.length), L.getD i none = L[i] := fun i hi => by simp [List.getD, List.getElem?_eq_getElem hi]
  constructor
  · intro h i hi hsi
    have h1 : (((List.range L.length).map (repS L k)).map sl)[i]? = (L.map sl)[i]? := by rw [h]
    simp only [List.getElem?_map, List.getElem?_range hi, List.getElem?_eq_getElem hi, Option.map_some] at h1
    rw [hg i hi]
    have h2 := hs i hi
    rw [hg i hi] at h2
    cases hq : L[i] with
    | none => rw [hq] at h2; cases h2
    | some s =>
      rw [hq] at h1
      have e : repS L k i = some (sl (repS L k i)) := rfl
      rw [e]
      simp only [Option.some.injEq] at h1
      rw [h1]
      rfl
  · intro h
    refine List.ext_getElem (by simp) (fun i h1 h2 => ?_)
    have hi : i < L.length := by simpa using h2
    simp only [List.getElem_map, List.getElem_range]
    rw [← hg i hi, h i hi (hs i hi)]
section
variable {w : World}
theorem check16 (v : Value) (L : List Sd) (k : Int) {B : Nat × TypeId} (hv : RdR w B v L) (hl : L.length ≤ 1000000) (h4 : ∀ i, i < L.length → (sl (L.getD i none)).length ≤ 4096) :
    Calls Try.prog 16 #[v, .int .i64 k] w fun e w' => e = .returned (.tuple #[.bool (ckA L k).1, .int .i64 (ckA L k).2]) ∧ Below w.heap.size w w' := by
  unfold ckA
  by_cases hc : chwE L k = 0
  · rw [if_pos hc]
    obtain ⟨n, rfl, hF, _⟩ := chw_fine hc
    exact check_ok v L n hv hl h4 hc hF
  · rw [if_neg hc]
    exact check_no v L k hv hl h4 hc
set_option maxHeartbeats 8000000 in
set_option maxRecDepth 100000 in
theorem rcheck17 (v : Value) (L : List Sd) (k : Int) {B : Nat × TypeId} (hv : RdR w B v L) (hl : L.length ≤ 1000000) (hk0 : -9223372036854775808 ≤ k ∧ k ≤ 9223372036854775807) (h4 : ∀ i, i < L.length → (sl (L.getD i none)).length ≤ 4096) :
    Calls Try.prog 17 #[v, .int .i64 k] w fun e w' => e = .returned (.tuple #[.bool (ckA L k).1, .int .i64 (ckA L k).2]) ∧ Below w.heap.size w w' := by
  have t1 := rrep15 (w := w) v L k hv hl hk0 h4
  obtain ⟨va, vc, rfl, h1, h2, _⟩ := hv.shape
  have HV := Hid.mk hv
  obtain ⟨A, HA⟩ : ∃ A, Hid (ckA L k = A) := ⟨_, ⟨rfl⟩⟩
  rw [HA.out]
  have HK : Hid (chkE L k ≠ 0 → A = (false, chkE L k)) := ⟨fun h => by
    have hw : chwE L k = chkE L k := by unfold chwE; rw [if_pos h]
    rw [← HA.out, ckA, hw, if_neg h]⟩
  have HL : Hid (chkE L k = 0 → ∀ i, i < L.length → L.getD i none = none → A = (false, 3)) := ⟨fun h i hi hn => by
    have hw : chwE L k = 3 := by unfold chwE; rw [if_neg (by simpa using h), any_some (p := pLost) hi (by rw [hn]; rfl), if_pos rfl]
    rw [← HA.out, ckA, hw, if_neg (by decide)]⟩
  have HE : Hid (chkE L k = 0 → (∀ i, i < L.length → L.getD i none ≠ none) → A = (smR ((List.range L.length).map (repS L k.toNat)) L, 0)) := ⟨fun h hn => by
    have hn' : ∀ i, i < L.length → (L.getD i none).isSome = true := fun i hi => by cases hq : L.getD i none with
      | none => exact absurd hq (hn i hi)
      | some s => rfl
    have hw : chwE L k = 0 := by
      unfold chwE
      rw [if_neg (by simpa using h), any_none (fun i hi => by have := hn' i hi; unfold pLost; cases hq : L.getD i none with
        | none => rw [hq] at this; cases this
        | some s => rfl)]
      rfl
    rw [← HA.out, ckA, if_pos hw, same_grp hn']⟩
  obtain ⟨n, Hn⟩ : ∃ n, Hid (L.length = n) := ⟨_, ⟨rfl⟩⟩
  rw [Hn.out] at hl h1 HV t1 ⊢
  clear hv h4 h2
  go_enter Try.func17, Try.ntmps17
  go_wp2_with fail
  refine t1.mono ?_
  rintro e w1 ⟨a, m, c, z, rfl, ⟨hz, _, hO⟩, hb⟩
  have HB := Hid.mk hb
  have HO := Hid.mk hO
  clear t1 hb hO
  by_cases hz0 : z = 0
  · subst hz0
    have HO1 := Hid.mk (HO.out rfl)
    have HZ := Hid.mk hz.symm
    rw [Hn.out] at HO1
    clear hz HO
    go_wp2_with fail
    go_loopg [8] n (fun gg s8 wr => ∃ i : Nat, i ≤ n ∧ n - i ≤ gg ∧ s8 = .int .i64 (i : Int) ∧ Hid (Stay w1 wr) ∧ Hid (∀ t, t < i → L.getD t none ≠ none))
    case atStart => exact ⟨0, Nat.zero_le _, by omega, rfl, ⟨rfl⟩, ⟨fun t ht => by omega⟩⟩
    case round =>
      obtain ⟨i, hi, hgg, rfl, HW, HT⟩ := hrel
      have hW : w1 = wr := HW.out
      subst hW
      by_cases hlt : i < n
      · have hltz : (i : Int) < (n : Int) := by omega
        have hiL : i < L.length := by rw [Hn.out]; exact hlt
        obtain ⟨b, off, cap, e, _, hc⟩ := (HV.out.below HB.out).at hiL
        rw [Hn.out] at e
        simp only [Value.slice.injEq] at e
        obtain ⟨rfl, -, rfl⟩ := e
        obtain ⟨sa, sc, c1, hn, -, -, -⟩ := hc i hiL
        have hq := nilEq33 sa (sl (L.getD i none)).length sc w1
        generalize (sl (L.getD i none)).length = sn at c1 hq
        clear hc
        cases sa with
        | none =>
          have HR : Hid (A = (false, 3)) := ⟨HL.out HZ.out i hiL (hn.1 rfl)⟩
          clear hn
          go_wp2_with fail
          go_ret2
          exact ⟨by rw [HR.out]; rfl, HB.out⟩
        | some ad =>
          have HT2 : Hid (∀ t, t < i + 1 → L.getD t none ≠ none) := ⟨fun t ht => by
            by_cases e : t = i
            · subst e; exact fun h => by have := hn.2 h; cases this
            · exact HT.out t (by omega)⟩
          clear hn
          go_wp2_with fail
          go_roundg (n - (i + 1))
          case measure => omega
          case rel => exact ⟨i + 1, by omega, by omega, by go_num, ⟨rfl⟩, HT2⟩
      · obtain rfl : n = i := by omega
        have HR : Hid (A = (smR ((List.range n).map (repS L k.toNat)) L, 0)) := ⟨by have := HE.out HZ.out (fun t ht => HT.out t (by rw [← Hn.out]; exact ht)); rwa [Hn.out] at this⟩
        have t2 := rsame13 (w := w1) _ _ _ L HO1.out.rd (HV.out.below HB.out) (by simp; omega) (by rw [Hn.out]; exact hl)
        generalize smR ((List.range n).map (repS L k.toNat)) L = y at t2 HR
        go_wp2_with fail
        refine t2.mono ?_
        rintro e w2 ⟨rfl, hb2⟩
        have HB2 : Hid (Below w.heap.size w w2) := ⟨HB.out.trans (hb2.mono HB.out.size)⟩
        clear t2 hb2
        go_wp2_with fail
        go_ret2
        exact ⟨by rw [HR.out]; rfl, HB2.out⟩
  · have hne : (z != 0) = true := by simpa using hz0
    have HR : Hid (A = (false, z)) := ⟨by rw [HK.out (by rw [← hz]; exact hz0), hz]⟩
    clear hz0 hz HO
    go_wp2_with fail
    go_ret2
    exact ⟨by rw [HR.out]; rfl, HB.out⟩
end
end Go.Proofs.Ytbdmbhpmbklaiaa
