/- How scripts of deeds, and sums, that came in are opened. -/
import Derived.Test.YtiloclekhddkfabDoorFrame
import Derived.Test.YtiloclekhddkfabDoorA4
namespace Go.Proofs.YtiloclekhddkfabDoor
open Go.ChangeShapes Go.WideShapes Go.ChangeAt Go.RowKit
theorem cl3 : Tryd.prog.cellsOf 3 = 1 := by kernel_rfl
theorem cl45 : Tryd.prog.cellsOf 45 = 1 := by kernel_rfl
theorem cl47 : Tryd.prog.cellsOf 47 = 34 := by kernel_rfl
section
variable {H : Type} {enc : TypeId × Value → H} {W : World} {base : Nat} {v : Value} {d : DataW H} {p : List MemPlace}
theorem parts3 {P : Program} {w : World} {base : Nat} {spare : Nat → Bool} {held : Bool} {t : TypeId} {f0 f1 f2 : Field} {fuel : Nat} {cs : List Value} {x : DataW H × List MemPlace} (ht : P.underlying t = some (.struct #[f0, f1, f2])) (h : DataW.trod enc P w base spare held fuel t cs = some x) :
    ∃ y0 y1 y2 n, DataW.trod enc P w base spare held n f0.type ((cs.drop f0.offset).take (P.cellsOf f0.type)) = some y0 ∧
      DataW.trod enc P w base spare held n f1.type ((cs.drop f1.offset).take (P.cellsOf f1.type)) = some y1 ∧ DataW.trod enc P w base spare held n f2.type ((cs.drop f2.offset).take (P.cellsOf f2.type)) = some y2 := by
  obtain ⟨xs, n, _, rfl, _, hlen, hf⟩ := DataW.trod_struct ht h
  match xs, hlen with
  | [y0, y1, y2], _ => exact ⟨y0, y1, y2, n, by simpa using hf 0 f0 rfl, by simpa using hf 1 f1 rfl, by simpa using hf 2 f2 rfl⟩
theorem inner_sums {fuel : Nat} {v : Value} {x : DataW H × List MemPlace} (hf : DataW.trod enc Tryd.prog W 0 (fun _ => true) true fuel 45 [v] = some x) : ∃ L, RdS W v L ∧ ∀ y ∈ L, Sum32 y := by
  rcases Deep.open_slice Tryd.underlying45 hf with ⟨hcs, _⟩ | ⟨a', len', cap', m, n, D, Pl, hcs, _, hl, hm, hmm, hx, hc⟩
  · simp at hcs
    subst hcs
    exact ⟨[], ⟨⟨none, 0, rfl, Nat.le_refl _, by decide, fun _ => rfl⟩, fun i hi => by simp at hi, by simp⟩, by simp⟩
  · simp at hcs
    subst hcs
    simp only [if_true] at hmm
    subst hmm
    rw [cl22] at hc
    obtain ⟨f, hfr⟩ := Deep.choose_lt (α := List Int) (n := len') (p := fun i s => (∀ j, j < 32 → W.cell? ((a'.add (i * 32)).add j) = (sc s)[j]?) ∧ Sum32 s) (fun i hi => by
      obtain ⟨cs', h1, h2⟩ := hc i (by omega)
      obtain ⟨_, hlen, hcell⟩ := World.cells?_some h1
      obtain ⟨s, e, h3⟩ := inner_sum h2
      subst e
      exact ⟨s, hcell, h3⟩)
    have hg : ∀ i, i < len' → ((List.range len').map f).getD i [] = f i := fun i hi => by simp [hi]
    refine ⟨(List.range len').map f, ⟨⟨some a', m, by simp, by simpa using hl, hm, by simp⟩, fun i hi => ?_, fun s hs => ?_⟩, fun s hs => ?_⟩
    · have hi' : i < len' := by simpa using hi
      obtain ⟨h1, h2⟩ := hfr i hi'
      obtain ⟨b, off, spot⟩ := a'
      have k0 := (hfr 0 (by omega)).1 0 (by decide)
      rw [sc_get _ (by rw [(hfr 0 (by omega)).2.len]; decide)] at k0
      have hs : spot = none := by simpa [Addr.add] using World.cell?_spot k0
      subst hs
      refine ⟨b, off, m, by simp, fun j hj => ?_⟩
      rw [hg i hi']
      have := h1 j hj
      rw [add_plain, add_plain] at this
      exact this
    · simp at hs
      obtain ⟨i, hi, rfl⟩ := hs
      exact ⟨by rw [sc_len, (hfr i hi).2.len], sc_one _⟩
    · simp at hs
      obtain ⟨i, hi, rfl⟩ := hs
      exact (hfr i hi).2
theorem inner_deed {fuel : Nat} {cs : List Value} {x : DataW H × List MemPlace} (hl : cs.length = 34) (h : DataW.trod enc Tryd.prog W 0 (fun _ => true) true fuel 47 cs = some x) : ∃ r, cs = dc r ∧ DdV W r := by
  obtain ⟨y0, y1, y2, n, h0, h1, h2⟩ := parts3 Tryd.underlying47 h
  simp only [cl3, cl22, cl45] at h0 h1 h2
  obtain ⟨z0, e0, _, w0⟩ := DataW.trod_int Tryd.underlying3 h0
  obtain ⟨s, e1, hs⟩ := inner_sum h1
  have h33 : ((cs.drop 33).take 1) = [cs[33]'(by omega)] := by
    rw [List.drop_eq_getElem_cons (by omega), List.take_succ_cons, List.take_zero]
  rw [h33] at h2
  obtain ⟨L, hR, hS⟩ := inner_sums h2
  refine ⟨⟨z0, s, cs[33]'(by omega), L⟩, ?_, hs, hR, hS⟩
  have g0 := congrArg (fun l => l[0]?) e0
  simp at g0
  apply List.ext_getElem?
  intro i
  by_cases hi0 : i = 0
  · subst hi0
    rw [dc_0]
    rw [List.getElem?_eq_getElem (by omega)]
    simpa [List.getElem?_eq_getElem (show 0 < cs.length by omega)] using g0
  · by_cases hi : i < 33
    · obtain ⟨j, rfl⟩ : ∃ j, i = 1 + j := ⟨i - 1, by omega⟩
      rw [dc_s (x := ⟨z0, s, cs[33]'(by omega), L⟩) hs j (by omega), ← e1, List.getElem?_take, if_pos (by omega), List.getElem?_drop]
    · by_cases hi2 : i < 34
      · obtain rfl : i = 33 := by omega
        rw [dc_v (x := ⟨z0, s, cs[33]'(by omega), L⟩) hs, List.getElem?_eq_getElem (by omega)]
      · rw [List.getElem?_eq_none (by omega), List.getElem?_eq_none (by rw [dc_len hs]; omega)]
instance : Inhabited Dd := ⟨dd0⟩
theorem dc_one {w : World} {x : Dd} (h : DdV w x) : ∀ u ∈ dc x, u.oneCell' = true := by
  intro u hu
  unfold dc at hu
  rcases List.mem_cons.1 hu with rfl | hu
  · rfl
  · rcases List.mem_append.1 hu with hu | hu
    · exact sc_one _ u hu
    · rw [List.mem_singleton.1 hu]
      obtain ⟨a, cap, e, _⟩ := h.rd.shape
      rw [e]; rfl
theorem open_deeds (hk : Value.okWide Tryd.prog W .any base 35 v) (h : DataW.Trod enc Tryd.prog W 0 (fun _ => true) true 35 v d p) : ∃ L, Deeds W v L := by
  obtain ⟨a, len, cap, rfl⟩ := okWide_slice Tryd.underlying35 hk
  obtain ⟨fuel, hf⟩ := h
  rcases Deep.open_slice Tryd.underlying35 hf with ⟨hcs, _⟩ | ⟨a', len', cap', m, n, D, Pl, hcs, _, hl, hm, hmm, hx, hc⟩
  · simp [Value.cells] at hcs
    obtain ⟨rfl, rfl, rfl⟩ := hcs
    exact ⟨[], ⟨⟨none, 0, rfl, Nat.le_refl _, by decide, fun _ => rfl⟩, fun i hi => by simp at hi, by simp⟩, by simp⟩
  · simp [Value.cells] at hcs
    obtain ⟨rfl, rfl, rfl⟩ := hcs
    simp only [if_true] at hmm
    subst hmm
    rw [cl47] at hc
    obtain ⟨f, hfr⟩ := Deep.choose_lt (α := Dd) (n := len) (p := fun i r => (∀ j, j < 34 → W.cell? ((a'.add (i * 34)).add j) = (dc r)[j]?) ∧ DdV W r) (fun i hi => by
      obtain ⟨cs', h1, h2⟩ := hc i (by omega)
      obtain ⟨_, hlen, hcell⟩ := World.cells?_some h1
      obtain ⟨r, e, h3⟩ := inner_deed hlen h2
      subst e
      exact ⟨r, hcell, h3⟩)
    have hg : ∀ i, i < len → ((List.range len).map f).getD i dd0 = f i := fun i hi => by simp [hi]
    refine ⟨(List.range len).map f, ⟨⟨some a', m, by simp, by simpa using hl, hm, by simp⟩, fun i hi => ?_, fun r hr => ?_⟩, fun r hr => ?_⟩
    · have hi' : i < len := by simpa using hi
      obtain ⟨h1, h2⟩ := hfr i hi'
      obtain ⟨b, off, spot⟩ := a'
      have k0 := (hfr 0 (by omega)).1 0 (by decide)
      rw [dc_0] at k0
      have hs : spot = none := by simpa [Addr.add] using World.cell?_spot k0
      subst hs
      refine ⟨b, off, m, by simp, fun j hj => ?_⟩
      rw [hg i hi']
      have := h1 j hj
      rw [add_plain, add_plain] at this
      exact this
    · simp at hr
      obtain ⟨i, hi, rfl⟩ := hr
      exact ⟨dc_len (hfr i hi).2.s, dc_one (hfr i hi).2⟩
    · simp at hr
      obtain ⟨i, hi, rfl⟩ := hr
      exact (hfr i hi).2
/-- Sums that came in. -/
structure SumsV (w : World) (v : Value) (L : List (List Int)) : Prop where
  rd : RdS w v L
  ok : ∀ y ∈ L, Sum32 y
theorem open_sums (hk : Value.okWide Tryd.prog W .any base 45 v) (h : DataW.Trod enc Tryd.prog W 0 (fun _ => true) true 45 v d p) : ∃ L, SumsV W v L := by
  obtain ⟨a, len, cap, rfl⟩ := okWide_slice Tryd.underlying45 hk
  obtain ⟨fuel, hf⟩ := h
  obtain ⟨L, h1, h2⟩ := inner_sums (v := .slice a len cap) hf
  exact ⟨L, h1, h2⟩
end
end Go.Proofs.YtiloclekhddkfabDoor
