/- slices.SortFunc of spots: what is proved of it in the library, laid at this program. -/
import Derived.Shelf.SlGeneric
import Derived.Shelf.SlSortCmp.NoneTotal
import Derived.Test.YtkkcdmdkjedkjaaChecked
import Derived.Test.YtkkcdmdkjedkjaaS2
namespace Go.Proofs.Ytkkcdmdkjedkjaa
open Go.Shelf
def sortQ_ren : Go.Shelf.Ren := ⟨fun | 6 => 39 | 15 => 50 | 14 => 49 | 28 => 63 | 29 => 64 | 20 => 55 | 21 => 56 | 22 => 57 | 23 => 58 | 24 => 59 | 25 => 60 | 26 => 61 | 27 => 62 | 46 => 75 | 47 => 76 | 48 => 77 | 49 => 78 | 50 => 79 | 57 => 83 | n => n, fun | 22 => 58 | 24 => 61 | 25 => 88 | 3 => 3 | 39 => 75 | 0 => 0 | 53 => 111 | 55 => 113 | 4 => 4 | 46 => 104 | 45 => 103 | 50 => 108 | 5 => 5 | 9 => 9 | 66 => 120 | 70 => 124 | 76 => 128 | 77 => 129 | n => n, fun | n => n⟩
theorem sortQ : Go.Proofs.SlLaysF0.n6 Try.prog sortQ_ren := {
  mixed := by kernel_rfl
  f6 := ⟨Try.f39.name, by decide, Try.func39.trans (congrArg some (by kernel_rfl))⟩
  f14 := ⟨Try.f49.name, by decide, Try.func49.trans (congrArg some (by kernel_rfl))⟩
  f15 := Try.func50.trans (congrArg some (by kernel_rfl))
  f20 := ⟨Try.f55.name, by decide, Try.func55.trans (congrArg some (by kernel_rfl))⟩
  f21 := ⟨Try.f56.name, by decide, Try.func56.trans (congrArg some (by kernel_rfl))⟩
  f22 := ⟨Try.f57.name, by decide, Try.func57.trans (congrArg some (by kernel_rfl))⟩
  f23 := ⟨Try.f58.name, by decide, Try.func58.trans (congrArg some (by kernel_rfl))⟩
  f24 := ⟨Try.f59.name, by decide, Try.func59.trans (congrArg some (by kernel_rfl))⟩
  f25 := ⟨Try.f60.name, by decide, Try.func60.trans (congrArg some (by kernel_rfl))⟩
  f26 := ⟨Try.f61.name, by decide, Try.func61.trans (congrArg some (by kernel_rfl))⟩
  f27 := ⟨Try.f62.name, by decide, Try.func62.trans (congrArg some (by kernel_rfl))⟩
  f28 := Try.func63.trans (congrArg some (by kernel_rfl))
  f29 := Try.func64.trans (congrArg some (by kernel_rfl))
  f46 := ⟨Try.f75.name, by decide, Try.func75.trans (congrArg some (by kernel_rfl))⟩
  f47 := Try.func76.trans (congrArg some (by kernel_rfl))
  f48 := Try.func77.trans (congrArg some (by kernel_rfl))
  f49 := ⟨Try.f78.name, by decide, Try.func78.trans (congrArg some (by kernel_rfl))⟩
  f50 := ⟨Try.f79.name, by decide, Try.func79.trans (congrArg some (by kernel_rfl))⟩
  f57 := ⟨Try.f83.name, by decide, Try.func83.trans (congrArg some (by kernel_rfl))⟩
  t0 := Try.underlying0
  a0 := Try.isAgg0
  z0 := Try.sizeOf0
  v0 := Try.zeroValue0
  t3 := Try.underlying3
  a3 := Try.isAgg3
  z3 := Try.sizeOf3
  v3 := Try.zeroValue3
  t4 := Try.underlying4
  a4 := Try.isAgg4
  z4 := Try.sizeOf4
  v4 := Try.zeroValue4
  t5 := Try.underlying5
  a5 := Try.isAgg5
  z5 := Try.sizeOf5
  v5 := Try.zeroValue5
  t9 := Try.underlying9
  a9 := Try.isAgg9
  z9 := Try.sizeOf9
  v9 := Try.zeroValue9
  t22 := Try.underlying58
  a22 := Try.isAgg58
  z22 := Try.sizeOf58
  v22 := Try.zeroValue58
  t25 := Try.underlying88
  a25 := Try.isAgg88
  z25 := Try.sizeOf88
  v25 := Try.zeroValue88
  t39 := Try.underlying75
  a39 := Try.isAgg75
  z39 := Try.sizeOf75
  v39 := Try.zeroValue75
  t45 := Try.underlying103
  a45 := Try.isAgg103
  z45 := Try.sizeOf103
  v45 := Try.zeroValue103
  t46 := Try.underlying104
  a46 := Try.isAgg104
  z46 := Try.sizeOf104
  v46 := Try.zeroValue104
  t50 := Try.underlying108
  a50 := Try.isAgg108
  z50 := Try.sizeOf108
  v50 := Try.zeroValue108
  t53 := Try.underlying111
  a53 := Try.isAgg111
  z53 := Try.sizeOf111
  v53 := Try.zeroValue111
  t55 := Try.underlying113
  a55 := Try.isAgg113
  z55 := Try.sizeOf113
  v55 := Try.zeroValue113
  t66 := Try.underlying120
  a66 := Try.isAgg120
  z66 := Try.sizeOf120
  v66 := Try.zeroValue120
  t70 := Try.underlying124
  a70 := Try.isAgg124
  z70 := Try.sizeOf124
  v70 := Try.zeroValue124
  t76 := Try.underlying128
  a76 := Try.isAgg128
  z76 := Try.sizeOf128
  v76 := Try.zeroValue128
  t77 := Try.underlying129
  a77 := Try.isAgg129
  z77 := Try.sizeOf129
  v77 := Try.zeroValue129 }

open Go.RowKit Go.Lib Go.Sort
theorem fl_flat (L : List Sp) : (flatK sp2 2 L.toArray).toList = fl sp2 L := by
  have hl : (fl sp2 L).length = L.length * 2 := by
    induction L with
    | nil => rfl
    | cons x L ih => simp [fl, sp2] at ih ⊢; omega
  apply List.ext_getElem?
  intro p
  by_cases hp : p < L.length * 2
  · have h1 := fl_get sp2 2 (0, 0) L (fun x _ => rfl) (p / 2) (p % 2) (by omega) (by omega)
    rw [show p / 2 * 2 + p % 2 = p by omega] at h1
    rw [h1]
    have h2 := get_flatK sp2 2 L.toArray p (by simpa using hp)
    have hs : p < (flatK sp2 2 L.toArray).size := by simpa using hp
    rw [Array.getElem?_toList, Array.getElem?_eq_getElem hs, ← getElem!_pos _ p hs, h2]
    have h3 : L.toArray[p / 2]! = L.getD (p / 2) (0, 0) := by
      have : p / 2 < L.length := by omega
      simp [this, List.getD]
    rw [h3]
    rcases Nat.mod_two_eq_zero_or_one p with h | h <;> rw [h] <;> rfl
  · rw [List.getElem?_eq_none (by simp; omega), List.getElem?_eq_none (by omega)]
theorem spc_lt (x y : Sp) : ltOf spc x y = decide (x.1 < y.1 ∨ (x.1 = y.1 ∧ x.2 < y.2)) := by
  unfold ltOf spc cmpI
  by_cases h1 : x.1 < y.1
  · simp [h1]
  · by_cases h2 : y.1 < x.1
    · simp [h1, h2]; omega
    · have h3 : x.1 = y.1 := by omega
      by_cases h4 : x.2 < y.2
      · simp [h3, h4]
      · by_cases h5 : y.2 < x.2 <;> simp [h3, h4, h5]
theorem swoQ : SWO (ltOf spc) where
  irrefl x := by rw [spc_lt]; simp
  trans x y z h1 h2 := by rw [spc_lt] at *; simp at *; omega
  ntrans x y z h1 h2 := by rw [spc_lt] at *; simp at *; omega
theorem totQ (x y : Sp) (h1 : ltOf spc x y = false) (h2 : ltOf spc y x = false) : x = y := by
  rw [spc_lt] at h1 h2
  obtain ⟨a, b⟩ := x
  obtain ⟨c, d⟩ := y
  simp at h1 h2
  simp
  omega
/-- The spots, sorted. -/
def srt (L : List Sp) : List Sp := L.mergeSort fun x y => !(ltOf spc) y x
theorem srt_len (L : List Sp) : (srt L).length = L.length := List.length_mergeSort L
theorem srt_mem (L : List Sp) (x : Sp) : x ∈ srt L ↔ x ∈ L := List.mem_mergeSort
theorem cmpLays (blk off size : Nat) (w : World) : CmpLays Try.prog 40 #[] sp2 2 spc blk off size w := fun _ _ _ _ x y =>
  (compare_any x y).mono fun _ _ h => ⟨h.1, h.2.grow⟩
theorem own_sorted {w : World} {base g n cap m : Nat} {L M : List Sp} {os : Array Obj} (h : OwnE sp2 2 61 w base (.slice (some ⟨g, 0, none⟩) n cap) L) (hn : L.length = n) (hM : M.length = n) : OwnE sp2 2 61 (sortWorldK sp2 2 w g 0 m M.toArray os) base (.slice (some ⟨g, 0, none⟩) n cap) M ∧ Chg [g] w (sortWorldK sp2 2 w g 0 m M.toArray os) := by
  have h0 := h.own
  rw [hn] at h0
  rcases h0.2 with ⟨hz, _⟩ | ⟨g', cap', cur, e', hb, hh, h1, h2, h3, h4⟩
  · cases hz
  · simp at e'
    obtain ⟨rfl, rfl⟩ := e'
    have hlt := (Array.getElem?_eq_some_iff.1 hh).1
    have hsz : (flatK sp2 2 M.toArray).size = n * 2 := by simp [hM]
    have hle : n * 2 ≤ cap * 2 := Nat.mul_le_mul_right 2 h1
    have hrow : (sortWorldK sp2 2 w g 0 m M.toArray os).heap[g]? = some (.cells (putCells id 0 (flatK sp2 2 M.toArray) cur) 61 (0, 0)) := by
      unfold sortWorldK grow putRowK putRow mapBlock Go.Sort.ahead
      simp only
      rw [Array.getElem?_append_left (by simpa using hlt), Array.getElem?_modify, if_pos rfl, hh]
      rfl
    refine ⟨⟨?_, fun x _ => sp2_one x⟩, rfl, rfl, rfl, ?_, fun k hk hx => ?_⟩
    · rw [hM]
      refine ⟨by rw [← fl_flat]; simp [hM], .inr ⟨g, cap, _, rfl, hb, hrow, h1, h2, by simp [putCells, h3], ?_⟩⟩
      rw [← fl_flat]
      apply List.ext_getElem?
      intro p
      by_cases hp : p < n * 2
      · rw [List.getElem?_take, if_pos hp]
        have hpc : p < cur.size := by omega
        have hpf : p < (flatK sp2 2 M.toArray).size := by omega
        simp only [putCells, Array.getElem?_toList, Array.getElem?_mapIdx, Array.getElem?_eq_getElem hpc, Option.map_some, Nat.zero_le, true_and, Nat.zero_add, hpf, if_true, id, Nat.sub_zero, Array.getElem?_eq_getElem hpf]
        rw [getElem!_pos _ p hpf]
      · rw [List.getElem?_eq_none (by simp; omega), List.getElem?_eq_none (by simp [hM]; omega)]
    · exact size_sortWorldK_c sp2 2 w g 0 m M.toArray os
    · unfold sortWorldK grow putRowK putRow mapBlock Go.Sort.ahead
      simp only
      rw [Array.getElem?_append_left (by simpa using hk), Array.getElem?_modify, if_neg (by simp at hx; omega)]
theorem sort_any : SortsBy srt := by
  intro w base v L h hL
  obtain ⟨av, cv, rfl, hcv, hcm, hnil⟩ := (h.rd (0, 0)).shape
  by_cases h0 : L.length = 0
  · have e : L = [] := List.length_eq_zero_iff.1 h0
    subst e
    refine Calls.mono (show Calls Try.prog 39 _ w _ from AnyF.slices_SortFunc_none sortQ av cv (.func (.func 40) #[] #[]) w) ?_
    rintro e w' ⟨rfl, rfl⟩
    exact ⟨rfl, by simpa [srt] using h, Chg.refl _ _⟩
  · obtain ⟨n, hn⟩ : ∃ n, L.length = n := ⟨_, rfl⟩
    obtain ⟨g, cur, eg, hgb, hgh⟩ := own_row h.own (by omega)
    subst eg
    have hH : HoldsK sp2 2 w g 0 L.toArray := fun j hj => by
      have hj' : j < L.length * 2 := by simpa using hj
      refine ⟨?_, frozen_of_row w g _ _ 61 hgh⟩
      obtain ⟨b, o, c, e, hc⟩ := (h.rd (0, 0)).at' (j / 2) (by omega)
      simp at e
      obtain ⟨⟨rfl, rfl⟩, rfl⟩ := e
      have h1 := hc (j % 2) (by omega)
      rw [show 0 + j / 2 * 2 + j % 2 = 0 + j by omega] at h1
      rw [h1, get_flatK sp2 2 L.toArray j (by simpa using hj')]
      have h3 : L.toArray[j / 2]! = L.getD (j / 2) (0, 0) := by
        have : j / 2 < L.length := by omega
        simp [this, List.getD]
      rw [h3]
      rcases Nat.mod_two_eq_zero_or_one j with q | q <;> rw [q] <;> rfl
    have hc := AnyQ.slices_SortFunc_total sortQ 2 Try.isAgg61 Try.sizeOf61 sp2 (fun _ => rfl) (fun x => (sp2_one x).2) spc swoQ 40 #[] g 0 cv L.toArray w (enters_of Try.func40 (by kernel_rfl) rfl) (cmpLays g 0 _ w) hH (Array.getElem?_eq_some_iff.1 hgh).1 (by simp; omega) totQ
    simp only [List.size_toArray] at hc
    refine Calls.mono (show Calls Try.prog 39 _ w _ from hc) ?_
    rintro e w' ⟨rfl, m, os, rfl⟩
    have := own_sorted (m := m) (os := os) (M := srt L) (hn ▸ h) hn (by rw [srt_len, hn])
    refine ⟨rfl, ?_, ?_⟩
    · rw [hn]; exact this.1
    · have h2 := this.2
      have e2 : ob (.slice (some ⟨g, 0, none⟩) L.length cv) = [g] := by simp [ob, Value.ownBlock]
      rw [e2]
      exact h2
end Go.Proofs.Ytkkcdmdkjedkjaa
