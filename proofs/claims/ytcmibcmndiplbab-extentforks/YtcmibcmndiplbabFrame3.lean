/- How a slice of deeds that came in is opened. -/
import Derived.Test.YtcmibcmndiplbabFrame
import Derived.Test.YtcmibcmndiplbabR14
import Derived.Deep.SlicePairs
namespace Go.Proofs.Ytcmibcmndiplbab
open Go.ChangeShapes Go.WideShapes Go.ChangeAt Go.RowKit

def intAt (w : World) (a : Addr) : Int := match w.cell? a with | some (.int _ z) => z | _ => 0
theorem intAt_of {w : World} {a : Addr} {k : IntKind} {z : Int} (h : w.cell? a = some (.int k z)) : intAt w a = z := by simp [intAt, h]

theorem open_deeds {H : Type} {enc : TypeId × Value → H} {W : World} {base : Nat} {v : Value} {d : DataW H} {p : List MemPlace}
    (hk : Value.okWide Try.prog W .any base 29 v) (h : DataW.Trod enc Try.prog W 0 (fun _ => true) true 29 v d p) : ∃ ds, Deeds W v ds := by
  obtain ⟨a, len, cap, rfl⟩ := okWide_slice Try.underlying29 hk
  obtain ⟨fuel, hf⟩ := h
  rcases Deep.open_slice Try.underlying29 hf with ⟨hcs, _⟩ | ⟨x, l, c, m, n, D, Pl, hcs, _, hl, hm, hmm, _, hx⟩
  · simp [Value.cells] at hcs
    obtain ⟨rfl, rfl, rfl⟩ := hcs
    exact ⟨[], none, 0, rfl, fun j h => by simp at h⟩
  · simp [Value.cells] at hcs
    obtain ⟨rfl, rfl, rfl⟩ := hcs
    simp only [if_true] at hmm
    subst hmm
    have ce : Try.prog.cellsOf 54 = 3 := by kernel_rfl
    have c43 : Try.prog.cellsOf 43 = 2 := by kernel_rfl
    have c3 : Try.prog.cellsOf 3 = 1 := by kernel_rfl
    have each : ∀ i, i < len → ∃ z0 z1 z2 : Int, W.cell? (x.add (i * 3)) = some (.int .i64 z0) ∧ W.cell? (x.add (i * 3 + 1)) = some (.int .i64 z1) ∧ W.cell? (x.add (i * 3 + 2)) = some (.int .i64 z2) ∧ (Lit.int .i64 z1).wf = true := by
      intro i hi
      obtain ⟨cs', h1, h2⟩ := hx i (by omega)
      rw [ce] at h1
      obtain ⟨_, hlen, hcell⟩ := World.cells?_some h1
      obtain ⟨y0, y1, k, _, _, g0, g1⟩ := trod_struct2 Try.underlying54 h2
      obtain ⟨u0, u1, k', _, _, g2, g3⟩ := trod_struct2 Try.underlying43 g1
      match cs', hlen with
      | [v0, v1, v2], _ =>
        simp [c3, c43] at g0 g2 g3
        obtain ⟨z0, e0, _, _⟩ := DataW.trod_int Try.underlying3 g0
        obtain ⟨z1, e1, _, hw1⟩ := DataW.trod_int Try.underlying3 g2
        obtain ⟨z2, e2, _, _⟩ := DataW.trod_int Try.underlying3 g3
        simp only [List.cons.injEq, and_true] at e0 e1 e2
        subst e0 e1 e2
        have d0 := hcell 0 (by omega)
        have d1 := hcell 1 (by omega)
        have d2 := hcell 2 (by omega)
        rw [Deep.add_add] at d0 d1 d2
        exact ⟨z0, z1, z2, by simpa using d0, by simpa using d1, by simpa using d2, by first | exact hw1 | simpa using hw1⟩
    by_cases h0 : len = 0
    · subst h0
      exact ⟨[], some x, _, rfl, fun j h => by simp at h⟩
    obtain ⟨b, off, spot⟩ := x
    have hs : spot = none := by
      obtain ⟨_, _, _, e, _⟩ := each 0 (by omega)
      simpa [Addr.add] using World.cell?_spot e
    subst hs
    refine ⟨(List.range len).map fun i => (intAt W ⟨b, off + i * 3, none⟩, intAt W ⟨b, off + i * 3 + 1, none⟩, intAt W ⟨b, off + i * 3 + 2, none⟩), some ⟨b, off, none⟩, m, by simp, fun j hj => ?_⟩
    have hjl : j < len := by simpa using hj
    obtain ⟨z0, z1, z2, e0, e1, e2, hw⟩ := each j hjl
    rw [add_plain] at e0 e1 e2
    rw [← Nat.add_assoc] at e1 e2
    refine ⟨b, off, rfl, by simpa using World.block_lt_of_cell? W _ e0, ?_, ?_, ?_, ?_⟩
    · rw [e0]; simp [List.getD_eq_getElem?_getD, hjl, intAt_of e0]
    · rw [e1]; simp [List.getD_eq_getElem?_getD, hjl, intAt_of e1]
    · rw [e2]; simp [List.getD_eq_getElem?_getD, hjl, intAt_of e2]
    · have h9 : z1 ≤ 9223372036854775807 := by
        have hh := hw
        have em : IntKind.max .i64 = 9223372036854775807 := by decide
        simp only [Lit.wf, em, Bool.and_eq_true, decide_eq_true_eq] at hh
        omega
      simpa [List.getD_eq_getElem?_getD, hjl, intAt_of e1] using h9
end Go.Proofs.Ytcmibcmndiplbab
