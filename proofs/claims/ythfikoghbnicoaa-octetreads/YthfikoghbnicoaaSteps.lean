/- How a slice of steps that came in is opened. -/
import Derived.Test.YthfikoghbnicoaaFrame
import Derived.Test.YthfikoghbnicoaaL6b
import Derived.Deep.SlicePairs
namespace Go.Proofs.Ythfikoghbnicoaa
open Go.ChangeShapes Go.WideShapes Go.ChangeAt Go.RowKit

theorem open_steps {H : Type} {enc : TypeId × Value → H} {W : World} {base : Nat} {v : Value} {d : DataW H} {p : List MemPlace}
    (hk : Value.okWide Try.prog W .any base 39 v) (h : DataW.Trod enc Try.prog W 0 (fun _ => true) true 39 v d p) : ∃ ls, Sps W v ls := by
  obtain ⟨a, len, cap, rfl⟩ := okWide_slice Try.underlying39 hk
  obtain ⟨fuel, hf⟩ := h
  rcases Deep.open_slice_pairs Try.underlying39 Try.underlying45 (by kernel_rfl) rfl rfl (by kernel_rfl) (by kernel_rfl) hf with ⟨hcs, _⟩ | ⟨x, l, c, m, n, V0, V1, D0, D1, P0, P1, hcs, _, hl, hm, hmm, _, hcell⟩
  · simp [Value.cells] at hcs
    obtain ⟨rfl, rfl, rfl⟩ := hcs
    exact ⟨[], none, 0, rfl, by simp [maxLen], fun k hk => by simp at hk⟩
  · simp [Value.cells] at hcs
    obtain ⟨rfl, rfl, rfl⟩ := hcs
    simp only [if_true] at hmm
    subst hmm
    refine ⟨(List.range len).map fun i => (intOf (V0 i), intOf (V1 i)), some x, m, by simp, by simp; omega, fun k hk => ?_⟩
    have hkl : k < len := by simpa using hk
    obtain ⟨h0, h1, t0, t1⟩ := hcell k (by omega)
    obtain ⟨y0, e0, _, _⟩ := DataW.trod_int Try.underlying3 t0
    obtain ⟨y1, e1, _, _⟩ := DataW.trod_int Try.underlying3 t1
    simp only [List.cons.injEq, and_true] at e0 e1
    rw [e0] at h0
    rw [e1] at h1
    obtain ⟨b, off, spot⟩ := x
    have hs : spot = none := by simpa [Addr.add] using World.cell?_spot (hcell 0 (by omega)).1
    subst hs
    rw [add_plain] at h0 h1
    refine ⟨b, off, rfl, ?_, ?_⟩
    · rw [h0]; simp [List.getD_eq_getElem?_getD, hkl, e0, intOf]
    · rw [Nat.add_assoc, h1]; simp [List.getD_eq_getElem?_getD, hkl, e1, intOf]
end Go.Proofs.Ythfikoghbnicoaa
