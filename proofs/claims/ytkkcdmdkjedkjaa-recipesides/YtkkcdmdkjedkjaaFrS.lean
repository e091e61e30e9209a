/- The walk of RecipeSides, of refs that came in. -/
import Derived.Test.YtkkcdmdkjedkjaaWS2
namespace Go.Proofs.Ytkkcdmdkjedkjaa
open Go.RowKit

theorem u16_in' {z : Int} (h : (Lit.int .u16 z).wf = true) : 0 ≤ z ∧ z < 65536 := by
  have em : IntKind.max .u16 = 65535 := by decide
  have en : IntKind.min .u16 = 0 := by decide
  simp only [Lit.wf, em, en, Bool.and_eq_true, decide_eq_true_eq] at h
  omega
theorem walk_recipeSides (v : Value) (L : List Rf) (x y z : Int) (W : World) (h : RefV W v L) (hx : (Lit.int .u16 x).wf = true) (hy : (Lit.int .u16 y).wf = true) (hz : (Lit.int .u16 z).wf = true) : Calls Try.prog 5 #[v, .int .u16 x, .int .u16 y, .int .u16 z] W fun e w' => e = .returned (.bool true) ∧ Below W.heap.size W w' := by
  by_cases hc : chk L = 0
  · have h1 := u16_in' hx
    have h2 := u16_in' hy
    have h3 := u16_in' hz
    obtain ⟨x, rfl⟩ := Int.eq_ofNat_of_zero_le h1.1
    obtain ⟨y, rfl⟩ := Int.eq_ofNat_of_zero_le h2.1
    obtain ⟨z, rfl⟩ := Int.eq_ofNat_of_zero_le h3.1
    exact recipeSides_good v L x y z (by omega) (by omega) (by omega) h.rd (chk_zero.1 hc)
  · exact recipeSides_bad v L x y z h.rd (by have := h.len; omega) hc
end Go.Proofs.Ytkkcdmdkjedkjaa
