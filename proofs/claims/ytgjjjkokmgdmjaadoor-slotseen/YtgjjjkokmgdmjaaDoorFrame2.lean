/- How four bytes that came in by value are opened. -/
import Derived.Test.YtgjjjkokmgdmjaaDoorFrame
import Derived.Laws.IdiomArrays
namespace Go.Proofs.YtgjjjkokmgdmjaaDoor
open Go.ChangeShapes Go.WideShapes Go.ChangeAt Go.RowKit

theorem cells5 : Tryd.prog.cellsOf 5 = 1 := by kernel_rfl
theorem cells42 : Tryd.prog.cellsOf 42 = 4 := by kernel_rfl

set_option maxRecDepth 100000 in
theorem open_arr4 {H : Type} {enc : TypeId × Value → H} {W : World} {base : Nat} {v : Value} {d : DataW H} {ps : List MemPlace}
    (hk : Value.okWide Tryd.prog W .any base 42 v) (h : DataW.Trod enc Tryd.prog W 0 (fun _ => true) true 42 v d ps) :
    ∃ b : Nat → Nat, v = .agg #[.int .u8 (b 0), .int .u8 (b 1), .int .u8 (b 2), .int .u8 (b 3)] ∧ ∀ j, b j < 256 := by
  simp only [Value.okWide, Tryd.underlying42] at hk
  obtain ⟨cs, rfl, h2, _⟩ := hk
  rw [cells42] at h2
  obtain ⟨l⟩ := cs
  match l, h2 with
  | [c0, c1, c2, c3], _ =>
    obtain ⟨fuel, hf⟩ := h
    obtain ⟨y0, y1, y2, y3, m, hx, hy0, hy1, hy2, hy3⟩ := trod_array4 Tryd.underlying42 cells5 hf
    obtain ⟨n0, e0, _, w0⟩ := DataW.trod_int Tryd.underlying5 hy0
    obtain ⟨n1, e1, _, w1⟩ := DataW.trod_int Tryd.underlying5 hy1
    obtain ⟨n2, e2, _, w2⟩ := DataW.trod_int Tryd.underlying5 hy2
    obtain ⟨n3, e3, _, w3⟩ := DataW.trod_int Tryd.underlying5 hy3
    have b0 := bounds_u8 w0
    have b1 := bounds_u8 w1
    have b2 := bounds_u8 w2
    have b3 := bounds_u8 w3
    obtain ⟨k0, rfl⟩ := Int.eq_ofNat_of_zero_le b0.1
    obtain ⟨k1, rfl⟩ := Int.eq_ofNat_of_zero_le b1.1
    obtain ⟨k2, rfl⟩ := Int.eq_ofNat_of_zero_le b2.1
    obtain ⟨k3, rfl⟩ := Int.eq_ofNat_of_zero_le b3.1
    simp only [List.cons.injEq, and_true] at e0 e1 e2 e3
    subst e0 e1 e2 e3
    refine ⟨fun j => [k0, k1, k2, k3].getD j 0, rfl, fun j => Dg.getD_lt _ (fun x hx => ?_) j⟩
    simp only [List.mem_cons, List.not_mem_nil, or_false] at hx
    omega
end Go.Proofs.YtgjjjkokmgdmjaaDoor
