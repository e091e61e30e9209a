/- slices.Clone, Index, Contains at ints. -/
import Derived.Test.YtjcojpddjhjhbaaInts
namespace Go.Proofs.Ytjcojpddjhjhbaa
open Go.RowKit

section
variable {w : World}
theorem mem_take_snoc {l : List Int} {x : Int} {k : Nat} (h : x ∉ l.take k) (hk : k < l.length) (hx : ¬ x = l.getD k 0) : x ∉ l.take (k + 1) := by
  rw [List.take_add_one, List.getElem?_eq_getElem hk]
  simp only [Option.toList_some, List.mem_append, List.mem_singleton, not_or]
  exact ⟨h, fun e => hx (by rw [e]; simp [List.getD, List.getElem?_eq_getElem hk])⟩
end
end Go.Proofs.Ytjcojpddjhjhbaa
