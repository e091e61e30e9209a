/- A place at which a shard that is not lost is not the group's: wrongPlace. -/
import Derived.Deep.RegionHeld3
import Derived.Test.YtbdmbhpmbklaiaaX1
import Derived.Test.YtbdmbhpmbklaiaaS14
namespace Go.Proofs.Ytbdmbhpmbklaiaa
open Go.RowKit Go.Lib Go.Shelf Gf

theorem results_cell2 {P : Program} {fn : Func} {p u : Tmp} {ty tu : TypeId} (h : fn.results = #[.cell p ty, .cell u tu]) (tmps : Array Value) (w : World) {a b : Addr} {x y : Value}
    (hp : tmps.getD p undef = .pointer (some a)) (hu : tmps.getD u undef = .pointer (some b)) (hx : (loadVar ty a).run P w = .ok x w) (hy : (loadVar tu b).run P w = .ok y w) :
    (results fn tmps).run P w = .ok (.tuple #[x, y]) w := by
  have hp' : tmps[p]?.getD undef = .pointer (some a) := by simpa using hp
  have hu' : tmps[u]?.getD undef = .pointer (some b) := by simpa using hu
  simp [results, h, hp', hu', asAddr, hx, hy]
theorem load_i {w : World} {b : Nat} {v : Value} (h : w.cell? ⟨b, 0, none⟩ = some v) : (loadVar 3 ⟨b, 0, none⟩).run Try.prog w = .ok v w := by
  have h1 : (isAgg 3).run Try.prog w = .ok false w := by kernel_rfl
  simp [loadVar, h1, load, Sem.run, h] 
theorem load_b {w : World} {b : Nat} {v : Value} (h : w.cell? ⟨b, 0, none⟩ = some v) : (loadVar 4 ⟨b, 0, none⟩).run Try.prog w = .ok v w := by
  have h1 : (isAgg 4).run Try.prog w = .ok false w := by kernel_rfl
  simp [loadVar, h1, load, Sem.run, h]
/-- How long the group's shards are. -/
def rowL (L : List Sd) (k : Nat) : Nat := rowN (lfR L (k : Int) L.length)
theorem Fine.all {L : List Sd} {k : Nat} (h : Fine L k) (i : Nat) (hi : i < L.length) (hs : (L.getD i none).isSome = true) : (sl (L.getD i none)).length = rowL L k := by
  have hm : L.getD i none ∈ left L := List.mem_filter.2 ⟨getD_mem hi, hs⟩
  obtain ⟨j, hj, e⟩ := List.mem_iff_getElem.1 hm
  have h1 := frm_len h.form hj
  rw [show (left L).getD j none = (left L)[j] by simp [List.getD, List.getElem?_eq_getElem hj], e] at h1
  have hk := h.k1
  rw [h1, rowL, rowN, lfR_full, getD_take _ _ (by omega)]
/-- What wrongPlace says. -/
def WrP (L : List Sd) (k : Nat) (p : Int) (z : Bool) : Prop :=
  (z = false ∧ p = 0 ∧ ∀ i, i < L.length → (L.getD i none).isSome = true → L.getD i none = repS L k i) ∨ (z = true ∧ ∃ i j : Nat, i < L.length ∧ p = (j : Int) ∧ j < rowL L k ∧ (L.getD i none).isSome = true ∧ (sl (L.getD i none)).getD j 0 ≠ (sl (repS L k i)).getD j 0)
def WrV (L : List Sd) (k : Nat) (e : Ending) : Prop := ∃ p z, e = .returned (.tuple #[.int .i64 p, .bool z]) ∧ WrP L k p z
end Go.Proofs.Ytbdmbhpmbklaiaa
