/- What the listed variable gives; how a slice of bytes that came in is opened; a world for a witness. -/
import Derived.Test.YtgjjjkokmgdmjaaDoorS9
import Derived.Test.YtgjjjkokmgdmjaaDoorCards
import Derived.Test.YtgjjjkokmgdmjaaDoorTie
import Derived.ProofKit
import Derived.OpenShut
import Derived.ChangeOld
import Derived.SizedLaws
import Derived.JoinedCond
import Derived.Deep.DeepHandedRow
import Derived.Lib.LaidTab
namespace Go.Proofs.YtgjjjkokmgdmjaaDoor
open Go.ChangeShapes Go.WideShapes Go.ChangeAt Go.RowKit

theorem Tryd.own : ownKnob Tryd.prog.godebug = none := by kernel_rfl
set_option maxRecDepth 100000 in
theorem Tryd.laidOut : laidOutB Tryd.prog = true := by kernel_rfl
theorem gNib : Tryd.prog.globalNamed "aumbry/digest.crcNibbles" = some 0 := by kernel_rfl
theorem tNib : (Tryd.prog.globals[0]?).map (·.type) = some 103 := by kernel_rfl
theorem cellsU : Tryd.prog.cellsOf 83 = 1 := by kernel_rfl
theorem cellsN : Tryd.prog.cellsOf 103 = 16 := by kernel_rfl
/-- The list of the rows. -/
def laidD : List (String × DataW Unit) := [("aumbry/digest.crcNibbles", Rows.laid_aumbry_digest_crcNibbles)]
def nibI : List Int := nibL.map (fun n : Nat => (n : Int))
theorem vars_of_laid {W : World} (h : laidMetH Tryd.prog laidD W) : Vars W := by
  have h' : laidMet Tryd.prog laidD W := h
  obtain ⟨ps, ⟨g0, t0, cs0, f0, p0, q0, hg0, ht0, hv0, hd0, _, _⟩, _⟩ := h'
  obtain rfl := Option.some.inj (gNib.symm.trans hg0)
  obtain rfl := Option.some.inj (tNib.symm.trans ht0)
  have e0 := Lib.cells_of_tab (zs := nibI) Tryd.underlying103 Tryd.underlying83 cellsU cellsN hd0
  have T0 : Lib.TabIs Tryd.prog W "aumbry/digest.crcNibbles" .u32 nibI := by unfold Lib.TabIs; rw [hv0, ← e0]
  intro k hk
  have hn : ∀ k : Fin 16, nibI.getD k.val 0 = ((nibT k.val : Nat) : Int) := by decide
  rw [T0.cell gNib k hk, hn ⟨k, hk⟩]
theorem open_bytes {H : Type} {enc : TypeId × Value → H} {P : Program} {t e : TypeId} (B : Oc.ByteT P t e) (hc : P.cellsOf e = 1) {W : World} {base : Nat} {v : Value} {d : DataW H} {p : List MemPlace}
    (hk : Value.okWide P W .any base t v) (h : DataW.Trod enc P W 0 (fun _ => true) true t v d p) : ∃ bs, Oc.Bs W v bs ∧ Dk.Byt bs := by
  obtain ⟨a, len, cap, rfl⟩ := okWide_slice B.ht hk
  obtain ⟨fuel, hf⟩ := h
  rcases open_ints B.ht B.he hc hf with ⟨hcs, hx⟩ | ⟨x, l, c, zs, hcs, _, hl, hm, hz, hx, hcell, hwz⟩
  · simp [Value.cells] at hcs
    obtain ⟨rfl, rfl, rfl⟩ := hcs
    exact ⟨[], Oc.Bs.nil W, fun x hx => by simp at hx⟩
  · simp [Value.cells] at hcs
    obtain ⟨rfl, rfl, rfl⟩ := hcs
    simp only [if_true] at hz
    have hlen : (zs.take len).length = len := by simp; omega
    refine ⟨zs.take len, ⟨some x, cap, by rw [hlen], by omega, hm, by simp, fun y hy i hi => ?_⟩, fun n hn => ?_⟩
    · cases hy
      rw [hcell i (by omega)]
      simp only [List.getD_eq_getElem?_getD, List.getElem?_take]
      rw [if_pos (by omega)]
    · have := bounds_u8 (hwz n (List.mem_of_mem_take hn))
      omega
set_option maxRecDepth 100000 in
theorem open_b {H : Type} {enc : TypeId × Value → H} {W : World} {base : Nat} {v : Value} {d : DataW H} {p : List MemPlace} (hk : Value.okWide Tryd.prog W .any base 23 v) (h : DataW.Trod enc Tryd.prog W 0 (fun _ => true) true 23 v d p) : ∃ bs, Oc.Bs W v bs ∧ Dk.Byt bs :=
  open_bytes Tryd.bt (by kernel_rfl) hk h
/-- The cells of a block put anew. -/
def putCells (cs : Array Value) : Obj → Obj
  | .cells _ t frozen => .cells cs t frozen
  | o => o
/-- A world for the witness: the settled one, the variable holding what is laid. -/
noncomputable def laidWorld (os : Os) : World :=
  { World.holding Tryd.prog os ⟨#[], #[], []⟩ with heap := (World.holding Tryd.prog os ⟨#[], #[], []⟩).heap.modify 0 (putCells #[.int .u32 0, .int .u32 274646895, .int .u32 549293790, .int .u32 820201905, .int .u32 1098587580, .int .u32 1361435347, .int .u32 1640403810, .int .u32 1905808397, .int .u32 2197175160, .int .u32 2460548119, .int .u32 2722870694, .int .u32 2987750089, .int .u32 3280807620, .int .u32 3553878443, .int .u32 3811616794, .int .u32 4084100981]) }
theorem laid_met (os : Os) (args : Array Value) : laidMetH Tryd.prog laidD ((laidWorld os).forCall (fun _ _ => 0) ⟨#[], args, []⟩).memory :=
  laidMet_of_run' 8 (by kernel_rfl) (by kernel_rfl)
end Go.Proofs.YtgjjjkokmgdmjaaDoor
