/- What every statement of this seat needs of the program; how bounds and bytes that came in are opened. -/
import Derived.Test.YtngeefipeghjiaaRows
import Derived.Test.YtngeefipeghjiaaL2
import Derived.ProofKit
import Derived.OpenShut
import Derived.ChangeOld
import Derived.SizedLaws
import Derived.JoinedCond
import Derived.Deep.SlicePairs
import Derived.Deep.Strs
namespace Go.Proofs.Ytngeefipeghjiaa
open Go.ChangeShapes Go.WideShapes Go.ChangeAt Go.RowKit

theorem Try.own : ownKnob Try.prog.godebug = none := by kernel_rfl
set_option maxRecDepth 100000 in
theorem Try.laidOut : laidOutB Try.prog = true := by kernel_rfl
section
variable {H : Type} {enc : TypeId × Value → H} {W : World} {base : Nat} {v : Value} {d : DataW H} {p : List MemPlace}
theorem c3 : Try.prog.cellsOf 3 = 1 := by kernel_rfl
theorem c5 : Try.prog.cellsOf 5 = 1 := by kernel_rfl
theorem c24 : Try.prog.cellsOf 24 = 3 := by kernel_rfl
theorem parts3 {P : Program} {w : World} {base : Nat} {spare : Nat → Bool} {held : Bool} {t : TypeId} {f0 f1 f2 : Field} {fuel : Nat} {cs : List Value} {x : DataW H × List MemPlace} (ht : P.underlying t = some (.struct #[f0, f1, f2])) (h : DataW.trod enc P w base spare held fuel t cs = some x) :
    ∃ y0 y1 y2 n, x.1 = .agg [y0.1, y1.1, y2.1] ∧ DataW.trod enc P w base spare held n f0.type ((cs.drop f0.offset).take (P.cellsOf f0.type)) = some y0 ∧
      DataW.trod enc P w base spare held n f1.type ((cs.drop f1.offset).take (P.cellsOf f1.type)) = some y1 ∧ DataW.trod enc P w base spare held n f2.type ((cs.drop f2.offset).take (P.cellsOf f2.type)) = some y2 := by
  obtain ⟨xs, n, _, rfl, _, hlen, hf⟩ := DataW.trod_struct ht h
  match xs, hlen with
  | [y0, y1, y2], _ => exact ⟨y0, y1, y2, n, rfl, by simpa using hf 0 f0 rfl, by simpa using hf 1 f1 rfl, by simpa using hf 2 f2 rfl⟩
theorem open_cut (hk : Value.okWide Try.prog W .any base 24 v) (h : DataW.Trod enc Try.prog W 0 (fun _ => true) true 24 v d p) : ∃ b, CutV v b := by
  obtain ⟨cs, rfl, hsz⟩ := okWide_struct Try.underlying24 hk
  obtain ⟨fuel, hf⟩ := h
  obtain ⟨y0, y1, y2, n, _, h0, h1, h2⟩ := parts3 Try.underlying24 hf
  rw [c24] at hsz
  obtain ⟨ls⟩ := cs
  match ls, hsz with
  | [v0, v1, v2], _ =>
    simp [Value.cells, c3] at h0 h1 h2
    obtain ⟨z0, e0, _, _⟩ := DataW.trod_int Try.underlying3 h0
    obtain ⟨z1, e1, _, _⟩ := DataW.trod_int Try.underlying3 h1
    obtain ⟨z2, e2, _, _⟩ := DataW.trod_int Try.underlying3 h2
    simp only [List.cons.injEq, and_true] at e0 e1 e2
    exact ⟨(z0, z1, z2), by rw [CutV, e0, e1, e2]⟩
def byteAt (w : World) (a : Addr) : Int := match w.cell? a with | some (.int _ z) => z | _ => 0
theorem byteAt_of {w : World} {a : Addr} {k : IntKind} {z : Int} (h : w.cell? a = some (.int k z)) : byteAt w a = z := by simp [byteAt, h]
theorem u8_in' {z : Int} (h : (Lit.int .u8 z).wf = true) : 0 ≤ z ∧ z < 256 := by
  have em : IntKind.max .u8 = 255 := by decide
  have en : IntKind.min .u8 = 0 := by decide
  simp only [Lit.wf, em, en, Bool.and_eq_true, decide_eq_true_eq] at h
  omega
theorem inner_bytes {fuel : Nat} {v : Value} {x : DataW H × List MemPlace} (h : DataW.trod enc Try.prog W 0 (fun _ => true) true fuel 32 [v] = some x) :
    ∃ bs, Bs W v bs ∧ (0 < bs.length → ∀ k, v.ownBlock = some k → k < W.heap.size) ∧ (bs = [] ∨ ∃ e s, x.1 = .slice e s ∧ e.length = bs.length) := by
  rcases Deep.open_slice1 Try.underlying32 c5 h with ⟨hcs, _⟩ | ⟨a, len, cap, m, n, V, D, Pl, hcs, _, hl, hm, hmm, hx, hc⟩
  · simp at hcs
    subst hcs
    exact ⟨[], ⟨none, 0, rfl, Nat.le_refl _, by decide, fun _ => rfl, fun x h => (nomatch h), fun x h => (nomatch h)⟩, fun h => (nomatch h), .inl rfl⟩
  · simp at hcs
    subst hcs
    simp only [if_true] at hmm
    subst hmm
    have each : ∀ i, i < m → ∃ z, W.cell? (a.add i) = some (.int .u8 z) ∧ 0 ≤ z ∧ z < 256 := fun i hi => by
      obtain ⟨h1, h2⟩ := hc i hi
      obtain ⟨z, e, _, hw⟩ := DataW.trod_int Try.underlying5 h2
      simp at e
      rw [e] at h1
      exact ⟨z, h1, u8_in' hw⟩
    refine ⟨(List.range len).map fun i => byteAt W (a.add i), ⟨some a, m, by simp, by simpa using hl, hm, fun h => (nomatch h), fun x hxa i hi => ?_, fun x hxx => ?_⟩, fun h0 k hk => ?_, .inr ⟨_, _, by rw [hx], by simp⟩⟩
    · cases hxa
      have hil : i < len := by simpa using hi
      obtain ⟨z, hz, _⟩ := each i (by omega)
      rw [hz]
      simp [List.getD_eq_getElem?_getD, hil, byteAt_of hz]
    · simp at hxx
      obtain ⟨i, hi, rfl⟩ := hxx
      obtain ⟨z, hz, h0⟩ := each i (by omega)
      rw [byteAt_of hz]
      exact h0
    · have h0' : 0 < len := by simpa using h0
      obtain ⟨z, hz, _⟩ := each 0 (by omega)
      have := World.block_lt_of_cell? _ _ hz
      rw [add_block] at this
      simp [Value.ownBlock] at hk
      omega
set_option maxRecDepth 100000 in
theorem open_b (hk : Value.okWide Try.prog W .any base 32 v) (h : DataW.Trod enc Try.prog W 0 (fun _ => true) true 32 v d p) : ∃ bs, Bs W v bs := by
  obtain ⟨a, len, cap, rfl⟩ := okWide_slice Try.underlying32 hk
  obtain ⟨fuel, hf⟩ := h
  obtain ⟨bs, h1, _⟩ := inner_bytes (v := .slice a len cap) hf
  exact ⟨bs, h1⟩
end
end Go.Proofs.Ytngeefipeghjiaa
