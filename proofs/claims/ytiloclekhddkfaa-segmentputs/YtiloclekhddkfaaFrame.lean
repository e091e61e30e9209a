/- What every statement of this seat needs of the program; how lists of numbers that came in are opened. -/
import Derived.Test.YtiloclekhddkfaaRows
import Derived.Test.YtiloclekhddkfaaWC
import Derived.ProofKit
import Derived.OpenShut
import Derived.ChangeOld
import Derived.SizedLaws
import Derived.JoinedCond
import Derived.Deep.SlicePairs
import Derived.Deep.Strs
namespace Go.Proofs.Ytiloclekhddkfaa
open Go.ChangeShapes Go.WideShapes Go.ChangeAt Go.RowKit

theorem Try.own : ownKnob Try.prog.godebug = none := by kernel_rfl
set_option maxRecDepth 100000 in
theorem Try.laidOut : laidOutB Try.prog = true := by kernel_rfl
section
variable {H : Type} {enc : TypeId × Value → H} {W : World} {base : Nat} {v : Value} {d : DataW H} {p : List MemPlace}
theorem c3 : Try.prog.cellsOf 3 = 1 := by kernel_rfl
theorem c39 : Try.prog.cellsOf 39 = 1 := by kernel_rfl
theorem i64_in' {z : Int} (h : (Lit.int .i64 z).wf = true) : -9223372036854775808 ≤ z ∧ z ≤ 9223372036854775807 := by
  have em : IntKind.max .i64 = 9223372036854775807 := by decide
  have en : IntKind.min .i64 = -9223372036854775808 := by decide
  simp only [Lit.wf, em, en, Bool.and_eq_true, decide_eq_true_eq] at h
  omega
def numAt (w : World) (a : Addr) : Int := match w.cell? a with | some (.int _ z) => z | _ => 0
theorem numAt_of {w : World} {a : Addr} {k : IntKind} {z : Int} (h : w.cell? a = some (.int k z)) : numAt w a = z := by simp [numAt, h]
theorem inner_ints {fuel : Nat} {v : Value} {x : DataW H × List MemPlace} (h : DataW.trod enc Try.prog W 0 (fun _ => true) true fuel 39 [v] = some x) :
    ∃ l : List Int, RdI W v l ∧ ∀ z ∈ l, -9223372036854775808 ≤ z ∧ z ≤ 9223372036854775807 := by
  rcases Deep.open_slice1 Try.underlying39 c3 h with ⟨hcs, _⟩ | ⟨a, len, cap, m, n, V, D, Pl, hcs, _, hl, hm, hmm, hx, hc⟩
  · simp at hcs
    subst hcs
    exact ⟨[], ⟨none, 0, rfl, Nat.le_refl _, by decide, fun _ => rfl, fun x h => (nomatch h)⟩, fun x h => (nomatch h)⟩
  · simp at hcs
    subst hcs
    simp only [if_true] at hmm
    subst hmm
    have each : ∀ i, i < m → ∃ z, W.cell? (a.add i) = some (.int .i64 z) ∧ (-9223372036854775808 ≤ z ∧ z ≤ 9223372036854775807) := fun i hi => by
      obtain ⟨h1, h2⟩ := hc i hi
      obtain ⟨z, e, _, hw⟩ := DataW.trod_int Try.underlying3 h2
      simp at e
      rw [e] at h1
      exact ⟨z, h1, i64_in' hw⟩
    refine ⟨(List.range len).map fun i => numAt W (a.add i), ⟨some a, m, by simp [iv], by simpa [iv] using hl, hm, fun h => (nomatch h), fun x hxa i hi => ?_⟩, fun z hz => ?_⟩
    · cases hxa
      have hil : i < len := by simpa [iv] using hi
      obtain ⟨z, hz, _⟩ := each i (by omega)
      rw [hz]
      simp [iv, hil, numAt_of hz]
    · simp at hz
      obtain ⟨i, hi, rfl⟩ := hz
      obtain ⟨z, hz, h0⟩ := each i (by omega)
      rw [numAt_of hz]
      exact h0
/-- Lists of numbers that came in. -/
structure ArgV (w : World) (v : Value) (M : List (List Int)) : Prop where
  arg : ArgL w v M
  wf : ∀ i, i < M.length → ∀ x ∈ M.getD i [], -9223372036854775808 ≤ x ∧ x ≤ 9223372036854775807
set_option maxRecDepth 100000 in
theorem open_li (hk : Value.okWide Try.prog W .any base 37 v) (h : DataW.Trod enc Try.prog W 0 (fun _ => true) true 37 v d p) : ∃ M, ArgV W v M := by
  obtain ⟨a, len, cap, rfl⟩ := okWide_slice Try.underlying37 hk
  obtain ⟨fuel, hf⟩ := h
  rcases Deep.open_slice1 Try.underlying37 c39 hf with ⟨hcs, _⟩ | ⟨a', len', cap', m, n, V, D, Pl, hcs, _, hl, hm, hmm, hx, hc⟩
  · simp [Value.cells] at hcs
    obtain ⟨rfl, rfl, rfl⟩ := hcs
    exact ⟨[], ⟨⟨none, 0, rfl, Nat.le_refl _⟩, fun i hi => by simp at hi⟩, fun i hi => by simp at hi⟩
  · simp [Value.cells] at hcs
    obtain ⟨rfl, rfl, rfl⟩ := hcs
    simp only [if_true] at hmm
    subst hmm
    obtain ⟨f, hfm⟩ := Deep.choose_lt (α := List Int) (n := len) (p := fun i l => RdI W (V i) l ∧ ∀ z ∈ l, -9223372036854775808 ≤ z ∧ z ≤ 9223372036854775807) (fun i hi => inner_ints (hc i (by omega)).2)
    have hg : ∀ i, i < len → ((List.range len).map f).getD i [] = f i := fun i hi => by simp [hi]
    refine ⟨(List.range len).map f, ⟨⟨some a', m, by simp, by simpa using hl⟩, fun i hi => ?_⟩, fun i hi x hx' => ?_⟩
    · have hi' : i < len := by simpa using hi
      obtain ⟨b, off, spot⟩ := a'
      have k0 := (hc 0 (by omega)).1
      have hs : spot = none := by simpa [Addr.add] using World.cell?_spot k0
      subst hs
      have k1 := (hc i (by omega)).1
      rw [add_plain] at k1
      have hr := (hfm i hi').1
      obtain ⟨x, q, e, _⟩ := hr.shape
      rw [e] at k1 hr
      refine ⟨b, off, m, x, _, q, by simp, k1, ?_⟩
      rw [hg i hi']
      exact hr
    · have hi' : i < len := by simpa using hi
      rw [hg i hi'] at hx'
      exact (hfm i hi').2 x hx'
end
theorem walk_SegmentChampions (v : Value) (M : List (List Int)) (most : Int) (W : World) (h : ArgV W v M) (_ : (Lit.int .i64 most).wf = true) : Calls Try.prog 6 #[v, .int .i64 most] W fun e w' => e = .returned (.bool true) ∧ Below W.heap.size W w' :=
  walk_segmentChampions v M most h.arg h.wf
end Go.Proofs.Ytiloclekhddkfaa
