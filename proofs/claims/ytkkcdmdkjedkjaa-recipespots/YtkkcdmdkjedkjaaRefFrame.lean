/- What every statement of a seat needs of the program; how refs that came in are opened. -/
import Derived.Test.YtkkcdmdkjedkjaaRows
import Derived.Test.YtkkcdmdkjedkjaaRefs
import Derived.Test.YtkkcdmdkjedkjaaSums
import Derived.ProofKit
import Derived.OpenShut
import Derived.ChangeOld
import Derived.SizedLaws
import Derived.JoinedCond
import Derived.Deep.SlicePairs
import Derived.Deep.Strs
namespace Go.Proofs.Ytkkcdmdkjedkjaa
open Go.ChangeShapes Go.WideShapes Go.ChangeAt Go.RowKit

theorem Try.own : ownKnob Try.prog.godebug = none := by kernel_rfl
set_option maxRecDepth 100000 in
theorem Try.laidOut : laidOutB Try.prog = true := by kernel_rfl
section
variable {H : Type} {enc : TypeId × Value → H} {W : World} {base : Nat} {v : Value} {d : DataW H} {p : List MemPlace}
theorem c3 : Try.prog.cellsOf 3 = 1 := by kernel_rfl
theorem i64_in' {z : Int} (h : (Lit.int .i64 z).wf = true) : -9223372036854775808 ≤ z ∧ z ≤ 9223372036854775807 := by
  have em : IntKind.max .i64 = 9223372036854775807 := by decide
  have en : IntKind.min .i64 = -9223372036854775808 := by decide
  simp only [Lit.wf, em, en, Bool.and_eq_true, decide_eq_true_eq] at h
  omega
theorem weightsAll_at {P : Program} {e : TypeId} : ∀ {l : List (DataW H)} {d : DataW H}, d ∈ l → ∀ n ∈ d.weights P e, n ∈ DataW.weightsAll P e l
  | d' :: r, d, hd, n, hn => by
    simp only [DataW.weightsAll, List.mem_append]
    rcases List.mem_cons.1 hd with rfl | h
    · exact Or.inl hn
    · exact Or.inr (weightsAll_at h n hn)
theorem parts4 {P : Program} {w : World} {base : Nat} {spare : Nat → Bool} {held : Bool} {t : TypeId} {f0 f1 f2 f3 : Field} {fuel : Nat} {cs : List Value} {x : DataW H × List MemPlace} (ht : P.underlying t = some (.struct #[f0, f1, f2, f3])) (h : DataW.trod enc P w base spare held fuel t cs = some x) :
    ∃ y0 y1 y2 y3 n, DataW.trod enc P w base spare held n f0.type ((cs.drop f0.offset).take (P.cellsOf f0.type)) = some y0 ∧
      DataW.trod enc P w base spare held n f1.type ((cs.drop f1.offset).take (P.cellsOf f1.type)) = some y1 ∧ DataW.trod enc P w base spare held n f2.type ((cs.drop f2.offset).take (P.cellsOf f2.type)) = some y2 ∧
      DataW.trod enc P w base spare held n f3.type ((cs.drop f3.offset).take (P.cellsOf f3.type)) = some y3 := by
  obtain ⟨xs, n, _, rfl, _, hlen, hf⟩ := DataW.trod_struct ht h
  match xs, hlen with
  | [y0, y1, y2, y3], _ => exact ⟨y0, y1, y2, y3, n, by simpa using hf 0 f0 rfl, by simpa using hf 1 f1 rfl, by simpa using hf 2 f2 rfl, by simpa using hf 3 f3 rfl⟩
theorem c5 : Try.prog.cellsOf 5 = 1 := by kernel_rfl
theorem c25 : Try.prog.cellsOf 54 = 32 := by kernel_rfl
theorem c28 : Try.prog.cellsOf 56 = 35 := by kernel_rfl
theorem b28 : Try.prog.bytesOf 56 = 56 := by kernel_rfl
theorem u8_in' {z : Int} (h : (Lit.int .u8 z).wf = true) : 0 ≤ z ∧ z < 256 := by
  have em : IntKind.max .u8 = 255 := by decide
  have en : IntKind.min .u8 = 0 := by decide
  simp only [Lit.wf, em, en, Bool.and_eq_true, decide_eq_true_eq] at h
  omega
theorem open_sum {fuel : Nat} {cs : List Value} {x : DataW H × List MemPlace} (h : DataW.trod enc Try.prog W 0 (fun _ => true) true fuel 54 cs = some x) : ∃ s, cs = sc s ∧ Sum32 s := by
  obtain ⟨xs, m, _, _, hlen, hxl, hf⟩ := DataW.trod_array Try.underlying54 h
  rw [c25] at hlen
  have each : ∀ i, i < 32 → ∃ z : Int, cs[i]? = some (.int .u8 z) ∧ 0 ≤ z ∧ z < 256 := fun i hi => by
    have h1 := hf i hi
    rw [c5, Nat.mul_one, List.getElem?_eq_getElem (by omega)] at h1
    obtain ⟨z, e, _, hw⟩ := DataW.trod_int Try.underlying5 h1
    refine ⟨z, ?_, u8_in' hw⟩
    have h2 := congrArg (fun l => l[0]?) e
    simpa [List.getElem?_take, List.getElem?_drop] using h2
  obtain ⟨f, hfz⟩ := Deep.choose_lt (α := Int) (n := 32) (p := fun i z => cs[i]? = some (.int .u8 z) ∧ 0 ≤ z ∧ z < 256) each
  refine ⟨(List.range 32).map f, ?_, by simp, fun z hz => ?_⟩
  · apply List.ext_getElem?
    intro i
    by_cases hi : i < 32
    · rw [(hfz i hi).1, sc_get _ (by simpa using hi)]
      simp [hi]
    · rw [List.getElem?_eq_none (by omega), List.getElem?_eq_none (by rw [sc_len]; simp; omega)]
  · simp at hz
    obtain ⟨i, hi, rfl⟩ := hz
    exact (hfz i hi).2
theorem open_ref {fuel : Nat} {cs : List Value} {x : DataW H × List MemPlace} (hl : cs.length = 35) (h : DataW.trod enc Try.prog W 0 (fun _ => true) true fuel 56 cs = some x) : ∃ r, cs = rc r ∧ Sm r.s ∧ (-9223372036854775808 ≤ r.l ∧ r.l ≤ 9223372036854775807) ∧ (-9223372036854775808 ≤ r.b ∧ r.b ≤ 9223372036854775807) ∧ (-9223372036854775808 ≤ r.o ∧ r.o ≤ 9223372036854775807) := by
  obtain ⟨y0, y1, y2, y3, n, h0, h1, h2, h3⟩ := parts4 Try.underlying56 h
  simp only [c25, c3] at h0 h1 h2 h3
  obtain ⟨s, e0, hs⟩ := open_sum h0
  obtain ⟨z1, e1, _, w1⟩ := DataW.trod_int Try.underlying3 h1
  obtain ⟨z2, e2, _, w2⟩ := DataW.trod_int Try.underlying3 h2
  obtain ⟨z3, e3, _, w3⟩ := DataW.trod_int Try.underlying3 h3
  refine ⟨⟨s, z1, z2, z3⟩, ?_, ⟨hs.len, hs.byte⟩, i64_in' w1, i64_in' w2, i64_in' w3⟩
  have g1 := congrArg (fun l => l[0]?) e1
  have g2 := congrArg (fun l => l[0]?) e2
  have g3 := congrArg (fun l => l[0]?) e3
  simp [List.getElem?_drop] at g1 g2 g3
  simp at e0
  apply List.ext_getElem?
  intro i
  have hr := rc_num ⟨s, z1, z2, z3⟩ ⟨hs.len, hs.byte⟩
  by_cases hi : i < 32
  · rw [rc_sum ⟨s, z1, z2, z3⟩ ⟨hs.len, hs.byte⟩ i hi, ← sc_get s (by rw [hs.len]; exact hi), ← e0, List.getElem?_take, if_pos hi]
  · by_cases hi2 : i < 35
    · have : i = 32 ∨ i = 33 ∨ i = 34 := by omega
      rcases this with rfl | rfl | rfl
      · rw [hr.1, g1]
      · rw [hr.2.1, g2]
      · rw [hr.2.2, g3]
    · rw [List.getElem?_eq_none (by omega), List.getElem?_eq_none (by rw [rc_len _ ⟨hs.len, hs.byte⟩]; omega)]
instance : Inhabited Rf := ⟨r0⟩
/-- Refs that came in. -/
structure RefV (w : World) (v : Value) (L : List Rf) : Prop where
  rd : RdR w v L
  len : L.length ≤ 2513169434843
  wf : ∀ r ∈ L, (-9223372036854775808 ≤ r.l ∧ r.l ≤ 9223372036854775807) ∧ (-9223372036854775808 ≤ r.b ∧ r.b ≤ 9223372036854775807) ∧ (-9223372036854775808 ≤ r.o ∧ r.o ≤ 9223372036854775807)
theorem refs_core {fuel : Nat} {a : Option Addr} {len cap : Nat} {x : DataW H × List MemPlace} (hf : DataW.trod enc Try.prog W 0 (fun _ => true) true fuel 22 [.slice a len cap] = some x) :
    ∃ L : List Rf, RdR W (.slice a len cap) L ∧ (∀ r ∈ L, (-9223372036854775808 ≤ r.l ∧ r.l ≤ 9223372036854775807) ∧ (-9223372036854775808 ≤ r.b ∧ r.b ≤ 9223372036854775807) ∧ (-9223372036854775808 ≤ r.o ∧ r.o ≤ 9223372036854775807)) ∧ (L = [] ∨ ∃ e s, x.1 = .slice e s ∧ e.length = L.length) := by
  rcases Deep.open_slice Try.underlying22 hf with ⟨hcs, _⟩ | ⟨a', len', cap', m, n, D, Pl, hcs, _, hl, hm, hmm, hx, hc⟩
  · simp at hcs
    obtain ⟨rfl, rfl, rfl⟩ := hcs
    exact ⟨[], ⟨⟨none, 0, rfl, Nat.le_refl _, by decide, fun _ => rfl⟩, fun i hi => by simp at hi, by simp⟩, by simp, .inl rfl⟩
  · simp at hcs
    obtain ⟨rfl, rfl, rfl⟩ := hcs
    simp only [if_true] at hmm
    subst hmm
    rw [c28] at hc
    obtain ⟨f, hfr⟩ := Deep.choose_lt (α := Rf) (n := len) (p := fun i r => (∀ j, j < 35 → W.cell? ((a'.add (i * 35)).add j) = (rc r)[j]?) ∧ Sm r.s ∧ (-9223372036854775808 ≤ r.l ∧ r.l ≤ 9223372036854775807) ∧ (-9223372036854775808 ≤ r.b ∧ r.b ≤ 9223372036854775807) ∧ (-9223372036854775808 ≤ r.o ∧ r.o ≤ 9223372036854775807)) (fun i hi => by
      obtain ⟨cs', h1, h2⟩ := hc i (by omega)
      obtain ⟨_, hlen, hcell⟩ := World.cells?_some h1
      obtain ⟨r, e, h3⟩ := open_ref hlen h2
      subst e
      exact ⟨r, hcell, h3⟩)
    have hg : ∀ i, i < len → ((List.range len).map f).getD i r0 = f i := fun i hi => by simp [hi]
    refine ⟨(List.range len).map f, ⟨⟨some a', m, by simp, by simpa using hl, hm, by simp⟩, fun i hi => ?_, fun r hr => ?_⟩, fun r hr => ?_, .inr ⟨_, _, by rw [hx], by simp⟩⟩
    · have hi' : i < len := by simpa using hi
      obtain ⟨h1, h2, _⟩ := hfr i hi'
      obtain ⟨b, off, spot⟩ := a'
      have k0 := (hfr 0 (by omega)).1 0 (by decide)
      rw [rc_sum _ (hfr 0 (by omega)).2.1 0 (by decide)] at k0
      have hs : spot = none := by simpa [Addr.add] using World.cell?_spot k0
      subst hs
      refine ⟨b, off, m, by simp, fun j hj => ?_⟩
      rw [hg i hi']
      have := h1 j hj
      rw [add_plain, add_plain] at this
      exact this
    · simp at hr
      obtain ⟨i, hi, rfl⟩ := hr
      exact (hfr i hi).2.1
    · simp at hr
      obtain ⟨i, hi, rfl⟩ := hr
      exact (hfr i hi).2.2
set_option maxRecDepth 100000 in
theorem open_refs {ts : List TypeId} {ds : List (DataW H)} {j : Nat} (hsz : (DataW.weightsEach Try.prog ts ds).all (· ≤ reachBytes) = true) (ht : ts[j]? = some 22) (hd : ds[j]? = some d) (hk : Value.okWide Try.prog W .any base 22 v) (h : DataW.Trod enc Try.prog W 0 (fun _ => true) true 22 v d p) : ∃ L, RefV W v L := by
  obtain ⟨a, len, cap, rfl⟩ := okWide_slice Try.underlying22 hk
  obtain ⟨fuel, hf⟩ := h
  obtain ⟨L, h1, h2, h3⟩ := refs_core hf
  refine ⟨L, h1, ?_, h2⟩
  rcases h3 with rfl | ⟨e, s, hx, he⟩
  · simp
  · simp only at hx
    subst hx
    have := sized_slice hsz ht hd Try.underlying22
    rw [b28] at this
    simp only [reachBytes] at this
    omega
end
end Go.Proofs.Ytkkcdmdkjedkjaa
