/- How a row of pairs of numbers of two bytes is opened; CleanFirst's walk of what came in. -/
import Derived.Test.YtjcojpddjhjhbaaFr
import Derived.Test.YtjcojpddjhjhbaaWFi
namespace Go.Proofs.Ytjcojpddjhjhbaa
open Go.ChangeShapes Go.WideShapes Go.ChangeAt Go.RowKit

section
variable {H : Type} {enc : TypeId × Value → H} {W : World} {base : Nat} {v : Value} {d : DataW H} {p : List MemPlace}
theorem c41 : Try.prog.cellsOf 41 = 1 := by kernel_rfl
theorem c42 : Try.prog.cellsOf 42 = 2 := by kernel_rfl
theorem b42 : Try.prog.bytesOf 42 = 4 := by kernel_rfl
theorem u16_in' {z : Int} (h : (Lit.int .u16 z).wf = true) : 0 ≤ z ∧ z < 65536 := by
  have em : IntKind.max .u16 = 65535 := by decide
  have en : IntKind.min .u16 = 0 := by decide
  simp only [Lit.wf, em, en, Bool.and_eq_true, decide_eq_true_eq] at h
  omega
theorem u8_in' {z : Int} (h : (Lit.int .u8 z).wf = true) : 0 ≤ z ∧ z < 256 := by
  have em : IntKind.max .u8 = 255 := by decide
  have en : IntKind.min .u8 = 0 := by decide
  simp only [Lit.wf, em, en, Bool.and_eq_true, decide_eq_true_eq] at h
  omega
def Two16 (x : Pq) : Prop := 0 ≤ x.1 ∧ x.1 < 65536 ∧ 0 ≤ x.2 ∧ x.2 < 65536
theorem pq2_one (x : Pq) : (pq2 x).length = 2 ∧ ∀ u ∈ pq2 x, u.oneCell' = true := by
  refine ⟨rfl, fun u hu => ?_⟩
  simp [pq2] at hu
  rcases hu with rfl | rfl <;> rfl
theorem open_pq {fuel : Nat} {cs : List Value} {x : DataW H × List MemPlace} (hl : cs.length = 2) (h : DataW.trod enc Try.prog W 0 (fun _ => true) true fuel 42 cs = some x) : ∃ s : Pq, cs = pq2 s ∧ Two16 s := by
  obtain ⟨xs, m, _, _, hlen, hxl, hf⟩ := DataW.trod_array Try.underlying42 h
  have each : ∀ i, i < 2 → ∃ z : Int, cs[i]? = some (.int .u16 z) ∧ 0 ≤ z ∧ z < 65536 := fun i hi => by
    have h1 := hf i hi
    rw [c41, Nat.mul_one, List.getElem?_eq_getElem (by omega)] at h1
    obtain ⟨z, e, _, hw⟩ := DataW.trod_int Try.underlying41 h1
    refine ⟨z, ?_, u16_in' hw⟩
    have h2 := congrArg (fun l => l[0]?) e
    simpa [List.getElem?_take, List.getElem?_drop] using h2
  obtain ⟨z0, e0, b0, b1⟩ := each 0 (by decide)
  obtain ⟨z1, e1, b2, b3⟩ := each 1 (by decide)
  refine ⟨(z0, z1), ?_, b0, b1, b2, b3⟩
  clear each hf hlen h
  match cs, hl, e0, e1 with
  | [a, b], _, e0, e1 =>
    simp at e0 e1
    rw [e0, e1]
    rfl
theorem rows_coreQ {α : Type} [Inhabited α] (f : α → List Value) (Q : α → Prop) (k : Nat) (dd : α) (t e : TypeId) (hk : 0 < k) (hu : Try.prog.underlying t = some (.slice e)) (hc0 : Try.prog.cellsOf e = k) (hone : ∀ x, (f x).length = k ∧ ∀ u ∈ f x, u.oneCell' = true)
    (one : ∀ (fuel : Nat) (cs : List Value) (x : DataW H × List MemPlace), cs.length = k → DataW.trod enc Try.prog W 0 (fun _ => true) true fuel e cs = some x → ∃ r, cs = f r ∧ Q r)
    {fuel : Nat} {a : Option Addr} {len cap : Nat} {x : DataW H × List MemPlace} (hf : DataW.trod enc Try.prog W 0 (fun _ => true) true fuel t [.slice a len cap] = some x) :
    ∃ L : List α, RdE f k dd W (.slice a len cap) L ∧ (∀ r ∈ L, Q r) ∧ (L = [] ∨ ∃ e s, x.1 = .slice e s ∧ e.length = L.length) := by
  rcases Deep.open_slice hu hf with ⟨hcs, _⟩ | ⟨a', len', cap', m, n, D, Pl, hcs, _, hl, hm, hmm, hx, hc⟩
  · simp at hcs
    obtain ⟨rfl, rfl, rfl⟩ := hcs
    exact ⟨[], ⟨⟨none, 0, rfl, Nat.le_refl _, by decide, fun _ => rfl⟩, fun i hi => by simp at hi, by simp⟩, by simp, .inl rfl⟩
  · simp at hcs
    obtain ⟨rfl, rfl, rfl⟩ := hcs
    simp only [if_true] at hmm
    subst hmm
    rw [hc0] at hc
    obtain ⟨g, hfr⟩ := Deep.choose_lt (α := α) (n := len) (p := fun i r => (∀ j, j < k → W.cell? ((a'.add (i * k)).add j) = (f r)[j]?) ∧ Q r) (fun i hi => by
      obtain ⟨cs', h1, h2⟩ := hc i (by omega)
      obtain ⟨_, hlen, hcell⟩ := World.cells?_some h1
      obtain ⟨r, e, hq⟩ := one _ _ _ hlen h2
      subst e
      exact ⟨r, hcell, hq⟩)
    have hg : ∀ i, i < len → ((List.range len).map g).getD i dd = g i := fun i hi => by simp [hi]
    refine ⟨(List.range len).map g, ⟨⟨some a', m, by simp, by simpa using hl, hm, by simp⟩, fun i hi => ?_, fun r hr => hone r⟩, fun r hr => ?_, .inr ⟨_, _, by rw [hx], by simp⟩⟩
    · have hi' : i < len := by simpa using hi
      have h1 := (hfr i hi').1
      obtain ⟨b, off, spot⟩ := a'
      have h00 := (hfr 0 (by omega)).1 0 hk
      have hlt : 0 < (f (g 0)).length := by rw [(hone (g 0)).1]; exact hk
      rw [List.getElem?_eq_getElem hlt] at h00
      have hs : spot = none := by simpa [Addr.add] using World.cell?_spot h00
      subst hs
      refine ⟨b, off, m, by simp, fun j hj => ?_⟩
      rw [hg i hi']
      have := h1 j hj
      rw [add_plain, add_plain] at this
      exact this
    · simp at hr
      obtain ⟨i, hi, rfl⟩ := hr
      exact (hfr i hi).2
structure PqV (w : World) (v : Value) (L : List Pq) : Prop where
  rd : RdE pq2 2 p0 w v L
  two : ∀ x ∈ L, Two16 x
  len : L.length ≤ 35184372088832
set_option maxRecDepth 100000 in
theorem open_pairs {ts : List TypeId} {ds : List (DataW H)} {j : Nat} (hsz : (DataW.weightsEach Try.prog ts ds).all (· ≤ reachBytes) = true) (ht : ts[j]? = some 40) (hd : ds[j]? = some d) (hk : Value.okWide Try.prog W .any base 40 v) (h : DataW.Trod enc Try.prog W 0 (fun _ => true) true 40 v d p) : ∃ L, PqV W v L := by
  obtain ⟨a, len, cap, rfl⟩ := okWide_slice Try.underlying40 hk
  obtain ⟨fuel, hf⟩ := h
  obtain ⟨L, h1, h2, h3⟩ := rows_coreQ pq2 Two16 2 p0 40 42 (by decide) Try.underlying40 c42 pq2_one (fun _ _ _ h1 h2 => open_pq h1 h2) hf
  refine ⟨L, h1, h2, ?_⟩
  rcases h3 with rfl | ⟨e, s, hx, he⟩
  · simp
  · simp only at hx
    subst hx
    have := sized_slice hsz ht hd Try.underlying40
    rw [b42] at this
    simp only [reachBytes] at this
    omega
theorem walk_cleanFirst (v : Value) (L : List Pq) (p mo : Int) (W : World) (h : PqV W v L) (hp : (Lit.int .u8 p).wf = true) (hm : (Lit.int .u8 mo).wf = true) :
    Calls Try.prog 6 #[v, .int .u8 p, .int .u8 mo] W fun e w' => e = .returned (.bool true) ∧ Below W.heap.size W w' :=
  cleanFirst_any v L p mo h.rd h.len h.two (u8_in' hp) (u8_in' hm)
end
end Go.Proofs.Ytjcojpddjhjhbaa
