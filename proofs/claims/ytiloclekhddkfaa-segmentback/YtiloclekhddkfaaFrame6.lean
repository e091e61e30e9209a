/- How bytes that came in are opened; the walk of SegmentBack. -/
import Derived.Test.YtiloclekhddkfaaFrame2
import Derived.Test.YtiloclekhddkfaaWB
namespace Go.Proofs.Ytiloclekhddkfaa
open Go.ChangeShapes Go.WideShapes Go.ChangeAt Go.RowKit

/-- Bytes that came in. -/
structure BytV (w : World) (v : Value) (bs : List Int) : Prop where
  rd : Oct.Bs w v bs
  byte : ∀ x ∈ bs, 0 ≤ x ∧ x < 256
  len : bs.length ≤ 140737488355328
section
variable {H : Type} {enc : TypeId × Value → H} {W : World} {base : Nat} {v : Value} {d : DataW H} {p : List MemPlace}
theorem b5 : Try.prog.bytesOf 5 = 1 := by kernel_rfl
theorem bytes_core {fuel : Nat} {a : Option Addr} {len cap : Nat} {x : DataW H × List MemPlace} (h : DataW.trod enc Try.prog W 0 (fun _ => true) true fuel 42 [.slice a len cap] = some x) :
    ∃ bs : List Int, Oct.Bs W (.slice a len cap) bs ∧ (∀ z ∈ bs, 0 ≤ z ∧ z < 256) ∧ (bs = [] ∨ ∃ e s, x.1 = .slice e s ∧ e.length = bs.length) := by
  rcases Deep.open_slice1 Try.underlying42 c5 h with ⟨hcs, _⟩ | ⟨a', len', cap', m, n, V, D, Pl, hcs, _, hl, hm, hmm, hx, hc⟩
  · simp at hcs
    obtain ⟨rfl, rfl, rfl⟩ := hcs
    exact ⟨[], ⟨none, 0, rfl, Nat.le_refl _, by decide, fun _ => rfl, fun x h => (nomatch h)⟩, fun x h => (nomatch h), .inl rfl⟩
  · simp at hcs
    obtain ⟨rfl, rfl, rfl⟩ := hcs
    simp only [if_true] at hmm
    subst hmm
    have each : ∀ i, i < m → ∃ z, W.cell? (a'.add i) = some (.int .u8 z) ∧ 0 ≤ z ∧ z < 256 := fun i hi => by
      obtain ⟨h1, h2⟩ := hc i hi
      obtain ⟨z, e, _, hw⟩ := DataW.trod_int Try.underlying5 h2
      simp at e
      rw [e] at h1
      exact ⟨z, h1, u8_in' hw⟩
    refine ⟨(List.range len).map fun i => numAt W (a'.add i), ⟨some a', m, by simp, by simpa using hl, hm, fun h => (nomatch h), fun x hxa i hi => ?_⟩, fun x hxx => ?_, .inr ⟨_, _, by rw [hx], by simp⟩⟩
    · cases hxa
      have hil : i < len := by simpa using hi
      obtain ⟨z, hz, _⟩ := each i (by omega)
      rw [hz]
      simp [List.getD_eq_getElem?_getD, hil, numAt_of hz]
    · simp at hxx
      obtain ⟨i, hi, rfl⟩ := hxx
      obtain ⟨z, hz, h0⟩ := each i (by omega)
      rw [numAt_of hz]
      exact h0
set_option maxRecDepth 100000 in
theorem open_bv {ts : List TypeId} {ds : List (DataW H)} {j : Nat} (hsz : (DataW.weightsEach Try.prog ts ds).all (· ≤ reachBytes) = true) (ht : ts[j]? = some 42) (hd : ds[j]? = some d) (hk : Value.okWide Try.prog W .any base 42 v) (h : DataW.Trod enc Try.prog W 0 (fun _ => true) true 42 v d p) : ∃ bs, BytV W v bs := by
  obtain ⟨a, len, cap, rfl⟩ := okWide_slice Try.underlying42 hk
  obtain ⟨fuel, hf⟩ := h
  obtain ⟨bs, h1, h2, h3⟩ := bytes_core hf
  refine ⟨bs, h1, h2, ?_⟩
  rcases h3 with rfl | ⟨e, s, hx, he⟩
  · simp
  · simp only at hx
    subst hx
    have := sized_slice hsz ht hd Try.underlying42
    rw [b5] at this
    simp only [reachBytes] at this
    omega
end
theorem walk_segmentBack (v : Value) (L : List Rf) (u : Value) (bs : List Int) (W : World) (h : RefV W v L) (hu : BytV W u bs) : Calls Try.prog 8 #[v, u] W fun e w' => e = .returned (.bool true) ∧ Below W.heap.size W w' :=
  walk_back v u L bs h.rd (by have := h.len; omega) hu.rd hu.byte (by have := hu.len; omega)
end Go.Proofs.Ytiloclekhddkfaa
