/- How rows of shards that came in are opened. -/
import Derived.Test.YtbdmbhpmbklaiaaFrGp
namespace Go.Proofs.Ytbdmbhpmbklaiaa
open Go.ChangeShapes Go.WideShapes Go.ChangeAt Go.RowKit Gf

/-- Rows of shards that came in. -/
structure ShV (w : World) (v : Value) (L : List Sd) : Prop where
  rd : RdR w (w.heap.size, 1000) v L
section
variable {H : Type} {enc : TypeId × Value → H} {W : World} {base : Nat} {v : Value} {d : DataW H} {p : List MemPlace}
theorem cr33 : Try.prog.cellsOf 33 = 1 := by kernel_rfl
theorem inner_shard {fuel : Nat} {u : Value} {x : DataW H × List MemPlace} (h : DataW.trod enc Try.prog W 0 (fun _ => true) true fuel 33 [u] = some x) : ∃ s : Sd, RdS W (W.heap.size, 1000) u s := by
  have hsh : ∃ a n c, u = .slice a n c := by
    rcases Deep.open_slice1 Try.underlying33 cb5 h with ⟨hcs, _⟩ | ⟨a', len', cap', m, n, V, D, Pl, hcs, _⟩
    · simp at hcs; exact ⟨_, _, _, hcs⟩
    · simp at hcs; exact ⟨_, _, _, hcs⟩
  obtain ⟨a, n, c, rfl⟩ := hsh
  obtain ⟨l, h1, _⟩ := elems_core h
  cases a with
  | none =>
    have hl : l = [] := by
      obtain ⟨a', c', e, h2, h3, h4⟩ := h1.shape
      simp only [Value.slice.injEq] at e
      have := h4 e.1.symm
      exact List.length_eq_zero_iff.1 (by omega)
    subst hl
    exact ⟨none, ⟨none, n, c, rfl, by simp⟩, h1, fun h0 => by simp [sl] at h0⟩
  | some ad => exact ⟨some l, ⟨some ad, n, c, rfl, by simp⟩, h1, fun h0 k hk => .inl (h1.lt h0 k hk)⟩
set_option maxRecDepth 100000 in
theorem open_sh (hk : Value.okWide Try.prog W .any base 22 v) (h : DataW.Trod enc Try.prog W 0 (fun _ => true) true 22 v d p) : ∃ L, ShV W v L := by
  obtain ⟨a, len, cap, rfl⟩ := okWide_slice Try.underlying22 hk
  obtain ⟨fuel, hf⟩ := h
  rcases Deep.open_slice1 Try.underlying22 cr33 hf with ⟨hcs, _⟩ | ⟨a', len', cap', m, n, V, D, Pl, hcs, _, hl, hm, hmm, hx, hc⟩
  · simp [Value.cells] at hcs
    obtain ⟨rfl, rfl, rfl⟩ := hcs
    exact ⟨[], ⟨[], ⟨none, 0, rfl, Nat.le_refl _, by decide, fun _ => rfl, fun x h => (nomatch h)⟩, Each.nil _ _⟩⟩
  · simp [Value.cells] at hcs
    obtain ⟨rfl, rfl, rfl⟩ := hcs
    simp only [if_true] at hmm
    subst hmm
    obtain ⟨f, hfm⟩ := Deep.choose_lt (α := Sd) (n := len) (p := fun i s => RdS W (W.heap.size, 1000) (V i) s) (fun i hi => inner_shard (hc i (by omega)).2)
    refine ⟨(List.range len).map f, ⟨(List.range len).map V, ⟨some a', m, by simp, by simpa using hl, hm, fun h => (nomatch h), fun x hxa i hi => ?_⟩, by simp, fun i hi => ?_⟩⟩
    · cases hxa
      have hi' : i < len := by simpa using hi
      rw [(hc i (by omega)).1]
      simp [hi']
    · have hi' : i < len := by simpa using hi
      exact ⟨V i, by simp [hi'], by simpa [List.getD, hi'] using hfm i hi'⟩
end
end Go.Proofs.Ytbdmbhpmbklaiaa
