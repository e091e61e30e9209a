/- How bytes, a crash and a deed that came in by value are opened. -/
import Derived.Test.YtmcikhdfpmkpnaaFrame2
namespace Go.Proofs.Ytmcikhdfpmkpnaa
open Go.ChangeShapes Go.WideShapes Go.ChangeAt Go.RowKit

section
variable {H : Type} {enc : TypeId × Value → H} {W : World} {base : Nat} {v : Value} {d : DataW H} {p : List MemPlace}
set_option maxRecDepth 100000 in
theorem open_b (hk : Value.okWide Try.prog W .any base 37 v) (h : DataW.Trod enc Try.prog W 0 (fun _ => true) true 37 v d p) : ∃ bs, Bs W v bs := by
  obtain ⟨a, len, cap, rfl⟩ := okWide_slice Try.underlying37 hk
  obtain ⟨fuel, hf⟩ := h
  obtain ⟨bs, h1, _⟩ := inner_bytes (v := .slice a len cap) hf
  exact ⟨bs, h1⟩
/-- A crash by value. -/
def CrV (w : World) (v : Value) (c : Cr) : Prop := ∃ kv, v = .agg #[kv, .int .i64 c.torn, .int .i64 c.at'] ∧ Ks w kv c.keep ∧ (0 < c.keep.length → ∀ k, kv.ownBlock = some k → k < w.heap.size)
set_option maxRecDepth 100000 in
theorem open_cr (hk : Value.okWide Try.prog W .any base 40 v) (h : DataW.Trod enc Try.prog W 0 (fun _ => true) true 40 v d p) : ∃ c, CrV W v c := by
  obtain ⟨cs, rfl, hsz⟩ := okWide_struct Try.underlying40 hk
  obtain ⟨fuel, hf⟩ := h
  rw [c40] at hsz
  obtain ⟨ls⟩ := cs
  match ls, hsz with
  | [v0, v1, v2], _ =>
    obtain ⟨ks, t, a, h1, h2, rfl, rfl⟩ := inner_crash (v0 := v0) (v1 := v1) (v2 := v2) hf
    exact ⟨⟨ks, t, a⟩, v0, rfl, h1, h2⟩
/-- A deed by value. -/
def DeedV (w : World) (v : Value) (x : Dd) : Prop := ∃ bv kv, v = ddV bv kv x ∧ DdV w w.heap.size bv kv x
theorem sized_one {ts : List TypeId} {ds : List (DataW H)} (h : (DataW.weightsEach Try.prog ts ds).all (· ≤ reachBytes) = true) {j : Nat} {y0 y1 y3 : DataW H} {e s : List (DataW H)} (ht : ts[j]? = some 42) (hd : ds[j]? = some (.agg [y0, y1, .slice e s, y3])) : e.length ≤ 140737488355328 := by
  have := of_decide_eq_true (List.all_eq_true.1 h ((e.length + s.length) * Try.prog.bytesOf 5) (DataW.weights_mem_each ht hd _ (by
    simp only [DataW.weights, Try.underlying42]
    simp [DataW.weightsEach, DataW.weights, Try.underlying37])))
  rw [b5] at this
  simp only [reachBytes] at this
  omega
set_option maxRecDepth 100000 in
theorem open_dd {ts : List TypeId} {ds : List (DataW H)} (hsz : (DataW.weightsEach Try.prog ts ds).all (· ≤ reachBytes) = true) {j : Nat} (ht : ts[j]? = some 42) (hd : ds[j]? = some d) (hk : Value.okWide Try.prog W .any base 42 v) (h : DataW.Trod enc Try.prog W 0 (fun _ => true) true 42 v d p) : ∃ x, DeedV W v x := by
  obtain ⟨cs, rfl, hz⟩ := okWide_struct Try.underlying42 hk
  obtain ⟨fuel, hf⟩ := h
  rw [c42] at hz
  obtain ⟨ls⟩ := cs
  match ls, hz with
  | [v0, v1, v2, v3, v4, v5], _ =>
    obtain ⟨x, rfl, rfl, rfl, rfl, hb, hks, hf1, hf2, hN, hs⟩ := inner_deed (v0 := v0) (v1 := v1) (v2 := v2) (v3 := v3) (v4 := v4) (v5 := v5) hf
    refine ⟨x, v2, v3, rfl, hb, hks, hf1, hf2, hN, ?_⟩
    rcases hs with e | ⟨y0, y1, y3, e, s, h3, h4⟩
    · rw [e]; simp
    · rw [← h4]
      simp only at h3
      rw [h3] at hd
      exact sized_one hsz ht hd
end
end Go.Proofs.Ytmcikhdfpmkpnaa
