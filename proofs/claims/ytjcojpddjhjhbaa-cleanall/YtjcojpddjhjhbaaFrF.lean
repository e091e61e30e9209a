/- How containers that came in are opened. -/
import Derived.Test.YtjcojpddjhjhbaaFr
namespace Go.Proofs.Ytjcojpddjhjhbaa
open Go.ChangeShapes Go.WideShapes Go.ChangeAt Go.RowKit

section
variable {H : Type} {enc : TypeId × Value → H} {W : World} {base : Nat} {v : Value} {d : DataW H} {p : List MemPlace}
theorem c39 : Try.prog.cellsOf 39 = 2 := by kernel_rfl
theorem b39 : Try.prog.bytesOf 39 = 32 := by kernel_rfl
theorem open_ints32 {fuel : Nat} {cs : List Value} {x : DataW H × List MemPlace} (hf : DataW.trod enc Try.prog W 0 (fun _ => true) true fuel 32 cs = some x) : ∃ sl l, cs = [sl] ∧ RdI W sl l := by
  rcases Deep.open_slice Try.underlying32 hf with ⟨hcs, _⟩ | ⟨a', len, cap, m, n, D, Pl, hcs, _, hl, hm, hmm, hx, hc⟩
  · subst hcs
    exact ⟨_, [], rfl, ⟨none, 0, rfl, Nat.le_refl _, by decide, fun _ => rfl, fun x hx => by cases hx⟩⟩
  · subst hcs
    simp only [if_true] at hmm
    subst hmm
    rw [c3] at hc
    obtain ⟨g, hg⟩ := Deep.choose_lt (α := Int) (n := len) (p := fun i z => W.cell? (a'.add i) = some (.int .i64 z)) (fun i hi => by
      obtain ⟨cs', h1, h2⟩ := hc i (by omega)
      obtain ⟨_, hlen, hcell⟩ := World.cells?_some h1
      obtain ⟨z, e, _, _⟩ := DataW.trod_int Try.underlying3 h2
      subst e
      have := hcell 0 (by decide)
      rw [Nat.mul_one] at this
      refine ⟨z, ?_⟩
      have e2 : (a'.add i).add 0 = a'.add i := by unfold Addr.add; split <;> simp_all
      rw [e2] at this
      exact this)
    refine ⟨_, (List.range len).map g, rfl, ⟨some a', m, by simp [iv], by simpa [iv] using hl, hm, by simp, fun x hx i hi => ?_⟩⟩
    cases hx
    have hi' : i < len := by simpa [iv] using hi
    rw [hg i hi']
    simp [iv, hi']
theorem open_fill {fuel : Nat} {cs : List Value} {x : DataW H × List MemPlace} (hl : cs.length = 2) (h : DataW.trod enc Try.prog W 0 (fun _ => true) true fuel 39 cs = some x) : ∃ f : Fl, ∃ sl, cs = [.int .i64 f.1, sl] ∧ RdI W sl f.2 := by
  obtain ⟨y0, y1, n, h0, h1⟩ := parts2 Try.underlying39 h
  simp only [c3, c32] at h0 h1
  obtain ⟨z0, e0, _, w0⟩ := DataW.trod_int Try.underlying3 h0
  obtain ⟨sl, l, e1, hr⟩ := open_ints32 h1
  refine ⟨(z0, l), sl, ?_, hr⟩
  match cs, hl with
  | [a, b], _ =>
    simp at e0 e1
    rw [e0, e1]
instance : Inhabited Fl := ⟨f0⟩
structure FillV (w : World) (v : Value) (F : List Fl) : Prop where
  rd : RdF w v F
  len : F.length ≤ 5000000000000
theorem fills_core {fuel : Nat} {a : Option Addr} {len cap : Nat} {x : DataW H × List MemPlace} (hf : DataW.trod enc Try.prog W 0 (fun _ => true) true fuel 22 [.slice a len cap] = some x) :
    ∃ F : List Fl, RdF W (.slice a len cap) F ∧ (F = [] ∨ ∃ e s, x.1 = .slice e s ∧ e.length = F.length) := by
  rcases Deep.open_slice Try.underlying22 hf with ⟨hcs, _⟩ | ⟨a', len', cap', m, n, D, Pl, hcs, _, hl, hm, hmm, hx, hc⟩
  · simp at hcs
    obtain ⟨rfl, rfl, rfl⟩ := hcs
    exact ⟨[], ⟨⟨none, 0, rfl, Nat.le_refl _, by decide, fun _ => rfl⟩, fun i hi => by simp at hi⟩, .inl rfl⟩
  · simp at hcs
    obtain ⟨rfl, rfl, rfl⟩ := hcs
    simp only [if_true] at hmm
    subst hmm
    rw [c39] at hc
    obtain ⟨f, hfr⟩ := Deep.choose_lt (α := Fl) (n := len) (p := fun i r => ∃ sl, W.cell? ((a'.add (i * 2)).add 0) = some (.int .i64 r.1) ∧ W.cell? ((a'.add (i * 2)).add 1) = some sl ∧ RdI W sl r.2) (fun i hi => by
      obtain ⟨cs', h1, h2⟩ := hc i (by omega)
      obtain ⟨_, hlen, hcell⟩ := World.cells?_some h1
      obtain ⟨r, sl, e, hr⟩ := open_fill hlen h2
      subst e
      exact ⟨r, sl, by simpa using hcell 0 (by decide), by simpa using hcell 1 (by decide), hr⟩)
    have hg : ∀ i, i < len → ((List.range len).map f).getD i f0 = f i := fun i hi => by simp [hi]
    refine ⟨(List.range len).map f, ⟨⟨some a', m, by simp, by simpa using hl, hm, by simp⟩, fun i hi => ?_⟩, .inr ⟨_, _, by rw [hx], by simp⟩⟩
    have hi' : i < len := by simpa using hi
    obtain ⟨sl, h1, h2, h3⟩ := hfr i hi'
    obtain ⟨b, off, spot⟩ := a'
    obtain ⟨_, h10, _, _⟩ := hfr 0 (by omega)
    have hs : spot = none := by simpa [Addr.add] using World.cell?_spot h10
    subst hs
    rw [add_plain, add_plain] at h1 h2
    refine ⟨b, off, m, sl, by simp, ?_, h2, ?_⟩
    · rw [hg i hi']; exact h1
    · rw [hg i hi']; exact h3
set_option maxRecDepth 100000 in
theorem open_fills {ts : List TypeId} {ds : List (DataW H)} {j : Nat} (hsz : (DataW.weightsEach Try.prog ts ds).all (· ≤ reachBytes) = true) (ht : ts[j]? = some 22) (hd : ds[j]? = some d) (hk : Value.okWide Try.prog W .any base 22 v) (h : DataW.Trod enc Try.prog W 0 (fun _ => true) true 22 v d p) : ∃ F, FillV W v F := by
  obtain ⟨a, len, cap, rfl⟩ := okWide_slice Try.underlying22 hk
  obtain ⟨fuel, hf⟩ := h
  obtain ⟨F, h1, h3⟩ := fills_core hf
  refine ⟨F, h1, ?_⟩
  rcases h3 with rfl | ⟨e, s, hx, he⟩
  · simp
  · simp only at hx
    subst hx
    have := sized_slice hsz ht hd Try.underlying22
    rw [b39] at this
    simp only [reachBytes] at this
    omega
end
end Go.Proofs.Ytjcojpddjhjhbaa
