/- How moves that came in are opened. -/
import Derived.Test.YtkkcdmdkjedkjaaRefFrame
import Derived.Test.YtkkcdmdkjedkjaaM2
namespace Go.Proofs.Ytkkcdmdkjedkjaa
open Go.ChangeShapes Go.WideShapes Go.ChangeAt Go.RowKit

section
variable {H : Type} {enc : TypeId × Value → H} {W : World} {base : Nat} {v : Value} {d : DataW H} {p : List MemPlace}
theorem parts2 {P : Program} {w : World} {base : Nat} {spare : Nat → Bool} {held : Bool} {t : TypeId} {f0 f1 : Field} {fuel : Nat} {cs : List Value} {x : DataW H × List MemPlace} (ht : P.underlying t = some (.struct #[f0, f1])) (h : DataW.trod enc P w base spare held fuel t cs = some x) :
    ∃ y0 y1 n, DataW.trod enc P w base spare held n f0.type ((cs.drop f0.offset).take (P.cellsOf f0.type)) = some y0 ∧
      DataW.trod enc P w base spare held n f1.type ((cs.drop f1.offset).take (P.cellsOf f1.type)) = some y1 := by
  obtain ⟨xs, n, _, rfl, _, hlen, hf⟩ := DataW.trod_struct ht h
  match xs, hlen with
  | [y0, y1], _ => exact ⟨y0, y1, n, by simpa using hf 0 f0 rfl, by simpa using hf 1 f1 rfl⟩
theorem c61 : Try.prog.cellsOf 61 = 2 := by kernel_rfl
theorem c63 : Try.prog.cellsOf 63 = 4 := by kernel_rfl
theorem b63 : Try.prog.bytesOf 63 = 32 := by kernel_rfl
theorem open_spot {fuel : Nat} {cs : List Value} {x : DataW H × List MemPlace} (hl : cs.length = 2) (h : DataW.trod enc Try.prog W 0 (fun _ => true) true fuel 61 cs = some x) : ∃ s : Sp, cs = [.int .i64 s.1, .int .i64 s.2] := by
  obtain ⟨y0, y1, n, h0, h1⟩ := parts2 Try.underlying61 h
  simp only [c3] at h0 h1
  obtain ⟨z0, e0, _, w0⟩ := DataW.trod_int Try.underlying3 h0
  obtain ⟨z1, e1, _, w1⟩ := DataW.trod_int Try.underlying3 h1
  refine ⟨(z0, z1), ?_⟩
  match cs, hl with
  | [a, b], _ =>
    simp at e0 e1
    rw [e0, e1]
theorem open_mov {fuel : Nat} {cs : List Value} {x : DataW H × List MemPlace} (hl : cs.length = 4) (h : DataW.trod enc Try.prog W 0 (fun _ => true) true fuel 63 cs = some x) : ∃ m, cs = mc m := by
  obtain ⟨y0, y1, n, h0, h1⟩ := parts2 Try.underlying63 h
  simp only [c61] at h0 h1
  match cs, hl with
  | [a, b, c, e], _ =>
    obtain ⟨s, e0⟩ := open_spot (by simp) h0
    obtain ⟨t, e1⟩ := open_spot (by simp) h1
    simp at e0 e1
    obtain ⟨rfl, rfl⟩ := e0
    obtain ⟨rfl, rfl⟩ := e1
    exact ⟨(s, t), rfl⟩
instance : Inhabited (Sp × Sp) := ⟨m0⟩
theorem mc_one (m : Sp × Sp) : (mc m).length = 4 ∧ ∀ u ∈ mc m, u.oneCell' = true := by
  refine ⟨rfl, fun u hu => ?_⟩
  simp [mc] at hu
  rcases hu with rfl | rfl | rfl | rfl <;> rfl
structure MovV (w : World) (v : Value) (L : List (Sp × Sp)) : Prop where
  rd : RdE mc 4 m0 w v L
  len : L.length ≤ 4398046511104
theorem moves_core {fuel : Nat} {a : Option Addr} {len cap : Nat} {x : DataW H × List MemPlace} (hf : DataW.trod enc Try.prog W 0 (fun _ => true) true fuel 51 [.slice a len cap] = some x) :
    ∃ L : List (Sp × Sp), RdE mc 4 m0 W (.slice a len cap) L ∧ (L = [] ∨ ∃ e s, x.1 = .slice e s ∧ e.length = L.length) := by
  rcases Deep.open_slice Try.underlying51 hf with ⟨hcs, _⟩ | ⟨a', len', cap', m, n, D, Pl, hcs, _, hl, hm, hmm, hx, hc⟩
  · simp at hcs
    obtain ⟨rfl, rfl, rfl⟩ := hcs
    exact ⟨[], ⟨⟨none, 0, rfl, Nat.le_refl _, by decide, fun _ => rfl⟩, fun i hi => by simp at hi, by simp⟩, .inl rfl⟩
  · simp at hcs
    obtain ⟨rfl, rfl, rfl⟩ := hcs
    simp only [if_true] at hmm
    subst hmm
    rw [c63] at hc
    obtain ⟨f, hfr⟩ := Deep.choose_lt (α := Sp × Sp) (n := len) (p := fun i r => (∀ j, j < 4 → W.cell? ((a'.add (i * 4)).add j) = (mc r)[j]?)) (fun i hi => by
      obtain ⟨cs', h1, h2⟩ := hc i (by omega)
      obtain ⟨_, hlen, hcell⟩ := World.cells?_some h1
      obtain ⟨r, e⟩ := open_mov hlen h2
      subst e
      exact ⟨r, hcell⟩)
    have hg : ∀ i, i < len → ((List.range len).map f).getD i m0 = f i := fun i hi => by simp [hi]
    refine ⟨(List.range len).map f, ⟨⟨some a', m, by simp, by simpa using hl, hm, by simp⟩, fun i hi => ?_, fun r hr => mc_one r⟩, .inr ⟨_, _, by rw [hx], by simp⟩⟩
    have hi' : i < len := by simpa using hi
    have h1 := hfr i hi'
    obtain ⟨b, off, spot⟩ := a'
    have k0 : W.cell? (((⟨b, off, spot⟩ : Addr).add (0 * 4)).add 0) = some (.int .i64 (f 0).1.1) := (hfr 0 (by omega)) 0 (by decide)
    have hs : spot = none := by simpa [Addr.add] using World.cell?_spot k0
    subst hs
    refine ⟨b, off, m, by simp, fun j hj => ?_⟩
    rw [hg i hi']
    have := h1 j hj
    rw [add_plain, add_plain] at this
    exact this
set_option maxRecDepth 100000 in
theorem open_moves {ts : List TypeId} {ds : List (DataW H)} {j : Nat} (hsz : (DataW.weightsEach Try.prog ts ds).all (· ≤ reachBytes) = true) (ht : ts[j]? = some 51) (hd : ds[j]? = some d) (hk : Value.okWide Try.prog W .any base 51 v) (h : DataW.Trod enc Try.prog W 0 (fun _ => true) true 51 v d p) : ∃ L, MovV W v L := by
  obtain ⟨a, len, cap, rfl⟩ := okWide_slice Try.underlying51 hk
  obtain ⟨fuel, hf⟩ := h
  obtain ⟨L, h1, h3⟩ := moves_core hf
  refine ⟨L, h1, ?_⟩
  rcases h3 with rfl | ⟨e, s, hx, he⟩
  · simp
  · simp only at hx
    subst hx
    have := sized_slice hsz ht hd Try.underlying51
    rw [b63] at this
    simp only [reachBytes] at this
    omega
end
end Go.Proofs.Ytkkcdmdkjedkjaa
