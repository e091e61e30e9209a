/- What every statement of the seat needs of the program; how shares, spots, containers and pairs that came in are opened. -/
import Derived.Test.YtjcojpddjhjhbaaRows
import Derived.Test.YtjcojpddjhjhbaaC16
import Derived.ProofKit
import Derived.OpenShut
import Derived.ChangeOld
import Derived.SizedLaws
import Derived.JoinedCond
import Derived.Deep.SlicePairs
import Derived.Deep.Strs
namespace Go.Proofs.Ytjcojpddjhjhbaa
open Go.ChangeShapes Go.WideShapes Go.ChangeAt Go.RowKit

theorem Try.own : ownKnob Try.prog.godebug = none := by kernel_rfl
set_option maxRecDepth 100000 in
theorem Try.laidOut : laidOutB Try.prog = true := by kernel_rfl
section
variable {H : Type} {enc : TypeId × Value → H} {W : World} {base : Nat} {v : Value} {d : DataW H} {p : List MemPlace}
theorem c3 : Try.prog.cellsOf 3 = 1 := by kernel_rfl
theorem c32 : Try.prog.cellsOf 32 = 1 := by kernel_rfl
theorem c46 : Try.prog.cellsOf 46 = 2 := by kernel_rfl
theorem b46 : Try.prog.bytesOf 46 = 16 := by kernel_rfl
theorem c27 : Try.prog.cellsOf 27 = 3 := by kernel_rfl
theorem b27 : Try.prog.bytesOf 27 = 24 := by kernel_rfl
theorem parts2 {P : Program} {w : World} {base : Nat} {spare : Nat → Bool} {held : Bool} {t : TypeId} {f0 f1 : Field} {fuel : Nat} {cs : List Value} {x : DataW H × List MemPlace} (ht : P.underlying t = some (.struct #[f0, f1])) (h : DataW.trod enc P w base spare held fuel t cs = some x) :
    ∃ y0 y1 n, DataW.trod enc P w base spare held n f0.type ((cs.drop f0.offset).take (P.cellsOf f0.type)) = some y0 ∧
      DataW.trod enc P w base spare held n f1.type ((cs.drop f1.offset).take (P.cellsOf f1.type)) = some y1 := by
  obtain ⟨xs, n, _, rfl, _, hlen, hf⟩ := DataW.trod_struct ht h
  match xs, hlen with
  | [y0, y1], _ => exact ⟨y0, y1, n, by simpa using hf 0 f0 rfl, by simpa using hf 1 f1 rfl⟩
theorem parts3 {P : Program} {w : World} {base : Nat} {spare : Nat → Bool} {held : Bool} {t : TypeId} {f0 f1 f2 : Field} {fuel : Nat} {cs : List Value} {x : DataW H × List MemPlace} (ht : P.underlying t = some (.struct #[f0, f1, f2])) (h : DataW.trod enc P w base spare held fuel t cs = some x) :
    ∃ y0 y1 y2 n, DataW.trod enc P w base spare held n f0.type ((cs.drop f0.offset).take (P.cellsOf f0.type)) = some y0 ∧
      DataW.trod enc P w base spare held n f1.type ((cs.drop f1.offset).take (P.cellsOf f1.type)) = some y1 ∧
      DataW.trod enc P w base spare held n f2.type ((cs.drop f2.offset).take (P.cellsOf f2.type)) = some y2 := by
  obtain ⟨xs, n, _, rfl, _, hlen, hf⟩ := DataW.trod_struct ht h
  match xs, hlen with
  | [y0, y1, y2], _ => exact ⟨y0, y1, y2, n, by simpa using hf 0 f0 rfl, by simpa using hf 1 f1 rfl, by simpa using hf 2 f2 rfl⟩
theorem open_spot {fuel : Nat} {cs : List Value} {x : DataW H × List MemPlace} (hl : cs.length = 2) (h : DataW.trod enc Try.prog W 0 (fun _ => true) true fuel 46 cs = some x) : ∃ s : Sp, cs = sp2 s := by
  obtain ⟨y0, y1, n, h0, h1⟩ := parts2 Try.underlying46 h
  simp only [c3] at h0 h1
  obtain ⟨z0, e0, _, w0⟩ := DataW.trod_int Try.underlying3 h0
  obtain ⟨z1, e1, _, w1⟩ := DataW.trod_int Try.underlying3 h1
  refine ⟨(z0, z1), ?_⟩
  match cs, hl with
  | [a, b], _ =>
    simp at e0 e1
    rw [e0, e1]
    rfl
theorem open_share {fuel : Nat} {cs : List Value} {x : DataW H × List MemPlace} (hl : cs.length = 3) (h : DataW.trod enc Try.prog W 0 (fun _ => true) true fuel 27 cs = some x) : ∃ s : Sh, cs = sh3 s := by
  obtain ⟨y0, y1, y2, n, h0, h1, h2⟩ := parts3 Try.underlying27 h
  simp only [c3] at h0 h1 h2
  obtain ⟨z0, e0, _, w0⟩ := DataW.trod_int Try.underlying3 h0
  obtain ⟨z1, e1, _, w1⟩ := DataW.trod_int Try.underlying3 h1
  obtain ⟨z2, e2, _, w2⟩ := DataW.trod_int Try.underlying3 h2
  refine ⟨(z0, z1, z2), ?_⟩
  match cs, hl with
  | [a, b, c], _ =>
    simp at e0 e1 e2
    rw [e0, e1, e2]
    rfl
/-- A row of elements that came in, opened: the cells of each are told by `one`. -/
theorem rows_core {α : Type} [Inhabited α] (f : α → List Value) (k : Nat) (dd : α) (t e : TypeId) (hk : 0 < k) (hu : Try.prog.underlying t = some (.slice e)) (hc0 : Try.prog.cellsOf e = k) (hone : ∀ x, (f x).length = k ∧ ∀ u ∈ f x, u.oneCell' = true)
    (one : ∀ (fuel : Nat) (cs : List Value) (x : DataW H × List MemPlace), cs.length = k → DataW.trod enc Try.prog W 0 (fun _ => true) true fuel e cs = some x → ∃ r, cs = f r)
    {fuel : Nat} {a : Option Addr} {len cap : Nat} {x : DataW H × List MemPlace} (hf : DataW.trod enc Try.prog W 0 (fun _ => true) true fuel t [.slice a len cap] = some x) :
    ∃ L : List α, RdE f k dd W (.slice a len cap) L ∧ (L = [] ∨ ∃ e s, x.1 = .slice e s ∧ e.length = L.length) := by
  rcases Deep.open_slice hu hf with ⟨hcs, _⟩ | ⟨a', len', cap', m, n, D, Pl, hcs, _, hl, hm, hmm, hx, hc⟩
  · simp at hcs
    obtain ⟨rfl, rfl, rfl⟩ := hcs
    exact ⟨[], ⟨⟨none, 0, rfl, Nat.le_refl _, by decide, fun _ => rfl⟩, fun i hi => by simp at hi, by simp⟩, .inl rfl⟩
  · simp at hcs
    obtain ⟨rfl, rfl, rfl⟩ := hcs
    simp only [if_true] at hmm
    subst hmm
    rw [hc0] at hc
    obtain ⟨g, hfr⟩ := Deep.choose_lt (α := α) (n := len) (p := fun i r => (∀ j, j < k → W.cell? ((a'.add (i * k)).add j) = (f r)[j]?)) (fun i hi => by
      obtain ⟨cs', h1, h2⟩ := hc i (by omega)
      obtain ⟨_, hlen, hcell⟩ := World.cells?_some h1
      obtain ⟨r, e⟩ := one _ _ _ hlen h2
      subst e
      exact ⟨r, hcell⟩)
    have hg : ∀ i, i < len → ((List.range len).map g).getD i dd = g i := fun i hi => by simp [hi]
    refine ⟨(List.range len).map g, ⟨⟨some a', m, by simp, by simpa using hl, hm, by simp⟩, fun i hi => ?_, fun r hr => hone r⟩, .inr ⟨_, _, by rw [hx], by simp⟩⟩
    have hi' : i < len := by simpa using hi
    have h1 := hfr i hi'
    obtain ⟨b, off, spot⟩ := a'
    have h00 := (hfr 0 (by omega)) 0 hk
    have hlt : 0 < (f (g 0)).length := by rw [(hone (g 0)).1]; exact hk
    rw [List.getElem?_eq_getElem hlt] at h00
    have hs : spot = none := by simpa [Addr.add] using World.cell?_spot h00
    subst hs
    refine ⟨b, off, m, by simp, fun j hj => ?_⟩
    rw [hg i hi']
    have := h1 j hj
    rw [add_plain, add_plain] at this
    exact this
structure SpotV (w : World) (v : Value) (L : List Sp) : Prop where
  rd : RdE sp2 2 q0 w v L
  len : L.length ≤ 9000000000000
structure ShareV (w : World) (v : Value) (L : List Sh) : Prop where
  rd : RdE sh3 3 s0 w v L
  len : L.length ≤ 5864062014700
set_option maxRecDepth 100000 in
theorem open_spots {ts : List TypeId} {ds : List (DataW H)} {j : Nat} (hsz : (DataW.weightsEach Try.prog ts ds).all (· ≤ reachBytes) = true) (ht : ts[j]? = some 23) (hd : ds[j]? = some d) (hk : Value.okWide Try.prog W .any base 23 v) (h : DataW.Trod enc Try.prog W 0 (fun _ => true) true 23 v d p) : ∃ L, SpotV W v L := by
  obtain ⟨a, len, cap, rfl⟩ := okWide_slice Try.underlying23 hk
  obtain ⟨fuel, hf⟩ := h
  obtain ⟨L, h1, h3⟩ := rows_core sp2 2 q0 23 46 (by decide) Try.underlying23 c46 sp2_one (fun _ _ _ h1 h2 => open_spot h1 h2) hf
  refine ⟨L, h1, ?_⟩
  rcases h3 with rfl | ⟨e, s, hx, he⟩
  · simp
  · simp only at hx
    subst hx
    have := sized_slice hsz ht hd Try.underlying23
    rw [b46] at this
    simp only [reachBytes] at this
    omega
set_option maxRecDepth 100000 in
theorem open_shares {ts : List TypeId} {ds : List (DataW H)} {j : Nat} (hsz : (DataW.weightsEach Try.prog ts ds).all (· ≤ reachBytes) = true) (ht : ts[j]? = some 24) (hd : ds[j]? = some d) (hk : Value.okWide Try.prog W .any base 24 v) (h : DataW.Trod enc Try.prog W 0 (fun _ => true) true 24 v d p) : ∃ L, ShareV W v L := by
  obtain ⟨a, len, cap, rfl⟩ := okWide_slice Try.underlying24 hk
  obtain ⟨fuel, hf⟩ := h
  obtain ⟨L, h1, h3⟩ := rows_core sh3 3 s0 24 27 (by decide) Try.underlying24 c27 sh3_one (fun _ _ _ h1 h2 => open_share h1 h2) hf
  refine ⟨L, h1, ?_⟩
  rcases h3 with rfl | ⟨e, s, hx, he⟩
  · simp
  · simp only at hx
    subst hx
    have := sized_slice hsz ht hd Try.underlying24
    rw [b27] at this
    simp only [reachBytes] at this
    omega
end
end Go.Proofs.Ytjcojpddjhjhbaa
