/- How bytes that came in are opened as elements; string(b) of elements. -/
import Derived.Test.YtbdmbhpmbklaiaaS11
import Derived.Test.YtbdmbhpmbklaiaaOctB
import Derived.ProofKit
import Derived.OpenShut
import Derived.ChangeOld
import Derived.SizedLaws
import Derived.JoinedCond
import Derived.Deep.SlicePairs
import Derived.Deep.Strs
import Derived.Deep.Matrix
import Derived.Test.YtbdmbhpmbklaiaaRows
namespace Go.Proofs.Ytbdmbhpmbklaiaa
open Go.ChangeShapes Go.WideShapes Go.ChangeAt Go.RowKit Gf

theorem Try.own : ownKnob Try.prog.godebug = none := by kernel_rfl
theorem Try.laidOut : laidOutB Try.prog = true := by kernel_rfl
theorem Try.bt : Oct.ByteT Try.prog 33 5 := ⟨Try.underlying33, Try.underlying5, infoByte⟩
/-- The element of a number. -/
def ig (z : Int) : G := if h : z.toNat < 256 then ge z.toNat h else 0
theorem gi_ig {z : Int} (h : 0 ≤ z ∧ z < 256) : gi (ig z) = z := by
  unfold ig gi
  rw [dif_pos (by omega)]
  show ((z.toNat : Nat) : Int) = z
  omega
theorem of_u8 {z : Int} (h : (Lit.int .u8 z).wf = true) : ∃ x : G, z = gi x := by
  have hb := bounds_u8 h
  exact ⟨ig z, (gi_ig (by omega)).symm⟩
theorem rdY_bs {w : World} {v : Value} {l : List Int} (h : RdY w v l) : Oct.Bs w v l := by
  obtain ⟨a, cap, rfl, h1, h2, h3, h4⟩ := h
  rw [yv_len] at h1
  refine ⟨a, cap, by rw [yv_len], h1, h2, h3, fun x hx i hi => ?_⟩
  rw [h4 x hx i (by rw [yv_len]; exact hi), yv_get l hi]
theorem bs_rdY {w : World} {v : Value} {l : List Int} (h : Oct.Bs w v l) : RdY w v l := by
  obtain ⟨a, cap, rfl, h1, h2, h3, h4⟩ := h
  refine ⟨a, cap, by rw [yv_len], by rw [yv_len]; exact h1, h2, h3, fun x hx i hi => ?_⟩
  rw [yv_len] at hi
  rw [h4 x hx i hi, yv_get l hi]
/-- 'string(b)'. -/
def strG (l : List G) : ByteArray := strOfNums (l.map gi)
theorem run_strG {w : World} {v : Value} {l : List G} (h : RdG w v l) : (convert 33 9 v).run Try.prog w = .ok (.string (strG l)) w := Oct.run_str Try.bt (rdY_bs h) 9 Try.underlying9
/-- Elements that came in. -/
structure GV (w : World) (v : Value) (l : List G) : Prop where
  rd : RdG w v l
  len : l.length ≤ 140737488355328
section
variable {H : Type} {enc : TypeId × Value → H} {W : World} {base : Nat} {v : Value} {d : DataW H} {p : List MemPlace}
theorem cb5 : Try.prog.cellsOf 5 = 1 := by kernel_rfl
theorem bb5 : Try.prog.bytesOf 5 = 1 := by kernel_rfl
theorem elems_core {fuel : Nat} {a : Option Addr} {len cap : Nat} {x : DataW H × List MemPlace} (h : DataW.trod enc Try.prog W 0 (fun _ => true) true fuel 33 [.slice a len cap] = some x) :
    ∃ l : List G, RdG W (.slice a len cap) l ∧ (l = [] ∨ ∃ e s, x.1 = .slice e s ∧ e.length = l.length) := by
  rcases Deep.open_slice1 Try.underlying33 cb5 h with ⟨hcs, _⟩ | ⟨a', len', cap', m, n, V, D, Pl, hcs, _, hl, hm, hmm, hx, hc⟩
  · simp at hcs
    obtain ⟨rfl, rfl, rfl⟩ := hcs
    exact ⟨[], ⟨none, 0, rfl, Nat.le_refl _, by decide, fun _ => rfl, fun x h => (nomatch h)⟩, .inl rfl⟩
  · simp at hcs
    obtain ⟨rfl, rfl, rfl⟩ := hcs
    simp only [if_true] at hmm
    subst hmm
    have each : ∀ i, ∃ g : G, i < m → W.cell? (a'.add i) = some (.int .u8 (gi g)) := fun i => by
      by_cases hi : i < m
      · obtain ⟨h1, h2⟩ := hc i hi
        obtain ⟨z, e, _, hw⟩ := DataW.trod_int Try.underlying5 h2
        simp at e
        rw [e] at h1
        obtain ⟨g, rfl⟩ := of_u8 hw
        exact ⟨g, fun _ => h1⟩
      · exact ⟨0, fun h => absurd h hi⟩
    let f : Nat → G := fun i => Classical.choose (each i)
    have hf : ∀ i, i < m → W.cell? (a'.add i) = some (.int .u8 (gi (f i))) := fun i => Classical.choose_spec (each i)
    refine ⟨(List.range len).map f, ⟨some a', m, by simp [yv], by simpa [yv] using hl, hm, fun h => (nomatch h), fun x hxa i hi => ?_⟩, .inr ⟨_, _, by rw [hx], by simp⟩⟩
    cases hxa
    have hil : i < len := by simpa [yv] using hi
    rw [hf i (by omega)]
    simp [yv, hil]
set_option maxRecDepth 100000 in
theorem open_g {ts : List TypeId} {ds : List (DataW H)} {j : Nat} (hsz : (DataW.weightsEach Try.prog ts ds).all (· ≤ reachBytes) = true) (ht : ts[j]? = some 33) (hd : ds[j]? = some d) (hk : Value.okWide Try.prog W .any base 33 v) (h : DataW.Trod enc Try.prog W 0 (fun _ => true) true 33 v d p) : ∃ l, GV W v l := by
  obtain ⟨a, len, cap, rfl⟩ := okWide_slice Try.underlying33 hk
  obtain ⟨fuel, hf⟩ := h
  obtain ⟨l, h1, h3⟩ := elems_core hf
  refine ⟨l, h1, ?_⟩
  rcases h3 with rfl | ⟨e, s, hx, he⟩
  · simp
  · simp only at hx
    subst hx
    have := sized_slice hsz ht hd Try.underlying33
    rw [bb5] at this
    simp only [reachBytes] at this
    omega
end
end Go.Proofs.Ytbdmbhpmbklaiaa
