/- Parity of sums (plain); three rows of bytes that the call owns, apart from each other. -/
import Derived.Test.YtbdmbhpmbklaiaaU1
namespace Go.Proofs.Ytbdmbhpmbklaiaa
open Go.RowKit Gf

theorem ip_congr {xs : List G} {u v : Nat → G} (h : ∀ j, j < xs.length → u j = v j) (x : G) : ip xs u x = ip xs v x := by
  unfold ip
  exact dt_congr _ fun i hi => by rw [h i hi]
theorem encS_len {D : List Sd} {N : Nat} (hD : Even D N) (j : Nat) : (sl (encS D j)).length = N := by
  rw [encS, hD.rowN]
  simp [sl, grp_len]
theorem encS_at {D : List Sd} {N : Nat} (hD : Even D N) (j : Nat) {b : Nat} (hb : b < N) : (sl (encS D j)).getD b 0 = ip (pls D.length) (fun i => (sl (D.getD i none)).getD b 0) (gn (D.length + j)) := by
  rw [encS, hD.rowN]
  exact grp_get _ _ _ _ hb
/-- The parity of a sum is the sum of the parities. -/
theorem enc_lin {D E F : List Sd} {N : Nat} (hD : Even D N) (hE : Even E N) (hF : Even F N) (hl : E.length = D.length) (hl' : F.length = D.length)
    (hs : ∀ i, i < D.length → ∀ b, b < N → (sl (F.getD i none)).getD b 0 = (sl (D.getD i none)).getD b 0 + (sl (E.getD i none)).getD b 0) (j : Nat) {b : Nat} (hb : b < N) :
    (sl (encS F j)).getD b 0 = (sl (encS D j)).getD b 0 + (sl (encS E j)).getD b 0 := by
  rw [encS_at hD j hb, encS_at hE j hb, encS_at hF j hb, hl, hl', ← ip_add]
  exact ip_congr (fun i hi => hs i (by rw [pls_len] at hi; exact hi) b hb) _
theorem encE_even {D : List Sd} {N : Nat} (hD : Even D N) {m : Nat} (hm : m ≤ 16) : encE D (m : Int) = 0 := by
  have h1 := hD.lo
  have h2 := hD.hi
  have hf : frm D = false := by
    cases hf : frm D with
    | false => rfl
    | true =>
      have hl := left_all (K := D) hD.some
      rw [← hl] at hf
      obtain ⟨i, k, hk, hi, _, _, hne⟩ := (wr_frm D).2 hf
      rw [hD.row i hi, hD.row k (by omega)] at hne
      exact absurd rfl hne
  unfold encE
  rw [if_neg (by omega), hf, if_neg (by decide)]
/-- Two values do not share a block of their own. -/
def Apt (u v : Value) : Prop := ∀ k ∈ ob u, k ∉ ob v
theorem Apt.symm {u v : Value} (h : Apt u v) : Apt v u := fun k hk hm => h k hm hk
theorem apt_nil (u : Value) : Apt u (.slice none 0 0) := fun k _ hm => by simp [ob, Value.ownBlock] at hm
/-- A row grows: another one, apart from it, stays, and stays apart. -/
theorem Apt.grown {w w' : World} {base : Nat} {u v v' : Value} {ys : List G} (h : Apt u v) (hu : OwnG w base u ys) (hc : Chg (ob v) w w') (hv : v'.ownBlock = v.ownBlock ∨ v'.ownBlock = some (w.heap.size + 1)) : OwnG w' base u ys ∧ Apt u v' := by
  refine ⟨hu.far hc h, fun k hk hm => ?_⟩
  have e := mem_ob.1 hm
  rcases hv with h' | h'
  · rw [h'] at e
    exact h k hk (mem_ob.2 e)
  · rw [h'] at e
    have := (hu.lt k hk).2
    simp at e
    omega
theorem Apt.grownR {w w' : World} {B : Nat × TypeId} {base : Nat} {u v v' : Value} {M : List Sd} (h : Apt u v) (hu : OwnR w B base u M) (hc : Chg (ob v) w w') (hX : ∀ k, k < B.1 ∨ Ty w B.2 k → k ∉ ob v) (hv : v'.ownBlock = v.ownBlock ∨ v'.ownBlock = some (w.heap.size + 1)) : OwnR w' B base u M ∧ Apt u v' := by
  refine ⟨hu.far hc hX h, fun k hk hm => ?_⟩
  have e := mem_ob.1 hm
  rcases hv with h' | h'
  · rw [h'] at e
    exact h k hk (mem_ob.2 e)
  · rw [h'] at e
    have := (hu.lt k hk).2
    simp at e
    omega
end Go.Proofs.Ytbdmbhpmbklaiaa
