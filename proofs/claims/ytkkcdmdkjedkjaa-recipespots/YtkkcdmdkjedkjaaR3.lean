/- A recipe in memory; Size, Clone, Refs. -/
import Derived.Test.YtkkcdmdkjedkjaaR2
import Derived.Laws.MakeOwn
import Derived.Deep.QuietTactic
import Derived.BigQuiet
namespace Go.Proofs.Ytkkcdmdkjedkjaa
open Go.RowKit Go.Lib

/-- Where each chunk ends. -/
def endsI (L : List Rf) : List Int := (List.range L.length).map (fun i => ((Rp.upto (lens L) (i + 1) : Nat) : Int))
theorem endsI_len (L : List Rf) : (endsI L).length = L.length := by simp [endsI]
theorem endsI_at (L : List Rf) {i : Nat} (h : i < L.length) : (endsI L).getD i 0 = ((Rp.upto (lens L) (i + 1) : Nat) : Int) := by simp [endsI, h]
/-- The cells of a recipe. -/
structure RecX (w : World) (p : Nat) (rv ev : Value) (L : List Rf) : Prop where
  row : w.heap[p]? = some (.cells #[rv, ev] 70 (0, 0))
  refs : RdR w rv L
  ends : RdI w ev (endsI L)
theorem below_drewN {B : Nat} {w w' : World} (h : Below B w w') (n : Nat) : Below B w (w'.drewN n) := ⟨h.os, h.tape, h.output, h.size, h.block⟩
theorem RecX.lt {w : World} {p : Nat} {rv ev : Value} {L : List Rf} (h : RecX w p rv ev L) : p < w.heap.size := (Array.getElem?_eq_some_iff.1 h.row).1
theorem RecX.below {w w' : World} {p : Nat} {rv ev : Value} {L : List Rf} (h : RecX w p rv ev L) (hb : Below w.heap.size w w') : RecX w' p rv ev L :=
  ⟨(hb.block p h.lt).trans h.row, h.refs.below hb, Rd.far h.ends (Chg.ofBelow (X := []) hb) (by simp)⟩
theorem RecX.cells {w : World} {p : Nat} {rv ev : Value} {L : List Rf} (h : RecX w p rv ev L) : w.cell? ⟨p, 0, none⟩ = some rv ∧ w.cell? ⟨p, 1, none⟩ = some ev := by
  constructor
  · rw [cell_of_row _ _ _ _ _ _ h.row]; rfl
  · rw [cell_of_row _ _ _ _ _ _ h.row]; rfl
/-- A pointer to a recipe of these refs. -/
def Rec (w : World) (p : Nat) (L : List Rf) : Prop := ∃ rv ev, RecX w p rv ev L
theorem Rec.below {w w' : World} {p : Nat} {L : List Rf} (h : Rec w p L) (hb : Below w.heap.size w w') : Rec w' p L := by
  obtain ⟨rv, ev, h⟩ := h
  exact ⟨rv, ev, h.below hb⟩
section
variable {w : World}
theorem sizeNil_any : Calls Try.prog 13 #[.pointer none] w fun e w' => e = .returned (.int .i64 0) ∧ w = w' := by
  go_enter Try.func13, Try.ntmps13
  go_wp2_with fail
  go_ret
  exact ⟨rfl, rfl⟩
set_option maxHeartbeats 4000000 in
set_option maxRecDepth 100000 in
/-- Size: of refs L. -/
theorem size_e {p : Nat} {ev : Value} {L : List Rf} (hc : w.cell? ⟨p, 1, none⟩ = some ev) (h : RdI w ev (endsI L)) (hR : L.length ≤ 256) : Calls Try.prog 13 #[.pointer (some ⟨p, 0, none⟩)] w fun e w' => e = .returned (.int .i64 ((lens L).sum : Nat)) ∧ ∃ n, w' = w.drewN n := by
  have HE := Hid.mk h
  obtain ⟨av, cv, rfl, hcv, hcm, _⟩ := h.shape
  rw [endsI_len] at hc hcv HE
  obtain ⟨n, Hn⟩ : ∃ n, Hid (L.length = n) := ⟨_, ⟨rfl⟩⟩
  rw [Hn.out] at hc hcv hR HE
  by_cases h0 : n = 0
  · subst h0
    have HS : Hid ((lens L).sum = 0) := ⟨by rw [List.length_eq_zero_iff.1 Hn.out]; rfl⟩
    rw [HS.out]
    clear h
    go_enter Try.func13, Try.ntmps13
    go_wp2_with fail
    go_ret
    exact ⟨rfl, 0, rfl⟩
  · have hlt : n - 1 < (endsI L).length := by rw [endsI_len, Hn.out]; omega
    obtain ⟨b, off, cap, e, _, hcell⟩ := HE.out.at hlt
    rw [endsI_len, Hn.out] at e
    simp at e
    obtain ⟨rfl, rfl⟩ := e
    have hx := hcell (n - 1) hlt
    rw [endsI_at L (by rw [Hn.out]; omega), show n - 1 + 1 = n by omega] at hx
    have HU : Hid (Rp.upto (lens L) n = (lens L).sum) := ⟨by rw [← Hn.out, ← lens_len, Rp.upto_len]⟩
    rw [← HU.out]
    generalize Rp.upto (lens L) n = u at hx
    have hz : ¬ (n : Int) = 0 := by omega
    have hn1 : (n : Int) - 1 = ((n - 1 : Nat) : Int) := by omega
    have hnw : IntKind.i64.wrap ((n - 1 : Nat) : Int) = ((n - 1 : Nat) : Int) := IntWalk.i64_in _ ⟨by omega, by omega⟩
    have hnl : ¬ n ≤ n - 1 := by omega
    have hnt : ((n - 1 : Nat) : Int).toNat = n - 1 := by omega
    have hnn : ¬ ((n - 1 : Nat) : Int) < 0 := by omega
    have hnl2 : ((n - 1 : Nat) : Int) < (n : Int) := by omega
    clear h hcell HE
    go_enter Try.func13, Try.ntmps13
    go_wp2_with fail
    go_quiet (fail)
    go_wp2_with fail
    go_ret
    exact ⟨rfl, _, rfl⟩
theorem size_q {p : Nat} {L : List Rf} (h : Rec w p L) (hR : L.length ≤ 256) : Calls Try.prog 13 #[.pointer (some ⟨p, 0, none⟩)] w fun e w' => e = .returned (.int .i64 ((lens L).sum : Nat)) ∧ ∃ n, w' = w.drewN n := by
  obtain ⟨rv, ev, h⟩ := h
  exact size_e h.cells.2 h.ends hR
end
end Go.Proofs.Ytkkcdmdkjedkjaa
