/- How pieces of bytes that came in are opened, under the bound on the bulk. -/
import Derived.Test.YtngeefipeghjiaaBulk
import Derived.Test.YtngeefipeghjiaaL7
namespace Go.Proofs.Ytngeefipeghjiaa
open Go.ChangeShapes Go.WideShapes Go.ChangeAt Go.RowKit Go.Deep

theorem bulk_row {H : Type} (A : Option Addr) (L : Nat) (Z : List Int) (hL : L ≤ Z.length) (hA : A = none → L = 0) : L ≤ Rows.uptoBulk (intRow (H := H) .u8 A L Z) := by
  cases A with
  | none => have := hA rfl; omega
  | some a =>
    show L ≤ Rows.uptoBulk (.slice (lits .u8 (Z.take L)) (lits .u8 (Z.drop L)))
    rw [Rows.uptoBulk]
    have h3 := bulk_len (lits (H := H) .u8 (Z.take L))
    simp only [lits, List.length_map, List.length_take] at h3 ⊢
    omega
theorem open_pc {H : Type} {enc : TypeId × Value → H} {W : World} {base : Nat} {v : Value} {d : DataW H} {ps : List MemPlace} {l : List (DataW H)} (hk : Rows.uptoSmall H l = true) (hm : d ∈ l)
    (hv : Value.okWide Try.prog W .any base 34 v) (h : DataW.Trod enc Try.prog W 0 (fun _ => true) true 34 v d ps) : ∃ ls : List (List Int), PcV W v ls := by
  obtain ⟨a, len, cap, rfl⟩ := okWide_slice Try.underlying34 hv
  obtain ⟨fuel, hf⟩ := h
  rcases open_int_rows Try.underlying34 Try.underlying32 Try.underlying5 (by kernel_rfl) (by kernel_rfl) hf with ⟨hcs, _⟩ | ⟨x, n, c, A, L, C, Z, hcs, _, hl, hmx, hx, hrow⟩
  · simp [Value.cells] at hcs
    obtain ⟨rfl, rfl, rfl⟩ := hcs
    exact ⟨[], ⟨⟨none, 0, rfl, Nat.le_refl _⟩, fun i hi => by simp at hi, by simp, by simp⟩⟩
  · simp [Value.cells] at hcs
    obtain ⟨rfl, rfl, rfl⟩ := hcs
    have h1 : Rows.uptoBulkAll l ≤ 1048576 := of_decide_eq_true hk
    have h2 := bulk_mem hm
    simp only [Prod.mk.injEq] at hx
    rw [hx.1, Rows.uptoBulk] at h2
    have h3 : ∀ rs : List Nat, (∀ r ∈ rs, r < len) → (rs.map fun r => (Z r).take (L r)).flatten.length ≤ Rows.uptoBulkAll (rs.map fun r => intRow (H := H) .u8 (A r) (L r) (Z r)) := by
      intro rs
      induction rs with
      | nil => intro _; simp [Rows.uptoBulkAll]
      | cons r rs ih =>
        intro hr
        have hr' := hr r (by simp)
        obtain ⟨_, k2, _, k4, _, k6, _⟩ := hrow r (by omega)
        have h4 := bulk_row (H := H) (A r) (L r) (Z r) (by omega) (fun e => by have := k6 e; omega)
        have h5 := ih (fun x hx => hr x (by simp [hx]))
        simp only [List.map_cons, List.flatten_cons, List.length_append, List.length_take, Rows.uptoBulkAll]
        omega
    have h6 := h3 (List.range len) (fun r hr => by simpa using hr)
    have h7 := bulk_len ((List.range len).map fun r => intRow (H := H) .u8 (A r) (L r) (Z r))
    simp only [List.length_map, List.length_range] at h7
    refine ⟨(List.range len).map fun r => (Z r).take (L r), ⟨⟨some x, cap, by simp, by simpa using hl⟩, fun i hi => ?_, by simp; omega, by omega⟩⟩
    have hi' : i < len := by simpa using hi
    obtain ⟨k1, k2, k3, k4, k5, k6, k7⟩ := hrow i (by omega)
    have k0 := (hrow 0 (by omega)).1
    obtain ⟨b, off, spot⟩ := x
    have hs : spot = none := by simpa [Addr.add] using World.cell?_spot k0
    subst hs
    rw [add_plain] at k1
    refine ⟨b, off, cap, A i, L i, C i, by simp, k1, ?_⟩
    have e : ((List.range len).map fun r => (Z r).take (L r)).getD i [] = (Z i).take (L i) := by simp [hi']
    rw [e]
    have hlen : ((Z i).take (L i)).length = L i := by simp; omega
    refine ⟨A i, C i, by rw [hlen], by omega, k3, k6, fun y hy j hj => ?_, fun y hy => ?_⟩
    · rw [(k7 y hy).2 j (by omega)]
      simp only [List.getD_eq_getElem?_getD, List.getElem?_take]
      rw [if_pos (by omega)]
    · exact u8_in' (k5 y (List.mem_of_mem_take hy))
end Go.Proofs.Ytngeefipeghjiaa
