/- How a slice of slices of bytes that came in is opened. -/
import Derived.Test.YthfikoghbnicoabDoorFrame
import Derived.Deep.Matrix
namespace Go.Proofs.YthfikoghbnicoabDoor
open Go.ChangeShapes Go.WideShapes Go.ChangeAt Go.RowKit Go.Deep

/-- The value v is a slice of slices that read the texts ls. -/
def Bss (w : World) (v : Value) (ls : List (List Int)) : Prop :=
  ∃ a cap, v = .slice a ls.length cap ∧ ls.length ≤ cap ∧ cap ≤ maxLen ∧ (a = none → cap = 0) ∧ ∃ vs : Nat → Value, ∀ x, a = some x → ∀ i, i < ls.length → w.cell? (x.add i) = some (vs i) ∧ Bs w (vs i) (ls.getD i [])

theorem bulk_row {H : Type} (A : Option Addr) (L : Nat) (Z : List Int) (hL : L ≤ Z.length) (hA : A = none → L = 0) : L ≤ Rows.uptoBulk (intRow (H := H) .u8 A L Z) := by
  cases A with
  | none => have := hA rfl; omega
  | some a =>
    show L ≤ Rows.uptoBulk (.slice (lits .u8 (Z.take L)) (lits .u8 (Z.drop L)))
    rw [Rows.uptoBulk]
    have h3 := bulk_len (lits (H := H) .u8 (Z.take L))
    simp only [lits, List.length_map, List.length_take] at h3 ⊢
    omega

theorem open_rows {H : Type} {enc : TypeId × Value → H} {W : World} {base : Nat} {v : Value} {d : DataW H} {ps : List MemPlace} {l : List (DataW H)} (hk : Rows.uptoSmall H l = true) (hm : d ∈ l)
    (hv : Value.okWide Tryd.prog W .any base 27 v) (h : DataW.Trod enc Tryd.prog W 0 (fun _ => true) true 27 v d ps) :
    ∃ ls : List (List Int), Bss W v ls ∧ (∀ t ∈ ls, ∀ x ∈ t, 0 ≤ x ∧ x < 256) ∧ ls.flatten.length ≤ 1048576 := by
  obtain ⟨a, len, cap, rfl⟩ := okWide_slice Tryd.underlying27 hv
  obtain ⟨fuel, hf⟩ := h
  rcases open_int_rows Tryd.underlying27 Tryd.underlying22 Tryd.underlying5 (by kernel_rfl) (by kernel_rfl) hf with ⟨hcs, _⟩ | ⟨x, n, c, A, L, C, Z, hcs, _, hl, hmx, hx, hrow⟩
  · simp [Value.cells] at hcs
    obtain ⟨rfl, rfl, rfl⟩ := hcs
    exact ⟨[], ⟨none, 0, rfl, Nat.le_refl _, Nat.zero_le _, fun _ => rfl, fun _ => undef, fun x hx => by cases hx⟩, by simp, by simp⟩
  · simp [Value.cells] at hcs
    obtain ⟨rfl, rfl, rfl⟩ := hcs
    refine ⟨(List.range len).map fun r => (Z r).take (L r), ⟨some x, cap, by simp, by simpa using hl, hmx, by simp, fun r => .slice (A r) (L r) (C r), fun y hy i hi => ?_⟩, ?_, ?_⟩
    · cases hy
      have hi' : i < len := by simpa using hi
      obtain ⟨h1, h2, h3, h4, h5, h6, h7⟩ := hrow i (by omega)
      refine ⟨h1, ?_⟩
      have e : ((List.range len).map fun r => (Z r).take (L r)).getD i [] = (Z i).take (L i) := by simp [hi']
      rw [e]
      have hlen : ((Z i).take (L i)).length = L i := by simp; omega
      refine ⟨A i, C i, by rw [hlen], by omega, h3, h6, fun y hy j hj => ?_⟩
      rw [(h7 y hy).2 j (by omega)]
      simp only [List.getD_eq_getElem?_getD, List.getElem?_take]
      rw [if_pos (by omega)]
    · intro t ht y hy
      obtain ⟨r, hr, rfl⟩ := List.mem_map.1 ht
      have hr' : r < len := by simpa using hr
      obtain ⟨h1, h2, h3, h4, h5, h6, h7⟩ := hrow r (by omega)
      have := bounds_u8 (h5 y (List.mem_of_mem_take hy))
      omega
    · have h1 : Rows.uptoBulkAll l ≤ 1048576 := of_decide_eq_true hk
      have h2 := bulk_mem hm
      simp only [Prod.mk.injEq] at hx
      rw [hx.1, Rows.uptoBulk] at h2
      have h3 : ∀ rs : List Nat, (∀ r ∈ rs, r < len) → (rs.map fun r => (Z r).take (L r)).flatten.length ≤ Rows.uptoBulkAll (rs.map fun r => intRow (H := H) .u8 (A r) (L r) (Z r)) := by
        intro rs
        induction rs with
        | nil => intro _; simp [Rows.uptoBulkAll]
        | cons r rs ih =>
          intro hr
          have hr' := hr r (by simp)
          obtain ⟨_, k2, _, k4, _, k6, _⟩ := hrow r (by omega)
          have h4 := bulk_row (H := H) (A r) (L r) (Z r) (by omega) (fun e => by have := k6 e; omega)
          have h5 := ih (fun x hx => hr x (by simp [hx]))
          simp only [List.map_cons, List.flatten_cons, List.length_append, List.length_take, Rows.uptoBulkAll]
          omega
      have h6 := h3 (List.range len) (fun r hr => by simpa using hr)
      omega
end Go.Proofs.YthfikoghbnicoabDoor
