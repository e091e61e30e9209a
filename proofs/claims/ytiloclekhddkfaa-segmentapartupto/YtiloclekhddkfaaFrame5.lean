/- What the bound on the bulk of the arguments gives: how many refs there are; how refs that came in are opened under it. -/
import Derived.Test.YtiloclekhddkfaaFrame2
import Derived.Test.YtiloclekhddkfaaWA
namespace Go.Proofs.Ytiloclekhddkfaa
open Go.ChangeShapes Go.WideShapes Go.ChangeAt Go.RowKit Go.Deep

theorem bulk_pos {H : Type} (d : DataW H) : 0 < Rows.uptoBulk d := by
  rcases d with ⟨l⟩ | _ | _ | _ | _ | _ | _ | _
  · cases l <;> simp [Rows.uptoBulk]
  all_goals simp [Rows.uptoBulk]
theorem bulk_mem {H : Type} {d : DataW H} : ∀ {l : List (DataW H)}, d ∈ l → Rows.uptoBulk d ≤ Rows.uptoBulkAll l
  | x :: r, h => by
    rw [Rows.uptoBulkAll]
    rcases List.mem_cons.1 h with e | e
    · rw [e]; omega
    · have := bulk_mem e; omega
theorem bulk_len {H : Type} : ∀ l : List (DataW H), l.length ≤ Rows.uptoBulkAll l
  | [] => by simp
  | x :: r => by have h1 := bulk_pos x; have h2 := bulk_len r; rw [Rows.uptoBulkAll, List.length_cons]; omega
/-- Refs that came in, under the bound on the bulk. -/
structure RefU (w : World) (v : Value) (L : List Rf) : Prop where
  rd : RdR w v L
  len : L.length ≤ 1048576
  wf : ∀ r ∈ L, (-9223372036854775808 ≤ r.l ∧ r.l ≤ 9223372036854775807) ∧ (-9223372036854775808 ≤ r.b ∧ r.b ≤ 9223372036854775807) ∧ (-9223372036854775808 ≤ r.o ∧ r.o ≤ 9223372036854775807)
section
variable {H : Type} {enc : TypeId × Value → H} {W : World} {base : Nat} {v : Value} {d : DataW H} {p : List MemPlace} {l : List (DataW H)}
set_option maxRecDepth 100000 in
theorem open_refsu (hk : Rows.uptoSmall H l = true) (hm : d ∈ l) (hv : Value.okWide Try.prog W .any base 22 v) (h : DataW.Trod enc Try.prog W 0 (fun _ => true) true 22 v d p) : ∃ L, RefU W v L := by
  obtain ⟨a, len, cap, rfl⟩ := okWide_slice Try.underlying22 hv
  obtain ⟨fuel, hf⟩ := h
  obtain ⟨L, h1, hw, h3⟩ := refs_core hf
  refine ⟨L, h1, ?_, hw⟩
  have h4 : Rows.uptoBulkAll l ≤ 1048576 := of_decide_eq_true hk
  have h2 := bulk_mem hm
  rcases h3 with rfl | ⟨e, s, h5, h6⟩
  · simp
  · simp only at h5
    rw [h5, Rows.uptoBulk] at h2
    have := bulk_len e
    omega
end
theorem walk_segmentApart (v : Value) (L : List Rf) (u : Value) (M : List Rf) (most : Int) (W : World) (h : RefU W v L) (hu : RefU W u M) (hm : (Lit.int .i64 most).wf = true) : Calls Try.prog 5 #[v, u, .int .i64 most] W fun e w' => e = .returned (.bool true) ∧ Below W.heap.size W w' :=
  walk_apart v u L M most h.rd hu.rd (by have := h.len; omega) (by have := hu.len; omega) (i64_in' hm)
end Go.Proofs.Ytiloclekhddkfaa
