/- What the bound on the bulk of the arguments gives: how long slices of bytes are; how bytes, and pieces of bytes, that came in are opened under it. -/
import Derived.Test.YtngeefipeghjiaaFrame
import Derived.Test.YtngeefipeghjiaaL4
import Derived.Deep.Matrix
namespace Go.Proofs.Ytngeefipeghjiaa
open Go.ChangeShapes Go.WideShapes Go.ChangeAt Go.RowKit Go.Deep

theorem bulk_pos {H : Type} (d : DataW H) : 0 < Rows.uptoBulk d := by
  rcases d with ⟨l⟩ | _ | _ | _ | _ | _ | _ | _
  · cases l <;> simp [Rows.uptoBulk]
  all_goals simp [Rows.uptoBulk]
theorem bulk_mem {H : Type} {d : DataW H} : ∀ {l : List (DataW H)}, d ∈ l → Rows.uptoBulk d ≤ Rows.uptoBulkAll l
  | x :: r, h => by
    rw [Rows.uptoBulkAll]
    rcases List.mem_cons.1 h with e | e
    · rw [e]; omega
    · have := bulk_mem e; omega
theorem bulk_len {H : Type} : ∀ l : List (DataW H), l.length ≤ Rows.uptoBulkAll l
  | [] => by simp
  | x :: r => by have h1 := bulk_pos x; have h2 := bulk_len r; rw [Rows.uptoBulkAll, List.length_cons]; omega
section
variable {H : Type} {enc : TypeId × Value → H} {W : World} {base : Nat} {v : Value} {d : DataW H} {p : List MemPlace} {l : List (DataW H)}
set_option maxRecDepth 100000 in
theorem open_bu (hk : Rows.uptoSmall H l = true) (hm : d ∈ l) (hv : Value.okWide Try.prog W .any base 32 v) (h : DataW.Trod enc Try.prog W 0 (fun _ => true) true 32 v d p) : ∃ bs, BsU W v bs := by
  obtain ⟨a, len, cap, rfl⟩ := okWide_slice Try.underlying32 hv
  obtain ⟨fuel, hf⟩ := h
  obtain ⟨bs, h1, _, h3⟩ := inner_bytes (v := .slice a len cap) hf
  refine ⟨bs, h1, ?_⟩
  have h4 : Rows.uptoBulkAll l ≤ 1048576 := of_decide_eq_true hk
  have h2 := bulk_mem hm
  rcases h3 with rfl | ⟨e, s, h5, h6⟩
  · simp
  · simp only at h5
    rw [h5, Rows.uptoBulk] at h2
    have := bulk_len e
    omega
end
end Go.Proofs.Ytngeefipeghjiaa
