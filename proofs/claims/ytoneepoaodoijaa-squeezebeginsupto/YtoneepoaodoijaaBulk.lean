/- What the bound on the bulk of the arguments gives: how long a slice of bytes is. -/
import Derived.Test.YtoneepoaodoijaaFrame
import Derived.JoinedCond
import Derived.Test.YtoneepoaodoijaaRows
namespace Go.Proofs.Ytoneepoaodoijaa
open Go.ChangeShapes Go.WideShapes Go.ChangeAt Go.RowKit

theorem bulk_pos {H : Type} (d : DataW H) : 0 < Rows.uptoBulk d := by
  rcases d with ⟨l⟩ | _ | _ | _ | _ | _ | _ | _
  · cases l <;> simp [Rows.uptoBulk]
  all_goals simp [Rows.uptoBulk]

theorem bulk_mem {H : Type} {d : DataW H} : ∀ {l : List (DataW H)}, d ∈ l → Rows.uptoBulk d ≤ Rows.uptoBulkAll l
  | x :: r, h => by
    rw [Rows.uptoBulkAll]
    rcases List.mem_cons.1 h with e | e
    · rw [e]; omega
    · have := bulk_mem e; omega

theorem bulk_len {H : Type} : ∀ l : List (DataW H), l.length ≤ Rows.uptoBulkAll l
  | [] => by simp
  | x :: r => by have h1 := bulk_pos x; have h2 := bulk_len r; rw [Rows.uptoBulkAll, List.length_cons]; omega

/-- A slice of bytes among arguments of small bulk is short. -/
theorem bulk_bytes {H : Type} {l : List (DataW H)} {d : DataW H} {bs : List Int} (hk : Rows.uptoSmall H l = true) (hm : d ∈ l) (hd : IsBytes d bs) : bs.length ≤ 1048576 := by
  have h1 : Rows.uptoBulkAll l ≤ 1048576 := of_decide_eq_true hk
  have h2 := bulk_mem hm
  rcases hd with ⟨_, rfl⟩ | ⟨spare, rfl⟩
  · simp
  · rw [Rows.uptoBulk] at h2
    have h3 := bulk_len (lits (H := H) .u8 bs)
    simp only [lits, List.length_map] at h3 h2
    omega
end Go.Proofs.Ytoneepoaodoijaa
