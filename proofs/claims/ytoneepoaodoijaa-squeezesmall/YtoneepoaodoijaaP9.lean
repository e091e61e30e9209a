/- The document's row: bytes as they stand, in pieces (plain). -/
import Derived.Test.YtoneepoaodoijaaP6
import Derived.Test.YtoneepoaodoijaaP7
namespace Go.Proofs.Ytoneepoaodoijaa
open Go.RowKit Go.Lib Go.Shelf Oct

/-- The first k pieces of bytes as they stand. -/
def rws (b : List Int) (k : Nat) : List Int := (List.range k).flatMap (fun j => lay ⟨chk b j, 0, 0⟩)
theorem rws_snoc (b : List Int) (k : Nat) : rws b (k + 1) = rws b k ++ lay ⟨chk b k, 0, 0⟩ := by simp [rws, List.range_succ]
theorem lay_chk {b : List Int} {k m : Nat} (h : min 128 (b.length - 128 * k) = m) (h0 : 0 < m) : lay ⟨chk b k, 0, 0⟩ = [((m - 1 : Nat) : Int)] ++ (b.drop (128 * k)).take m := by
  have hl : (chk b k).length = m := by unfold chk; rw [List.length_take, List.length_drop, h]
  have e : chk b k = (b.drop (128 * k)).take m := by
    unfold chk
    rw [← h]
    by_cases h128 : 128 ≤ b.length - 128 * k
    · rw [Nat.min_eq_left h128]
    · rw [Nat.min_eq_right (by omega), List.take_of_length_le (by rw [List.length_drop]; omega), List.take_of_length_le (by rw [List.length_drop]; exact Nat.le_refl _)]
  unfold lay
  simp only
  rw [if_pos (by omega), hl, e]
  rfl
theorem rws_len (b : List Int) (hb : b.length ≤ 8192) : ∀ k, k ≤ cnk b.length → (rws b k).length ≤ 129 * k
  | 0, _ => by simp [rws]
  | k + 1, h => by
    have ih := rws_len b hb k (by omega)
    have hk : 128 * k < b.length := by unfold cnk at h; omega
    rw [rws_snoc, List.length_append, lay_chk (m := min 128 (b.length - 128 * k)) rfl (by omega)]
    simp only [List.length_append, List.length_cons, List.length_nil, List.length_take]
    omega
end Go.Proofs.Ytoneepoaodoijaa
