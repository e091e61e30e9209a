/- The first shards that are not lost: how many, of which lengths (plain). -/
import Derived.Test.YtbdmbhpmbklaiaaS13
namespace Go.Proofs.Ytbdmbhpmbklaiaa
open Go.RowKit Gf

theorem lfR_take (L : List Sd) (k : Nat) : ∀ i, i ≤ L.length → lfR L (k : Int) i = (left (L.take i)).take k
  | 0, _ => by simp [lfR, left]
  | i + 1, h => by
    have ih := lfR_take L k i (by omega)
    have hl : ((left (L.take i)).take k).length = min k (left (L.take i)).length := List.length_take
    have hft : left (L.take (i + 1)) = left (L.take i) ++ (if (L.getD i none).isSome then [L.getD i none] else []) := flt_take (by omega)
    rw [lfR, ih, hl, hft, List.take_append]
    by_cases hs : (L.getD i none).isSome = true
    · rw [if_pos hs]
      by_cases hk : ((min k (left (L.take i)).length : Nat) : Int) < (k : Int)
      · rw [if_pos ⟨hs, hk⟩]
        congr 1
        rw [List.take_of_length_le]
        simp
        omega
      · rw [if_neg (fun h => hk h.2)]
        have : k - (left (L.take i)).length = 0 := by omega
        rw [this, List.take_zero, List.append_nil]
    · rw [if_neg hs, if_neg (fun h => hs h.1), List.take_nil, List.append_nil]
theorem lfR_full (L : List Sd) (k : Nat) : lfR L (k : Int) L.length = (left L).take k := by
  rw [lfR_take L k _ (Nat.le_refl _), List.take_length]
theorem lfP_mem (L : List Sd) (k : Int) : ∀ i x, x ∈ lfP L k i → ∃ j, j < i ∧ x = gn j
  | 0, x, h => by simp [lfP] at h
  | i + 1, x, h => by
    rw [lfP] at h
    split at h
    · rcases List.mem_append.1 h with h | h
      · obtain ⟨j, hj, e⟩ := lfP_mem L k i x h
        exact ⟨j, by omega, e⟩
      · simp at h
        exact ⟨i, by omega, h⟩
    · obtain ⟨j, hj, e⟩ := lfP_mem L k i x h
      exact ⟨j, by omega, e⟩
theorem lfP_nodup (L : List Sd) (k : Int) : ∀ i, i ≤ 256 → (lfP L k i).Nodup
  | 0, _ => List.nodup_nil
  | i + 1, h => by
    have ih := lfP_nodup L k i (by omega)
    rw [lfP]
    split
    · rw [List.nodup_append]
      refine ⟨ih, by simp, fun a ha b hb e => ?_⟩
      simp at hb
      obtain ⟨j, hj, e2⟩ := lfP_mem L k i a ha
      have := gn_inj (by omega) (by omega) (e2.symm.trans (e.trans hb))
      omega
    · exact ih
theorem getD_take {α : Type} (L : List α) {k j : Nat} (d : α) (h : j < k) : (L.take k).getD j d = L.getD j d := by simp only [List.getD]; rw [List.getElem?_take, if_pos h]
/-- What checkShards says where it finds nothing. -/
structure Fine (L : List Sd) (k : Nat) : Prop where
  k1 : 1 ≤ k
  k32 : k ≤ 32
  lo : k ≤ L.length
  hi : L.length ≤ k + 16
  form : frm (left L) = false
  many : k ≤ (left L).length
theorem fine_of {L : List Sd} {k : Int} (h : chkE L k = 0) : ∃ n : Nat, k = n ∧ Fine L n := by
  unfold chkE at h
  split at h
  · simp at h
  · rename_i h1
    split at h
    · simp at h
    · rename_i h2
      split at h
      · simp at h
      · rename_i h3
        exact ⟨k.toNat, by omega, by omega, by omega, by omega, by omega, by simpa using h2, by omega⟩
theorem Fine.len {L : List Sd} {k : Nat} (h : Fine L k) : (lfR L (k : Int) L.length).length = k := by
  rw [lfR_full, List.length_take]
  have := h.many
  omega
theorem Fine.row {L : List Sd} {k : Nat} (h : Fine L k) (j : Nat) (hj : j < (lfR L (k : Int) L.length).length) : (sl ((lfR L (k : Int) L.length).getD j none)).length = rowN (lfR L (k : Int) L.length) := by
  have hk := h.k1
  have hm := h.many
  rw [h.len] at hj
  unfold rowN
  rw [lfR_full, getD_take _ _ hj, getD_take _ _ (by omega), frm_len h.form (by omega)]
theorem Fine.small {L : List Sd} {k : Nat} (h : Fine L k) (h4 : ∀ i, i < L.length → (sl (L.getD i none)).length ≤ 4096) : rowN (lfR L (k : Int) L.length) ≤ 4096 := by
  have hk := h.k1
  have hm := h.many
  unfold rowN
  rw [lfR_full, getD_take _ _ (by omega)]
  exact left_row h4 0 (by omega)
/-- The j-th shard of the group. -/
def repS (L : List Sd) (k : Nat) (j : Nat) : Sd := some (grp (lfP L k L.length) (lfR L k L.length) (rowN (lfR L k L.length)) (gn j))
end Go.Proofs.Ytbdmbhpmbklaiaa
