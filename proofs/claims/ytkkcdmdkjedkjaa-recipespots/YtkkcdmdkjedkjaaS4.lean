/- Adjacent twins are let go: what slices.Compact leaves. -/
import Derived.Test.YtkkcdmdkjedkjaaS2
import Derived.Laws.CopyRow
import Derived.Laws.Tables
namespace Go.Proofs.Ytkkcdmdkjedkjaa
open Go.RowKit Go.Lib

def q0 : Sp := (0, 0)
def cp (L : List Sp) : Nat → List Sp
  | 0 => []
  | j + 1 => if 0 < j ∧ L.getD j q0 = L.getD (j - 1) q0 then cp L j else cp L j ++ [L.getD j q0]
theorem cp_le (L : List Sp) : ∀ j, (cp L j).length ≤ j
  | 0 => Nat.le_refl _
  | j + 1 => by
    have := cp_le L j
    unfold cp
    split
    · omega
    · simp; omega
theorem cp_mem (L : List Sp) : ∀ j i, i < j → L.getD i q0 ∈ cp L j
  | j + 1, i, h => by
    unfold cp
    split
    · rename_i h1
      rcases Nat.lt_or_ge i j with h2 | h2
      · exact cp_mem L j i h2
      · have : i = j := by omega
        subst this
        rw [h1.2]
        exact cp_mem L i (i - 1) (by omega)
    · rcases Nat.lt_or_ge i j with h2 | h2
      · exact List.mem_append_left _ (cp_mem L j i h2)
      · have : i = j := by omega
        subst this
        simp
theorem cp_same {L : List Sp} {j : Nat} (h0 : 0 < j) (h : L.getD j q0 = L.getD (j - 1) q0) : cp L (j + 1) = cp L j := by
  rw [cp, if_pos ⟨h0, h⟩]
theorem cp_next {L : List Sp} {j : Nat} (h : j = 0 ∨ L.getD j q0 ≠ L.getD (j - 1) q0) : cp L (j + 1) = cp L j ++ [L.getD j q0] := by
  rw [cp, if_neg]
  rintro ⟨h0, h1⟩
  rcases h with rfl | h
  · omega
  · exact h h1
theorem take_snoc {L : List Sp} {j : Nat} (h : j < L.length) : L.take (j + 1) = L.take j ++ [L.getD j q0] := by
  rw [List.take_add_one, List.getElem?_eq_getElem h]
  simp [List.getD, List.getElem?_eq_getElem h]
/-- The row midway: what was kept, and behind it what stood there. -/
def mid (L : List Sp) (j : Nat) : List Sp := cp L j ++ L.drop (cp L j).length
theorem mid_len {L : List Sp} {j : Nat} (h : j ≤ L.length) : (mid L j).length = L.length := by
  have := cp_le L j
  unfold mid
  rw [List.length_append, List.length_drop]
  omega
theorem mid_far {L : List Sp} {j i : Nat} (h : (cp L j).length ≤ i) : (mid L j).getD i q0 = L.getD i q0 := by
  unfold mid
  simp only [List.getD]
  rw [List.getElem?_append_right h, List.getElem?_drop]
  congr 2
  omega
theorem mid_take (L : List Sp) (j : Nat) : (mid L j).take (cp L j).length = cp L j := by
  unfold mid
  rw [List.take_append_of_le_length (Nat.le_refl _), List.take_length]
theorem mid_next {L : List Sp} {j : Nat} (hj : j < L.length) (h : j = 0 ∨ L.getD j q0 ≠ L.getD (j - 1) q0) : mid L (j + 1) = (mid L j).set (cp L j).length (L.getD j q0) := by
  have h1 := cp_le L j
  unfold mid
  rw [cp_next h, List.set_append_right _ _ (Nat.le_refl _), Nat.sub_self, List.length_append, List.append_assoc]
  congr 1
  rw [List.drop_eq_getElem_cons (show (cp L j).length < L.length by omega), List.set_cons_zero]
  rfl
theorem mid_start {L : List Sp} {j : Nat} (h : cp L j = L.take j) (hj : j ≤ L.length) : mid L j = L := by
  unfold mid
  rw [h, List.length_take, Nat.min_eq_left hj, List.take_append_drop]
theorem eq61 (w : World) (a b c d : Int) : (binOp .eql 61 (.agg #[.int .i64 a, .int .i64 b]) (.agg #[.int .i64 c, .int .i64 d])).run Try.prog w = .ok (.bool (decide ((a, b) = (c, d)))) w := by
  rw [run_eql_struct]
  have := eqIn61 w (a, b) (c, d) 9997
  simp only [spv] at this
  rw [this]
  rfl
theorem ne61 (w : World) (a b c d : Int) : (binOp .neq 61 (.agg #[.int .i64 a, .int .i64 b]) (.agg #[.int .i64 c, .int .i64 d])).run Try.prog w = .ok (.bool (!decide ((a, b) = (c, d)))) w := by
  rw [run_neq_struct]
  have := eqIn61 w (a, b) (c, d) 9997
  simp only [spv] at this
  rw [this]
  rfl
theorem guard61 (w : World) (op : BinOp) (x y : Operand) (xs ys : Array Value) : (eqGuard op 61 x y (.agg xs) (.agg ys)).run Try.prog w = .ok () w := run_eqGuard_agg w op 61 x y xs ys (by kernel_rfl)
theorem run_clearQ (w : World) (ty g o n c : Nat) (C : Array Value) (hg : w.heap[g]? = some (.cells C 61 (0, 0))) (hn : 0 < n) (hfit : o + n * 2 ≤ C.size) :
    (Builtin.clear_ #[58] ty #[.slice (some ⟨g, o, none⟩) n c]).run Try.prog w = .ok (.tuple #[]) (w.setRow g (C.toList.take o ++ List.replicate (n * 2) (Value.int .i64 0) ++ C.toList.drop (o + n * 2)).toArray) := by
  have hzc : (Builtin.zeroCells (Value.agg #[.int .i64 0, .int .i64 0]).cells n).toList = List.replicate (n * 2) (.int .i64 0) := by
    simp [Builtin.zeroCells, Value.cells]
    apply List.ext_getElem
    · simp
    · intro i h1 h2
      simp
      rcases Nat.mod_two_eq_zero_or_one i with h | h <;> simp [h]
  have hst := run_storeCells_at Try.prog g o 61 (List.replicate (n * 2) (.int .i64 0)) 0 C w hg (by simpa using hfit) (by intro v hv'; rw [List.eq_of_mem_replicate hv']; rfl)
  simp only [Nat.add_zero, List.length_replicate] at hst
  obtain ⟨m, rfl⟩ : ∃ m, n = m + 1 := ⟨n - 1, by omega⟩
  simp [Builtin.clear_, run_underlying Try.underlying58, Try.zeroValue61, hzc, hst]
theorem set_spot {w : World} {base g n cap : Nat} {L : List Sp} (h : OwnE sp2 2 61 w base (.slice (some ⟨g, 0, none⟩) n cap) L) (hn : L.length = n) {k : Nat} (hk : k < n) (y : Sp) :
    OwnE sp2 2 61 ((w.setCell ⟨g, k * 2, none⟩ (.int .i64 y.1)).setCell ⟨g, k * 2 + 1, none⟩ (.int .i64 y.2)) base (.slice (some ⟨g, 0, none⟩) n cap) (L.set k y) := by
  have h0 := h.own
  rw [hn] at h0
  have h1 := own_setCell (own_setCell h0 (k * 2) (.int .i64 y.1)) (k * 2 + 1) (.int .i64 y.2)
  have e : ((fl sp2 L).set (k * 2) (.int .i64 y.1)).set (k * 2 + 1) (.int .i64 y.2) = fl sp2 (L.set k y) := by
    apply List.ext_getElem?
    intro p
    rw [fl_set sp2 2 q0 L (fun x hx => (h.each x hx).1) k (by omega) y rfl p, List.getElem?_set, List.getElem?_set]
    have hl : (fl sp2 L).length = n * 2 := by rw [h0.1]
    by_cases h2 : p / 2 = k
    · rw [show (if p / 2 = k ∧ 0 < 2 then (sp2 y)[p % 2]? else (fl sp2 L)[p]?) = (sp2 y)[p % 2]? from if_pos ⟨h2, by omega⟩]
      rcases Nat.mod_two_eq_zero_or_one p with h3 | h3
      · have hp : k * 2 = p := by omega
        rw [if_neg (by omega), if_pos hp, if_pos (by omega), h3]
        rfl
      · have hp : k * 2 + 1 = p := by omega
        rw [if_pos hp, List.length_set, if_pos (by omega), h3]
        rfl
    · rw [show (if p / 2 = k ∧ 0 < 2 then (sp2 y)[p % 2]? else (fl sp2 L)[p]?) = (fl sp2 L)[p]? from if_neg (by omega), if_neg (by omega), if_neg (by omega)]
  rw [e] at h1
  refine ⟨by rw [List.length_set, hn]; exact h1, fun x hx => ?_⟩
  exact sp2_one x
end Go.Proofs.Ytkkcdmdkjedkjaa
