/- Whose a sector is: a map of ints, as plain functions. -/
import Derived.Test.YtcmibcmndiplbabZ1
import Derived.Maps.OwnSet
import Derived.Maps.OwnOps
import Derived.Maps.Views
namespace Go.Proofs.Ytcmibcmndiplbab
open Go.RowKit Go.Lib Go.Shelf

/-- The map's datum D has just the keys T, sz of them, each with a number from 1 on. -/
structure Owner (D : DataW Unit) (T : Int → Bool) (sz : Int) : Prop where
  tidy : Maps.Tidy D
  has : ∀ k, Maps.has D (.int .i64 k) = T k
  val : ∀ k, T k = true → ∃ c : Int, 1 ≤ c ∧ D.atKey (.int .i64 k) (.lit (.int .i64 0)) = .lit (.int .i64 c)
  size : (Maps.size D : Int) = sz

def tset (T : Int → Bool) (lo hi : Int) (v : Bool) : Int → Bool := fun k => if lo ≤ k ∧ k < hi then v else T k
theorem tset_none (T : Int → Bool) (lo : Int) (v : Bool) : tset T lo lo v = T := by
  funext k; unfold tset; rw [if_neg (by omega)]
theorem tset_succ (T : Int → Bool) (lo hi : Int) (v : Bool) (h : lo ≤ hi) : tset T lo (hi + 1) v = fun k => if k = hi then v else tset T lo hi v k := by
  funext k
  unfold tset
  by_cases e : k = hi
  · rw [if_pos e, if_pos (by omega)]
  · rw [if_neg e]
    by_cases e2 : lo ≤ k ∧ k < hi
    · rw [if_pos e2, if_pos (by omega)]
    · rw [if_neg e2, if_neg (by omega)]

theorem Owner.empty : Owner (.map []) (fun _ => false) 0 := ⟨Maps.tidy_empty, fun _ => rfl, fun _ h => absurd h (by simp), rfl⟩
theorem isKey (k : Int) : WideAt.IsKeyLit (.int .i64 k) := trivial
theorem Owner.put {D : DataW Unit} {T : Int → Bool} {sz : Int} (h : Owner D T sz) (k c : Int) (hT : T k = false) (hc : 1 ≤ c) : Owner (D.put (.int .i64 k) (.lit (.int .i64 c))) (fun j => if j = k then true else T j) (sz + 1) := by
  have hK := isKey k
  refine ⟨h.tidy.put hK _, fun j => ?_, fun j hj => ?_, ?_⟩
  · by_cases e : j = k
    · subst e; rw [if_pos rfl]; exact Maps.has_put_same h.tidy.isMap hK _
    · rw [if_neg e, Maps.has_put_other (by simpa using e)]; exact h.has j
  · by_cases e : j = k
    · subst e; exact ⟨c, hc, Maps.atKey_put_same h.tidy.isMap hK _ _⟩
    · rw [if_neg e] at hj
      obtain ⟨d, hd, ha⟩ := h.val j hj
      exact ⟨d, hd, by rw [Maps.atKey_put_other (by simpa using e)]; exact ha⟩
  · have := Maps.size_put (k := .int .i64 k) h.tidy (.lit (.int .i64 c))
    rw [h.has k, hT] at this
    simp at this
    rw [this]
    have := h.size
    omega
theorem Owner.del {D : DataW Unit} {T : Int → Bool} {sz : Int} (h : Owner D T sz) (k : Int) (hT : T k = true) : Owner (D.del (.int .i64 k)) (fun j => if j = k then false else T j) (sz - 1) := by
  refine ⟨h.tidy.del _, fun j => ?_, fun j hj => ?_, ?_⟩
  · by_cases e : j = k
    · subst e; rw [if_pos rfl]; exact Maps.has_del_same
    · rw [if_neg e, Maps.has_del_other (by simpa using e)]; exact h.has j
  · by_cases e : j = k
    · subst e; rw [if_pos rfl] at hj; cases hj
    · rw [if_neg e] at hj
      obtain ⟨d, hd, ha⟩ := h.val j hj
      exact ⟨d, hd, by rw [Maps.atKey_del_other (by simpa using e)]; exact ha⟩
  · have := Maps.size_del (k := .int .i64 k) h.tidy
    rw [h.has k, hT] at this
    simp at this
    have := h.size
    omega
theorem Owner.none {D : DataW Unit} {T : Int → Bool} {sz : Int} (h : Owner D T sz) (k : Int) (hT : T k = false) (z : DataW Unit) : D.atKey (.int .i64 k) z = z := Maps.atKey_of_not_has (by rw [h.has k]; exact hT) z
end Go.Proofs.Ytcmibcmndiplbab
