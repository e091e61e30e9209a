/- The document's disk: rows of parts; set. -/
import Derived.Test.YtmcikhdfpmkpnaaR1
namespace Go.Proofs.Ytmcikhdfpmkpnaa
open Go.RowKit Go.Maps Go.Sort Go.Shelf

theorem info54 : (Try.prog.info? 54).map (fun i => (i.zero, i.size, i.bytes)) = some (some (.agg #[.string ⟨#[]⟩, .string ⟨#[]⟩, .bool false]), 3, 40) := by kernel_rfl

section
variable {ops : Array Oper} {rest : List Oper} {o : Oper} {a : Act} {Q : Exit → Act → World → Prop}
/-- 'append(l, p)' of one part. -/
theorem wp_app1P {w : World} {s : Sec} (hgd : o.guard = none) (x y : Operand)
    (ho : o.op = .call { callee := .builtin .append, args := #[x, y], argTypes := #[50, 50] })
    {base : Nat} {v : Value} {S : List Sec} (hs : a.eval x = v) (hown : OwnP w base v S)
    (hx : a.eval y = .slice (some ⟨w.heap.size, 0, none⟩) 1 1) (hlen : S.length ≤ 5000) (hbase : base ≤ w.heap.size)
    (h : ∀ v' w', OwnP w' base v' (S ++ [s]) → Below base w w' → wpList Try.prog ops Q rest (a.put o.dst v') w') :
    wpList Try.prog ops Q (o :: rest) a (w.alloc (.cells #[.string (strOfNums s.1), .string (strOfNums (s.2.getD [])), .bool s.2.isSome] 54)) := by
  obtain ⟨i0, hi, hz0, hz1, hz2⟩ := info_parts' info54
  refine wpList_append_own _ hgd x y 50 ho base 54 i0 (.agg #[.string ⟨#[]⟩, .string ⟨#[]⟩, .bool false]) 3 40 Try.underlying50 hi hz0 hz1 hz2 rfl (by decide) v S.length _ hs (World.ownsRow.alloc hown _) ⟨w.heap.size, 0, none⟩ 1 1 (pe s) hx rfl ?_ ?_ ?_ ?_ ?_ ?_
  · intro j u hj
    rw [add_plain, cell_of_row _ _ _ _ _ _ (heap_alloc_new w _)]
    match j, hj with
    | 0, hj => simp [pe] at hj; subst hj; rfl
    | 1, hj => simp [pe] at hj; subst hj; rfl
    | 2, hj => simp [pe] at hj; subst hj; rfl
    | j + 3, hj => simp [pe] at hj
  · intro u hu; simp [pe] at hu; rcases hu with rfl | rfl | rfl <;> rfl
  · unfold maxLen; omega
  · omega
  · simp; omega
  · intro v' w' h1 h2 _
    refine h v' w' (by unfold OwnP; rw [fp_append]; simpa [fp] using h1) ?_
    exact ((Below.refl base w).alloc hbase _).grown h2 (by simp; omega) (own_ge hown)
/-- 'append(l, m...)' of parts. -/
theorem wp_appSP {w : World} (hgd : o.guard = none) (x y : Operand)
    (ho : o.op = .call { callee := .builtin .append, args := #[x, y], argTypes := #[50, 50] })
    {base base2 : Nat} {v u : Value} {S T : List Sec} (hs : a.eval x = v) (hown : OwnP w base v S)
    (hx : a.eval y = u) (hu : OwnP w base2 u T) (hlen : S.length + T.length ≤ 5000) (hbase : base ≤ w.heap.size)
    (h : ∀ v' w', OwnP w' base v' (S ++ T) → Below base w w' → wpList Try.prog ops Q rest (a.put o.dst v') w') :
    wpList Try.prog ops Q (o :: rest) a w := by
  obtain ⟨i0, hi, hz0, hz1, hz2⟩ := info_parts' info54
  rcases hu.2 with ⟨rfl, h0⟩ | ⟨g, cap, cur, rfl, hb, hh, h1, h2, h3, h4⟩
  · have hT : T = [] := List.length_eq_zero_iff.1 h0
    subst hT
    exact wpList_append_own_none hgd x y 50 ho base 54 i0 3 Try.underlying50 hi v S.length _ hs hown hx (h v w (by simpa using hown) (Below.refl _ _))
  · refine wpList_append_own _ hgd x y 50 ho base 54 i0 (.agg #[.string ⟨#[]⟩, .string ⟨#[]⟩, .bool false]) 3 40 Try.underlying50 hi hz0 hz1 hz2 rfl (by decide) v S.length _ hs hown ⟨g, 0, none⟩ T.length cap (fp T) hx (fp_length T) ?_ (fp_one T) ?_ ?_ hbase ?_
    · intro j z hj
      have hjl : j < T.length * 3 := by
        rw [← fp_length]
        rcases Nat.lt_or_ge j (fp T).length with q | q
        · exact q
        · rw [List.getElem?_eq_none q] at hj; cases hj
      rw [add_plain, Nat.zero_add, cell_of_row _ _ _ _ _ _ hh]
      have e2 : (cur.toList.take (T.length * 3))[j]? = (fp T)[j]? := by rw [h4]
      rw [List.getElem?_take, if_pos hjl, hj] at e2
      simpa using e2
    · unfold maxLen; omega
    · omega
    · intro v' w' h1 h2 _
      refine h v' w' (by unfold OwnP; rw [fp_append, List.length_append]; exact h1) ?_
      exact (Below.refl base w).grown h2 hbase (own_ge hown)
end

theorem fp_set {S : List Sec} {i : Nat} (hi : i < S.length) (s : Sec) : fp (S.set i s) = (((fp S).set (i * 3) (.string (strOfNums s.1))).set (i * 3 + 1) (.string (strOfNums (s.2.getD [])))).set (i * 3 + 2) (.bool s.2.isSome) := by
  induction S generalizing i with
  | nil => simp at hi
  | cons x S ih =>
    match i with
    | 0 => rfl
    | i + 1 =>
      have e : ∀ T : List Sec, fp (x :: T) = .string (strOfNums x.1) :: .string (strOfNums (x.2.getD [])) :: .bool x.2.isSome :: fp T := fun T => rfl
      rw [List.set_cons_succ, e, e, ih (by simpa using hi), show (i + 1) * 3 = i * 3 + 1 + 1 + 1 by omega, show i * 3 + 1 + 1 + 1 + 1 = (i * 3 + 1) + 1 + 1 + 1 by omega, show i * 3 + 1 + 1 + 1 + 2 = (i * 3 + 2) + 1 + 1 + 1 by omega]
      simp
/-- A part is stored. -/
theorem OwnP.stored {w : World} {base g n cap : Nat} {S : List Sec} (h : OwnP w base (.slice (some ⟨g, 0, none⟩) n cap) S) {i : Nat} (hi : i < S.length) (s : Sec) :
    OwnP (((w.setCell ⟨g, i * 3, none⟩ (.string (strOfNums s.1))).setCell ⟨g, i * 3 + 1, none⟩ (.string (strOfNums (s.2.getD [])))).setCell ⟨g, i * 3 + 2, none⟩ (.bool s.2.isSome)) base (.slice (some ⟨g, 0, none⟩) n cap) (S.set i s) ∧ (∀ j, j < 3 → (w.cell? ⟨g, i * 3 + j, none⟩).isSome = true) ∧ ∀ j, w.frozen? ⟨g, j, none⟩ = false := by
  have h0 := h.1
  rcases h.2 with ⟨h', _⟩ | ⟨g', cap', cur, h', hb, hh, h1, h2, h3, h4⟩
  · simp at h'
  · simp only [Value.slice.injEq, Option.some.injEq, Addr.mk.injEq] at h'
    obtain ⟨⟨rfl, _, _⟩, rfl, rfl⟩ := h'
    have hcs : S.length * 3 ≤ cur.size := by rw [h3]; exact Nat.mul_le_mul_right 3 h1
    refine ⟨⟨by rw [fp_length], .inr ⟨g, cap, _, by rw [List.length_set], hb, heap_setCell_same _ g (i * 3 + 2) _ 54 _ (heap_setCell_same _ g (i * 3 + 1) _ 54 _ (heap_setCell_same w g (i * 3) cur 54 _ hh)), by simpa using h1, h2, by simpa using h3, ?_⟩⟩, fun j hj => ?_, fun j => frozen_of_row w g j _ 54 hh⟩
    · rw [List.length_set, Array.toList_setIfInBounds, Array.toList_setIfInBounds, Array.toList_setIfInBounds, List.take_set, List.take_set, List.take_set, h4, ← fp_set hi s]
    · rw [cell_of_row _ _ _ _ _ _ hh]
      have : i * 3 + j < cur.size := by omega
      simp [this]
end Go.Proofs.Ytmcikhdfpmkpnaa
