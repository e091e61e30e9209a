/- Slices of bytes: read, owned, appended to. -/
import Derived.Test.YthohpbppfihoiaaInts
namespace Go.Proofs.Ythohpbppfihoiaa
open Go.RowKit

def yv (l : List Int) : List Value := l.map (Value.int .u8)
theorem yv_len (l : List Int) : (yv l).length = l.length := by simp [yv]
theorem yv_get (l : List Int) {i : Nat} (h : i < l.length) : (yv l)[i]? = some (.int .u8 (l.getD i 0)) := by
  simp [yv, List.getD, List.getElem?_eq_getElem h]
theorem yv_app (l m : List Int) : yv (l ++ m) = yv l ++ yv m := by simp [yv]
theorem yv_one (l : List Int) : ∀ u ∈ yv l, u.oneCell' = true := by
  intro u hu
  simp [yv] at hu
  obtain ⟨z, _, rfl⟩ := hu
  rfl
def OwnY (w : World) (base : Nat) (v : Value) (l : List Int) : Prop := w.ownsRow base 5 1 v l.length (yv l)
def RdY (w : World) (v : Value) (l : List Int) : Prop := Rd w v (yv l)
theorem OwnY.rd {w : World} {base : Nat} {v : Value} {l : List Int} (h : OwnY w base v l) : RdY w v l := own_rd h
theorem RdY.shape {w : World} {v : Value} {l : List Int} (h : RdY w v l) : ∃ a cap, v = .slice a l.length cap ∧ l.length ≤ cap ∧ cap ≤ maxLen ∧ (a = none → cap = 0) := by
  obtain ⟨a, cap, rfl, h1, h2, h3, _⟩ := h
  exact ⟨a, cap, by rw [yv_len], by rw [yv_len] at h1; exact h1, h2, h3⟩
theorem OwnY.shape {w : World} {base : Nat} {v : Value} {l : List Int} (h : OwnY w base v l) : ∃ a cap, v = .slice a l.length cap ∧ l.length ≤ cap ∧ cap ≤ maxLen ∧ (a = none → cap = 0) := h.rd.shape
theorem RdY.at {w : World} {v : Value} {l : List Int} (h : RdY w v l) {i : Nat} (hi : i < l.length) : ∃ b off cap, v = .slice (some ⟨b, off, none⟩) l.length cap ∧ l.length ≤ cap ∧ ∀ j, j < l.length → w.cell? ⟨b, off + j, none⟩ = some (.int .u8 (l.getD j 0)) := by
  rcases Rd.cases h with ⟨e, _⟩ | ⟨_, b, off, cap, rfl, hc, _, hcell⟩
  · have := congrArg List.length e
    rw [yv_len] at this
    simp at this
    subst this
    simp at hi
  · rw [yv_len] at hc
    exact ⟨b, off, cap, by rw [yv_len], hc, fun j hj => (hcell j (by rw [yv_len]; exact hj)).trans (yv_get l hj)⟩
theorem infoByte : (Try.prog.info? 5).map (fun i => (i.zero, i.size, i.bytes)) = some (some (.int .u8 0), 1, 1) := by kernel_rfl
theorem owny_nil (w : World) (base : Nat) : OwnY w base (.slice none 0 0) [] := World.ownsRow_nil w base 5 1
theorem owny_none (w : World) : OwnY (w.alloc (.cells #[] 5)) w.heap.size (.slice (some ⟨w.heap.size, 0, none⟩) 0 0) [] :=
  ⟨rfl, .inr ⟨w.heap.size, 0, #[], rfl, Nat.le_refl _, heap_alloc_new w _, Nat.le_refl _, by decide, rfl, rfl⟩⟩
section
variable {w : World} {ops : Array Oper} {rest : List Oper} {o : Oper} {a : Act} {Q : Exit → Act → World → Prop}
/-- 'append(v, src...)' of bytes: where the new slice lies. -/
theorem wp_appY (hgd : o.guard = none) (s x : Operand)
    (ho : o.op = .call { callee := .builtin .append, args := #[s, x], argTypes := #[25, 25] })
    {base : Nat} {v u : Value} {xs ys : List Int} (hs : a.eval s = v) (hown : OwnY w base v xs)
    (hx : a.eval x = u) (hu : RdY w u ys) (hlen : xs.length + ys.length ≤ 1000000000000) (hbase : base ≤ w.heap.size)
    (h : ∀ v' w', OwnY w' base v' (xs ++ ys) → Chg (ob v) w w' → (v'.ownBlock = v.ownBlock ∨ v'.ownBlock = some w.heap.size) → wpList Try.prog ops Q rest (a.put o.dst v') w') :
    wpList Try.prog ops Q (o :: rest) a w := by
  obtain ⟨i0, hi, hz0, hz1, hz2⟩ := info_parts' infoByte
  obtain ⟨ao, cap, rfl, hl, hm, hn, hc⟩ := hu
  cases ao with
  | none =>
    have hcap := hn rfl
    subst hcap
    have hy : ys = [] := by rw [yv_len] at hl; exact List.length_eq_zero_iff.1 (by omega)
    subst hy
    exact wpList_append_own_none hgd s x 25 ho base 5 i0 1 Try.underlying25 hi v xs.length _ hs hown hx (h v w (by simpa [OwnY] using hown) (Chg.refl _ _) (.inl rfl))
  | some ad =>
    rw [yv_len] at hx hl hc
    refine wpList_append_at hgd s x 25 ho base 5 i0 (.int .u8 0) 1 Try.underlying25 hi hz0 hz1 hz2 rfl v xs.length _ hs hown ad ys.length cap (yv ys) hx (yv_len ys) ?_ (yv_one ys) ?_ ?_ hbase ?_
    · intro j u hj
      have hjl : j < ys.length := by
        rcases Nat.lt_or_ge j ys.length with h | h
        · exact h
        · rw [List.getElem?_eq_none (by rw [yv_len]; exact h)] at hj; cases hj
      rw [hc ad rfl j hjl]
      exact hj
    · unfold maxLen; omega
    · omega
    · intro v' w' h1 h2 h3
      exact h v' w' (by unfold OwnY; rw [yv_app, List.length_append]; exact h1) (Chg.ofGrown h2) h3
/-- 'append(v, y)' of one byte. -/
theorem wp_appY1 {y : Int} (hgd : o.guard = none) (s x : Operand)
    (ho : o.op = .call { callee := .builtin .append, args := #[s, x], argTypes := #[25, 25] })
    {base : Nat} {v : Value} {xs : List Int} (hs : a.eval s = v) (hown : OwnY w base v xs)
    (hx : a.eval x = .slice (some ⟨w.heap.size, 0, none⟩) 1 1) (hlen : xs.length ≤ 1000000000000) (hbase : base ≤ w.heap.size)
    (h : ∀ v' w', OwnY w' base v' (xs ++ [y]) → Chg (ob v) w w' → (v'.ownBlock = v.ownBlock ∨ v'.ownBlock = some (w.heap.size + 1)) → wpList Try.prog ops Q rest (a.put o.dst v') w') :
    wpList Try.prog ops Q (o :: rest) a (w.alloc (.cells #[.int .u8 y] 5)) := by
  obtain ⟨i0, hi, hz0, hz1, hz2⟩ := info_parts' infoByte
  refine wpList_append_at hgd s x 25 ho base 5 i0 (.int .u8 0) 1 Try.underlying25 hi hz0 hz1 hz2 rfl v xs.length _ hs (World.ownsRow.alloc hown _) ⟨w.heap.size, 0, none⟩ 1 1 [.int .u8 y] hx rfl ?_ ?_ ?_ ?_ ?_ ?_
  · intro j u hj
    match j, hj with
    | 0, hj => simp at hj; subst hj; simp [Addr.add]
  · intro u hu; simp at hu; subst hu; rfl
  · unfold maxLen; omega
  · omega
  · simp; omega
  · intro v' w' h1 h2 h3
    refine h v' w' (by unfold OwnY; rw [yv_app, List.length_append]; exact h1) ?_ (by simpa using h3)
    exact (Chg.ofBelow ((Below.refl _ w).alloc (Nat.le_refl _) _)).trans (Chg.ofGrown h2)
end
end Go.Proofs.Ythohpbppfihoiaa
