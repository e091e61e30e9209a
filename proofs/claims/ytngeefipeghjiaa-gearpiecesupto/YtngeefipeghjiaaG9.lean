/- Bytes in blocks of their own, rows of such bytes. -/
import Derived.Test.YtngeefipeghjiaaG7
import Derived.Test.YtngeefipeghjiaaG8
namespace Go.Proofs.Ytngeefipeghjiaa
open Go.RowKit

/-- The block of a slice, if there is one. -/
def ob (v : Value) : List Nat := v.ownBlock.toList
theorem mem_ob {v : Value} {k : Nat} : k ∈ ob v ↔ v.ownBlock = some k := by unfold ob; simp [eq_comm]
theorem Chg.ofGrown {w w' : World} {v : Value} (h : w.grownBy w' v.ownBlock) : Chg (ob v) w w' :=
  ⟨h.os, h.tape, h.output, h.size, fun k hk hx => h.block k hk (fun e => hx (mem_ob.2 e.symm))⟩
/-- Block k holds a row of elements of type e, none of them frozen. -/
def Ty (w : World) (e : TypeId) (k : Nat) : Prop := ∃ cs, w.heap[k]? = some (.cells cs e (0, 0))
theorem Ty.lt {w : World} {e : TypeId} {k : Nat} (h : Ty w e k) : k < w.heap.size := by obtain ⟨cs, h⟩ := h; exact (Array.getElem?_eq_some_iff.1 h).1
theorem Ty.ne {w : World} {e f : TypeId} {k j : Nat} (h : Ty w e k) (h2 : Ty w f j) (hne : e ≠ f) : k ≠ j := by
  rintro rfl
  obtain ⟨cs, h⟩ := h
  obtain ⟨ds, h2⟩ := h2
  rw [h] at h2
  simp at h2
  exact hne h2.2
theorem Ty.chg {w w' : World} {e : TypeId} {k : Nat} {X : List Nat} (h : Ty w e k) (hc : Chg X w w') (hx : k ∉ X) : Ty w' e k := by
  obtain ⟨cs, h'⟩ := h
  exact ⟨cs, (hc.block k (Ty.lt ⟨cs, h'⟩) hx).trans h'⟩
/-- A cell's store leaves a row a row. -/
theorem Ty.set {w : World} {e : TypeId} {k b o : Nat} {u : Value} (h : Ty w e k) : Ty (w.setCell ⟨b, o, none⟩ u) e k := by
  obtain ⟨cs, h'⟩ := h
  by_cases hb : k = b
  · subst hb; exact ⟨_, heap_setCell_same w k o cs e u h'⟩
  · exact ⟨cs, (heap_setCell_other w ⟨b, o, none⟩ k u hb).trans h'⟩
theorem own_ty {w : World} {base : Nat} {e : TypeId} {k : Nat} {v : Value} {n : Nat} {xs : List Value} (h : w.ownsRow base e k v n xs) {g : Nat} (hg : v.ownBlock = some g) : Ty w e g := by
  rcases h.2 with ⟨rfl, _⟩ | ⟨g', cap, cur, rfl, hb, hh, _⟩
  · simp [Value.ownBlock] at hg
  · simp [Value.ownBlock] at hg
    subst hg
    exact ⟨cur, hh⟩
theorem own_far {w w' : World} {base : Nat} {e : TypeId} {k : Nat} {v : Value} {n : Nat} {xs : List Value} {X : List Nat} (h : w.ownsRow base e k v n xs) (hc : Chg X w w') (hx : ∀ g, v.ownBlock = some g → g ∉ X) : w'.ownsRow base e k v n xs := by
  refine ⟨h.1, ?_⟩
  rcases h.2 with hn | ⟨g, cap, cur, rfl, hb, hh, rest⟩
  · exact .inl hn
  · exact .inr ⟨g, cap, cur, rfl, hb, (hc.block g (Array.getElem?_eq_some_iff.1 hh).1 (hx g rfl)).trans hh, rest⟩
theorem own_base {w : World} {base b' : Nat} {e : TypeId} {k : Nat} {v : Value} {n : Nat} {xs : List Value} (h : w.ownsRow base e k v n xs) (hx : ∀ g, v.ownBlock = some g → b' ≤ g) : w.ownsRow b' e k v n xs := by
  refine ⟨h.1, ?_⟩
  rcases h.2 with hn | ⟨g, cap, cur, rfl, hb, rest⟩
  · exact .inl hn
  · exact .inr ⟨g, cap, cur, rfl, hx g rfl, rest⟩

/-- Bytes l in a block of bytes, which meets S. -/
structure Bo (w : World) (S : Nat → Prop) (v : Value) (l : List Int) : Prop where
  bs : Bs w v l
  ty : 0 < l.length → ∀ k, v.ownBlock = some k → Ty w 5 k ∧ S k
theorem Bo.far {w w' : World} {S : Nat → Prop} {v : Value} {l : List Int} {X : List Nat} (h : Bo w S v l) (hc : Chg X w w') (hx : ∀ k, Ty w 5 k → S k → k ∉ X) : Bo w' S v l :=
  ⟨h.bs.far hc (fun hp k hk => hx k (h.ty hp k hk).1 (h.ty hp k hk).2), fun hp k hk => ⟨(h.ty hp k hk).1.chg hc (hx k (h.ty hp k hk).1 (h.ty hp k hk).2), (h.ty hp k hk).2⟩⟩
theorem Bo.mono {w : World} {S S' : Nat → Prop} {v : Value} {l : List Int} (h : Bo w S v l) (hx : ∀ k, Ty w 5 k → S k → S' k) : Bo w S' v l :=
  ⟨h.bs, fun hp k hk => ⟨(h.ty hp k hk).1, hx k (h.ty hp k hk).1 (h.ty hp k hk).2⟩⟩
theorem OwnB.bo {w : World} {base : Nat} {v : Value} {l : List Int} {S : Nat → Prop} (h : OwnB w base v l) (hy : Byt l) (hS : ∀ k, v.ownBlock = some k → S k) : Bo w S v l :=
  ⟨h.bs hy, fun _ k hk => ⟨own_ty h hk, hS k hk⟩⟩

/-- The cells vs[0], .. stand from v on. -/
def Rd (w : World) (v : Value) (vs : List Value) : Prop :=
  ∃ a cap, v = .slice a vs.length cap ∧ vs.length ≤ cap ∧ cap ≤ maxLen ∧ (a = none → cap = 0) ∧ ∀ x, a = some x → ∀ i, i < vs.length → w.cell? (x.add i) = vs[i]?
theorem Rd.far {w w' : World} {v : Value} {vs : List Value} {X : List Nat} (h : Rd w v vs) (hc : Chg X w w') (hx : 0 < vs.length → ∀ k, v.ownBlock = some k → k ∉ X) : Rd w' v vs := by
  obtain ⟨a, cap, rfl, hl, hm, hn, hcell⟩ := h
  refine ⟨a, cap, rfl, hl, hm, hn, fun x hxa i hi => ?_⟩
  subst hxa
  have h0 := hcell x rfl i hi
  exact (hc.cell (World.block_lt_of_cell? _ _ (h0.trans (List.getElem?_eq_getElem hi))) (by rw [add_block]; exact hx (by omega) _ rfl)).trans h0
theorem own_rd {w : World} {base : Nat} {e : TypeId} {v : Value} {n : Nat} {xs : List Value} (h : w.ownsRow base e 1 v n xs) : Rd w v xs := by
  have hn : n = xs.length := by have := h.1; omega
  subst hn
  rcases h.2 with ⟨rfl, hn⟩ | ⟨g, cap, cur, rfl, hb, hh, h1, h2, h3, h4⟩
  · exact ⟨none, 0, by rw [hn], by omega, by omega, fun _ => rfl, fun x hx => by cases hx⟩
  · refine ⟨_, cap, rfl, h1, h2, by simp, fun x hx i hi => ?_⟩
    cases hx
    rw [add_plain, Nat.zero_add, cell_of_row w g i cur e _ hh, ← h4, List.getElem?_take, if_pos (by omega)]
    simp
/-- Each of vs holds the bytes of L, in blocks that meet S. -/
def Each (w : World) (S : Nat → Prop) (vs : List Value) (L : List (List Int)) : Prop := vs.length = L.length ∧ ∀ i, i < L.length → ∃ u, vs[i]? = some u ∧ Bo w S u (L.getD i [])
theorem Each.far {w w' : World} {S : Nat → Prop} {vs : List Value} {L : List (List Int)} {X : List Nat} (h : Each w S vs L) (hc : Chg X w w') (hx : ∀ k, Ty w 5 k → S k → k ∉ X) : Each w' S vs L :=
  ⟨h.1, fun i hi => by obtain ⟨u, hu, hb⟩ := h.2 i hi; exact ⟨u, hu, hb.far hc hx⟩⟩
theorem Each.mono {w : World} {S S' : Nat → Prop} {vs : List Value} {L : List (List Int)} (h : Each w S vs L) (hx : ∀ k, Ty w 5 k → S k → S' k) : Each w S' vs L :=
  ⟨h.1, fun i hi => by obtain ⟨u, hu, hb⟩ := h.2 i hi; exact ⟨u, hu, hb.mono hx⟩⟩
theorem Each.nil (w : World) (S : Nat → Prop) : Each w S [] [] := ⟨rfl, fun i hi => by simp at hi⟩
theorem Each.append {w : World} {S : Nat → Prop} {vs us : List Value} {L M : List (List Int)} (h : Each w S vs L) (k : Each w S us M) : Each w S (vs ++ us) (L ++ M) := by
  refine ⟨by simp [h.1, k.1], fun i hi => ?_⟩
  by_cases hl : i < L.length
  · obtain ⟨u, hu, hb⟩ := h.2 i hl
    refine ⟨u, by rw [List.getElem?_append_left (by rw [h.1]; exact hl)]; exact hu, ?_⟩
    have e : (L ++ M).getD i [] = L.getD i [] := by simp only [List.getD]; rw [List.getElem?_append_left hl]
    rw [e]; exact hb
  · simp at hi
    obtain ⟨u, hu, hb⟩ := k.2 (i - L.length) (by omega)
    refine ⟨u, by rw [List.getElem?_append_right (by rw [h.1]; omega), h.1]; exact hu, ?_⟩
    have e : (L ++ M).getD i [] = M.getD (i - L.length) [] := by simp only [List.getD]; rw [List.getElem?_append_right (by omega)]
    rw [e]; exact hb
theorem Each.one {w : World} {S : Nat → Prop} {u : Value} {l : List Int} (h : Bo w S u l) : Each w S [u] [l] := ⟨rfl, fun i hi => by
  have : i = 0 := by simp at hi; omega
  subst this
  exact ⟨u, rfl, h⟩⟩
/-- A row of bytes, read. -/
def RowsB (w : World) (S : Nat → Prop) (v : Value) (L : List (List Int)) : Prop := ∃ vs, Rd w v vs ∧ Each w S vs L
/-- A row of bytes, owned. -/
def OwnR (w : World) (S : Nat → Prop) (base : Nat) (v : Value) (L : List (List Int)) : Prop := ∃ vs, w.ownsRow base 32 1 v L.length vs ∧ Each w S vs L
theorem OwnR.rows {w : World} {S : Nat → Prop} {base : Nat} {v : Value} {L : List (List Int)} (h : OwnR w S base v L) : RowsB w S v L := by obtain ⟨vs, h1, h2⟩ := h; exact ⟨vs, own_rd h1, h2⟩
theorem OwnR.far {w w' : World} {S : Nat → Prop} {base : Nat} {v : Value} {L : List (List Int)} {X : List Nat} (h : OwnR w S base v L) (hc : Chg X w w') (hx : ∀ k, Ty w 5 k → S k → k ∉ X) (hv : ∀ k, Ty w 32 k → v.ownBlock = some k → k ∉ X) : OwnR w' S base v L := by
  obtain ⟨vs, h1, h2⟩ := h
  exact ⟨vs, own_far h1 hc (fun g hg => hv g (own_ty h1 hg) hg), h2.far hc hx⟩
theorem OwnR.mono {w : World} {S S' : Nat → Prop} {base : Nat} {v : Value} {L : List (List Int)} (h : OwnR w S base v L) (hx : ∀ k, Ty w 5 k → S k → S' k) : OwnR w S' base v L := by
  obtain ⟨vs, h1, h2⟩ := h
  exact ⟨vs, h1, h2.mono hx⟩
theorem OwnR.nil (w : World) (S : Nat → Prop) (base : Nat) : OwnR w S base (.slice none 0 0) [] := ⟨[], World.ownsRow_nil w base 32 1, Each.nil w S⟩
theorem info35 : (Try.prog.info? 32).map (fun i => (i.zero, i.size, i.bytes)) = some (some (.slice none 0 0), 1, 24) := by kernel_rfl
theorem bs_one {w : World} {v : Value} {l : List Int} (h : Bs w v l) : v.oneCell' = true := by obtain ⟨a, cap, rfl, _⟩ := h; rfl
theorem each_one {w : World} {S : Nat → Prop} {vs : List Value} {L : List (List Int)} (h : Each w S vs L) : ∀ u ∈ vs, u.oneCell' = true := by
  intro u hu
  obtain ⟨i, hi, rfl⟩ := List.mem_iff_getElem.1 hu
  obtain ⟨u', hu', hb⟩ := h.2 i (by rw [← h.1]; exact hi)
  rw [List.getElem?_eq_getElem hi] at hu'
  cases hu'
  exact bs_one hb.bs

section
variable {w : World} {ops : Array Oper} {rest : List Oper} {o : Oper} {a : Act} {Q : Exit → Act → World → Prop}
/-- 'append(v, src...)' of bytes: where the new slice lies. -/
theorem wp_appSat (hgd : o.guard = none) (s x : Operand)
    (ho : o.op = .call { callee := .builtin .append, args := #[s, x], argTypes := #[32, 32] })
    {base : Nat} {v u : Value} {xs ys : List Int} (hs : a.eval s = v) (hown : OwnB w base v xs)
    (hx : a.eval x = u) (hu : Bs w u ys) (hlen : xs.length + ys.length ≤ 140735488355328) (hbase : base ≤ w.heap.size)
    (h : ∀ v' w', OwnB w' base v' (xs ++ ys) → Chg (ob v) w w' → (v'.ownBlock = v.ownBlock ∨ v'.ownBlock = some w.heap.size) → wpList Try.prog ops Q rest (a.put o.dst v') w') :
    wpList Try.prog ops Q (o :: rest) a w := by
  obtain ⟨i0, hi, hz0, hz1, hz2⟩ := info_parts' info5b
  obtain ⟨ao, cap, rfl, hl, hm, hn, hc, _⟩ := hu
  cases ao with
  | none =>
    have hcap := hn rfl
    subst hcap
    have hy : ys = [] := List.length_eq_zero_iff.1 (by omega)
    subst hy
    exact wpList_append_own_none hgd s x 32 ho base 5 i0 1 Try.underlying32 hi v xs.length _ hs hown hx (h v w (by simpa [OwnB] using hown) (Chg.refl _ _) (.inl rfl))
  | some ad =>
    refine wpList_append_at hgd s x 32 ho base 5 i0 (.int .u8 0) 1 Try.underlying32 hi hz0 hz1 hz2 rfl v xs.length _ hs hown ad ys.length cap (ys.map (Value.int .u8)) hx (by simp) ?_ ?_ ?_ ?_ hbase ?_
    · intro j u hj
      have hjl : j < ys.length := by
        rcases Nat.lt_or_ge j ys.length with h | h
        · exact h
        · simp [List.getElem?_eq_none (show (ys.map (Value.int .u8)).length ≤ j by simpa using h)] at hj
      rw [hc ad rfl j hjl]
      simp [List.getElem?_eq_getElem hjl] at hj
      subst hj
      simp [List.getD, List.getElem?_eq_getElem hjl]
    · intro u hu; simp at hu; obtain ⟨z, _, rfl⟩ := hu; rfl
    · unfold maxLen; omega
    · omega
    · intro v' w' h1 h2 h3
      exact h v' w' (by unfold OwnB; simpa using h1) (Chg.ofGrown h2) h3
/-- 'append(l, y)' of one byte: where the new slice lies. -/
theorem wp_app1at {y : Int} (hgd : o.guard = none) (s x : Operand)
    (ho : o.op = .call { callee := .builtin .append, args := #[s, x], argTypes := #[32, 32] })
    {base : Nat} {v : Value} {xs : List Int} (hs : a.eval s = v) (hown : OwnB w base v xs)
    (hx : a.eval x = .slice (some ⟨w.heap.size, 0, none⟩) 1 1) (hlen : xs.length ≤ 140735488355327) (hbase : base ≤ w.heap.size)
    (h : ∀ v' w', OwnB w' base v' (xs ++ [y]) → Chg (ob v) w w' → (v'.ownBlock = v.ownBlock ∨ v'.ownBlock = some (w.heap.size + 1)) → wpList Try.prog ops Q rest (a.put o.dst v') w') :
    wpList Try.prog ops Q (o :: rest) a (w.alloc (.cells #[.int .u8 y] 5)) := by
  obtain ⟨i0, hi, hz0, hz1, hz2⟩ := info_parts' info5b
  refine wpList_append_at hgd s x 32 ho base 5 i0 (.int .u8 0) 1 Try.underlying32 hi hz0 hz1 hz2 rfl v xs.length _ hs (World.ownsRow.alloc hown _) ⟨w.heap.size, 0, none⟩ 1 1 [.int .u8 y] hx rfl ?_ ?_ ?_ ?_ ?_ ?_
  · intro j u hj
    match j, hj with
    | 0, hj => simp at hj; subst hj; simp [Addr.add]
  · intro u hu; simp at hu; subst hu; rfl
  · unfold maxLen; omega
  · omega
  · simp; omega
  · intro v' w' h1 h2 h3
    refine h v' w' (by unfold OwnB; simpa using h1) ?_ (by simpa using h3)
    exact (Chg.ofBelow ((Below.refl _ w).alloc (Nat.le_refl _) _)).trans (Chg.ofGrown h2)
/-- 'append(row, src...)' of rows of bytes. -/
theorem wp_appR (hgd : o.guard = none) (s x : Operand)
    (ho : o.op = .call { callee := .builtin .append, args := #[s, x], argTypes := #[34, 34] })
    {S : Nat → Prop} {base : Nat} {v u : Value} {L M : List (List Int)} (hs : a.eval s = v) (hown : OwnR w S base v L)
    (hx : a.eval x = u) (hu : RowsB w S u M) (hlen : L.length + M.length ≤ 1000000000000) (hbase : base ≤ w.heap.size)
    (h : ∀ v' w', OwnR w' S base v' (L ++ M) → Chg (ob v) w w' → (v'.ownBlock = v.ownBlock ∨ v'.ownBlock = some w.heap.size) → wpList Try.prog ops Q rest (a.put o.dst v') w') :
    wpList Try.prog ops Q (o :: rest) a w := by
  obtain ⟨i0, hi, hz0, hz1, hz2⟩ := info_parts' info35
  obtain ⟨vs, hv1, hv2⟩ := hown
  obtain ⟨us, ⟨ao, cap, rfl, hl, hm, hn, hc⟩, hu2⟩ := hu
  have hul := hu2.1
  cases ao with
  | none =>
    have hcap := hn rfl
    subst hcap
    have hus : us = [] := List.length_eq_zero_iff.1 (by omega)
    subst hus
    have hM : M = [] := List.length_eq_zero_iff.1 (by rw [← hul]; rfl)
    subst hM
    exact wpList_append_own_none hgd s x 34 ho base 32 i0 1 Try.underlying34 hi v L.length _ hs hv1 hx (h v w (by rw [List.append_nil]; exact ⟨vs, hv1, hv2⟩) (Chg.refl _ _) (.inl rfl))
  | some ad =>
    refine wpList_append_at hgd s x 34 ho base 32 i0 (.slice none 0 0) 24 Try.underlying34 hi hz0 hz1 hz2 rfl v L.length _ hs hv1 ad us.length cap us hx rfl ?_ (each_one hu2) ?_ ?_ hbase ?_
    · intro j u hj
      have hjl : j < us.length := by
        rcases Nat.lt_or_ge j us.length with h | h
        · exact h
        · rw [List.getElem?_eq_none h] at hj; cases hj
      rw [hc ad rfl j hjl]
      exact hj
    · unfold maxLen; omega
    · omega
    · intro v' w' h1 h2 h3
      have hx2 : ∀ k, Ty w 5 k → S k → k ∉ ob v := fun k hk _ hm => (Ty.ne hk (own_ty hv1 (mem_ob.1 hm)) (by decide)) rfl
      refine h v' w' ⟨vs ++ us, by rw [List.length_append, ← hul]; exact h1, ?_⟩ (Chg.ofGrown h2) h3
      exact (hv2.append hu2).far (Chg.ofGrown h2) hx2
/-- 'append(row, l)' of one slice of bytes. -/
theorem wp_appR1 {S : Nat → Prop} {y : Value} {l : List Int} (hgd : o.guard = none) (s x : Operand)
    (ho : o.op = .call { callee := .builtin .append, args := #[s, x], argTypes := #[34, 34] })
    {base : Nat} {v : Value} {L : List (List Int)} (hs : a.eval s = v) (hown : OwnR w S base v L) (hy : Bo w S y l)
    (hx : a.eval x = .slice (some ⟨w.heap.size, 0, none⟩) 1 1) (hlen : L.length ≤ 1000000000000) (hbase : base ≤ w.heap.size)
    (h : ∀ v' w', OwnR w' S base v' (L ++ [l]) → Chg (ob v) w w' → (v'.ownBlock = v.ownBlock ∨ v'.ownBlock = some (w.heap.size + 1)) → wpList Try.prog ops Q rest (a.put o.dst v') w') :
    wpList Try.prog ops Q (o :: rest) a (w.alloc (.cells #[y] 32)) := by
  obtain ⟨i0, hi, hz0, hz1, hz2⟩ := info_parts' info35
  obtain ⟨vs, hv1, hv2⟩ := hown
  refine wpList_append_at hgd s x 34 ho base 32 i0 (.slice none 0 0) 24 Try.underlying34 hi hz0 hz1 hz2 rfl v L.length _ hs (World.ownsRow.alloc hv1 _) ⟨w.heap.size, 0, none⟩ 1 1 [y] hx rfl ?_ ?_ ?_ ?_ ?_ ?_
  · intro j u hj
    match j, hj with
    | 0, hj => simp at hj; subst hj; simp [Addr.add]
  · intro u hu; simp at hu; subst hu; exact bs_one hy.bs
  · unfold maxLen; omega
  · omega
  · simp; omega
  · intro v' w' h1 h2 h3
    have hc : Chg (ob v) w w' := (Chg.ofBelow ((Below.refl _ w).alloc (Nat.le_refl _) _)).trans (Chg.ofGrown h2)
    have hx2 : ∀ k, Ty w 5 k → S k → k ∉ ob v := fun k hk _ hm => (Ty.ne hk (own_ty hv1 (mem_ob.1 hm)) (by decide)) rfl
    exact h v' w' ⟨vs ++ [y], by simpa using h1, (hv2.append (Each.one hy)).far hc hx2⟩ hc (by simpa using h3)
end
end Go.Proofs.Ytngeefipeghjiaa
