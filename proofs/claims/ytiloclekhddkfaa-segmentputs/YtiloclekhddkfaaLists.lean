/- Rows of slices of ints. -/
import Derived.Test.YtiloclekhddkfaaIntsD
namespace Go.Proofs.Ytiloclekhddkfaa
open Go.RowKit

theorem RdI.far {w w' : World} {v : Value} {l : List Int} {X : List Nat} (h : RdI w v l) (hc : Chg X w w') (hx : 0 < l.length → ∀ k, v.ownBlock = some k → k ∉ X) : RdI w' v l := Rd.far h hc (fun hp => hx (by rw [iv_len] at hp; exact hp))
/-- Bytes l in a block of bytes, which meets S. -/
structure Io (w : World) (S : Nat → Prop) (v : Value) (l : List Int) : Prop where
  bs : RdI w v l
  ty : 0 < l.length → ∀ k, v.ownBlock = some k → Ty w 3 k ∧ S k
theorem Io.far {w w' : World} {S : Nat → Prop} {v : Value} {l : List Int} {X : List Nat} (h : Io w S v l) (hc : Chg X w w') (hx : ∀ k, Ty w 3 k → S k → k ∉ X) : Io w' S v l :=
  ⟨h.bs.far hc (fun hp k hk => hx k (h.ty hp k hk).1 (h.ty hp k hk).2), fun hp k hk => ⟨(h.ty hp k hk).1.chg hc (hx k (h.ty hp k hk).1 (h.ty hp k hk).2), (h.ty hp k hk).2⟩⟩
theorem Io.mono {w : World} {S S' : Nat → Prop} {v : Value} {l : List Int} (h : Io w S v l) (hx : ∀ k, Ty w 3 k → S k → S' k) : Io w S' v l :=
  ⟨h.bs, fun hp k hk => ⟨(h.ty hp k hk).1, hx k (h.ty hp k hk).1 (h.ty hp k hk).2⟩⟩
theorem OwnI.io {w : World} {base : Nat} {v : Value} {l : List Int} {S : Nat → Prop} (h : OwnI w base v l) (hS : ∀ k, v.ownBlock = some k → S k) : Io w S v l :=
  ⟨h.rd, fun _ k hk => ⟨own_ty h hk, hS k hk⟩⟩

/-- EachI of vs holds the bytes of L, in blocks that meet S. -/
def EachI (w : World) (S : Nat → Prop) (vs : List Value) (L : List (List Int)) : Prop := vs.length = L.length ∧ ∀ i, i < L.length → ∃ u, vs[i]? = some u ∧ Io w S u (L.getD i [])
theorem EachI.far {w w' : World} {S : Nat → Prop} {vs : List Value} {L : List (List Int)} {X : List Nat} (h : EachI w S vs L) (hc : Chg X w w') (hx : ∀ k, Ty w 3 k → S k → k ∉ X) : EachI w' S vs L :=
  ⟨h.1, fun i hi => by obtain ⟨u, hu, hb⟩ := h.2 i hi; exact ⟨u, hu, hb.far hc hx⟩⟩
theorem EachI.mono {w : World} {S S' : Nat → Prop} {vs : List Value} {L : List (List Int)} (h : EachI w S vs L) (hx : ∀ k, Ty w 3 k → S k → S' k) : EachI w S' vs L :=
  ⟨h.1, fun i hi => by obtain ⟨u, hu, hb⟩ := h.2 i hi; exact ⟨u, hu, hb.mono hx⟩⟩
theorem EachI.nil (w : World) (S : Nat → Prop) : EachI w S [] [] := ⟨rfl, fun i hi => by simp at hi⟩
theorem EachI.append {w : World} {S : Nat → Prop} {vs us : List Value} {L M : List (List Int)} (h : EachI w S vs L) (k : EachI w S us M) : EachI w S (vs ++ us) (L ++ M) := by
  refine ⟨by simp [h.1, k.1], fun i hi => ?_⟩
  by_cases hl : i < L.length
  · obtain ⟨u, hu, hb⟩ := h.2 i hl
    refine ⟨u, by rw [List.getElem?_append_left (by rw [h.1]; exact hl)]; exact hu, ?_⟩
    have e : (L ++ M).getD i [] = L.getD i [] := by simp only [List.getD]; rw [List.getElem?_append_left hl]
    rw [e]; exact hb
  · simp at hi
    obtain ⟨u, hu, hb⟩ := k.2 (i - L.length) (by omega)
    refine ⟨u, by rw [List.getElem?_append_right (by rw [h.1]; omega), h.1]; exact hu, ?_⟩
    have e : (L ++ M).getD i [] = M.getD (i - L.length) [] := by simp only [List.getD]; rw [List.getElem?_append_right (by omega)]
    rw [e]; exact hb
theorem EachI.one {w : World} {S : Nat → Prop} {u : Value} {l : List Int} (h : Io w S u l) : EachI w S [u] [l] := ⟨rfl, fun i hi => by
  have : i = 0 := by simp at hi; omega
  subst this
  exact ⟨u, rfl, h⟩⟩
/-- A row of bytes, read. -/
def RowsI (w : World) (S : Nat → Prop) (v : Value) (L : List (List Int)) : Prop := ∃ vs, Rd w v vs ∧ EachI w S vs L
/-- A row of bytes, owned. -/
def OwnL (w : World) (S : Nat → Prop) (base : Nat) (v : Value) (L : List (List Int)) : Prop := ∃ vs, w.ownsRow base 39 1 v L.length vs ∧ EachI w S vs L
theorem OwnL.rows {w : World} {S : Nat → Prop} {base : Nat} {v : Value} {L : List (List Int)} (h : OwnL w S base v L) : RowsI w S v L := by obtain ⟨vs, h1, h2⟩ := h; exact ⟨vs, own_rd h1, h2⟩
theorem OwnL.far {w w' : World} {S : Nat → Prop} {base : Nat} {v : Value} {L : List (List Int)} {X : List Nat} (h : OwnL w S base v L) (hc : Chg X w w') (hx : ∀ k, Ty w 3 k → S k → k ∉ X) (hv : ∀ k, Ty w 39 k → v.ownBlock = some k → k ∉ X) : OwnL w' S base v L := by
  obtain ⟨vs, h1, h2⟩ := h
  exact ⟨vs, own_far h1 hc (fun g hg => hv g (own_ty h1 hg) hg), h2.far hc hx⟩
theorem OwnL.mono {w : World} {S S' : Nat → Prop} {base : Nat} {v : Value} {L : List (List Int)} (h : OwnL w S base v L) (hx : ∀ k, Ty w 3 k → S k → S' k) : OwnL w S' base v L := by
  obtain ⟨vs, h1, h2⟩ := h
  exact ⟨vs, h1, h2.mono hx⟩
theorem OwnL.nil (w : World) (S : Nat → Prop) (base : Nat) : OwnL w S base (.slice none 0 0) [] := ⟨[], World.ownsRow_nil w base 39 1, EachI.nil w S⟩
theorem infoL : (Try.prog.info? 39).map (fun i => (i.zero, i.size, i.bytes)) = some (some (.slice none 0 0), 1, 24) := by kernel_rfl
theorem rdi_one {w : World} {v : Value} {l : List Int} (h : RdI w v l) : v.oneCell' = true := by obtain ⟨a, cap, rfl, _⟩ := h; rfl
theorem eachI_one {w : World} {S : Nat → Prop} {vs : List Value} {L : List (List Int)} (h : EachI w S vs L) : ∀ u ∈ vs, u.oneCell' = true := by
  intro u hu
  obtain ⟨i, hi, rfl⟩ := List.mem_iff_getElem.1 hu
  obtain ⟨u', hu', hb⟩ := h.2 i (by rw [← h.1]; exact hi)
  rw [List.getElem?_eq_getElem hi] at hu'
  cases hu'
  exact rdi_one hb.bs

section
variable {w : World} {ops : Array Oper} {rest : List Oper} {o : Oper} {a : Act} {Q : Exit → Act → World → Prop}
/-- 'append(row, src...)' of rows of bytes. -/
theorem wp_appL (hgd : o.guard = none) (s x : Operand)
    (ho : o.op = .call { callee := .builtin .append, args := #[s, x], argTypes := #[37, 37] })
    {S : Nat → Prop} {base : Nat} {v u : Value} {L M : List (List Int)} (hs : a.eval s = v) (hown : OwnL w S base v L)
    (hx : a.eval x = u) (hu : RowsI w S u M) (hlen : L.length + M.length ≤ 1000000000000) (hbase : base ≤ w.heap.size)
    (h : ∀ v' w', OwnL w' S base v' (L ++ M) → Chg (ob v) w w' → (v'.ownBlock = v.ownBlock ∨ v'.ownBlock = some w.heap.size) → wpList Try.prog ops Q rest (a.put o.dst v') w') :
    wpList Try.prog ops Q (o :: rest) a w := by
  obtain ⟨i0, hi, hz0, hz1, hz2⟩ := info_parts' infoL
  obtain ⟨vs, hv1, hv2⟩ := hown
  obtain ⟨us, ⟨ao, cap, rfl, hl, hm, hn, hc⟩, hu2⟩ := hu
  have hul := hu2.1
  cases ao with
  | none =>
    have hcap := hn rfl
    subst hcap
    have hus : us = [] := List.length_eq_zero_iff.1 (by omega)
    subst hus
    have hM : M = [] := List.length_eq_zero_iff.1 (by rw [← hul]; rfl)
    subst hM
    exact wpList_append_own_none hgd s x 37 ho base 39 i0 1 Try.underlying37 hi v L.length _ hs hv1 hx (h v w (by rw [List.append_nil]; exact ⟨vs, hv1, hv2⟩) (Chg.refl _ _) (.inl rfl))
  | some ad =>
    refine wpList_append_at hgd s x 37 ho base 39 i0 (.slice none 0 0) 24 Try.underlying37 hi hz0 hz1 hz2 rfl v L.length _ hs hv1 ad us.length cap us hx rfl ?_ (eachI_one hu2) ?_ ?_ hbase ?_
    · intro j u hj
      have hjl : j < us.length := by
        rcases Nat.lt_or_ge j us.length with h | h
        · exact h
        · rw [List.getElem?_eq_none h] at hj; cases hj
      rw [hc ad rfl j hjl]
      exact hj
    · unfold maxLen; omega
    · omega
    · intro v' w' h1 h2 h3
      have hx2 : ∀ k, Ty w 3 k → S k → k ∉ ob v := fun k hk _ hm => (Ty.ne hk (own_ty hv1 (mem_ob.1 hm)) (by decide)) rfl
      refine h v' w' ⟨vs ++ us, by rw [List.length_append, ← hul]; exact h1, ?_⟩ (Chg.ofGrown h2) h3
      exact (hv2.append hu2).far (Chg.ofGrown h2) hx2
/-- 'append(row, l)' of one slice of bytes. -/
theorem wp_appL1 {S : Nat → Prop} {y : Value} {l : List Int} (hgd : o.guard = none) (s x : Operand)
    (ho : o.op = .call { callee := .builtin .append, args := #[s, x], argTypes := #[37, 37] })
    {base : Nat} {v : Value} {L : List (List Int)} (hs : a.eval s = v) (hown : OwnL w S base v L) (hy : Io w S y l)
    (hx : a.eval x = .slice (some ⟨w.heap.size, 0, none⟩) 1 1) (hlen : L.length ≤ 1000000000000) (hbase : base ≤ w.heap.size)
    (h : ∀ v' w', OwnL w' S base v' (L ++ [l]) → Chg (ob v) w w' → (v'.ownBlock = v.ownBlock ∨ v'.ownBlock = some (w.heap.size + 1)) → wpList Try.prog ops Q rest (a.put o.dst v') w') :
    wpList Try.prog ops Q (o :: rest) a (w.alloc (.cells #[y] 39)) := by
  obtain ⟨i0, hi, hz0, hz1, hz2⟩ := info_parts' infoL
  obtain ⟨vs, hv1, hv2⟩ := hown
  refine wpList_append_at hgd s x 37 ho base 39 i0 (.slice none 0 0) 24 Try.underlying37 hi hz0 hz1 hz2 rfl v L.length _ hs (World.ownsRow.alloc hv1 _) ⟨w.heap.size, 0, none⟩ 1 1 [y] hx rfl ?_ ?_ ?_ ?_ ?_ ?_
  · intro j u hj
    match j, hj with
    | 0, hj => simp at hj; subst hj; simp [Addr.add]
  · intro u hu; simp at hu; subst hu; exact rdi_one hy.bs
  · unfold maxLen; omega
  · omega
  · simp; omega
  · intro v' w' h1 h2 h3
    have hc : Chg (ob v) w w' := (Chg.ofBelow ((Below.refl _ w).alloc (Nat.le_refl _) _)).trans (Chg.ofGrown h2)
    have hx2 : ∀ k, Ty w 3 k → S k → k ∉ ob v := fun k hk _ hm => (Ty.ne hk (own_ty hv1 (mem_ob.1 hm)) (by decide)) rfl
    exact h v' w' ⟨vs ++ [y], by simpa using h1, (hv2.append (EachI.one hy)).far hc hx2⟩ hc (by simpa using h3)
end
theorem RowsI.far {w w' : World} {S : Nat → Prop} {v : Value} {L : List (List Int)} {X : List Nat} (h : RowsI w S v L) (hc : Chg X w w') (hx : ∀ k, Ty w 3 k → S k → k ∉ X) (hv : ∀ k, v.ownBlock = some k → k ∉ X) : RowsI w' S v L := by
  obtain ⟨vs, h1, h2⟩ := h
  exact ⟨vs, h1.far hc (fun _ => hv), h2.far hc hx⟩
theorem RowsI.still {w w' : World} {S : Nat → Prop} {v : Value} {L : List (List Int)} (h : RowsI w S v L) (hc : Chg [] w w') : RowsI w' S v L := h.far hc (by simp) (by simp)
theorem RowsI.at {w : World} {S : Nat → Prop} {v : Value} {L : List (List Int)} (h : RowsI w S v L) {i : Nat} (hi : i < L.length) : ∃ b off cap x m q, v = .slice (some ⟨b, off, none⟩) L.length cap ∧ L.length ≤ cap ∧ w.cell? ⟨b, off + i, none⟩ = some (.slice x m q) ∧ RdI w (.slice x m q) (L.getD i []) := by
  obtain ⟨vs, h1, h2⟩ := h
  have hl := h2.1
  rcases h1.cases with ⟨rfl, _⟩ | ⟨_, b, off, cap, rfl, hc, _, hcell⟩
  · simp at hl; omega
  · obtain ⟨u, hu, hb⟩ := h2.2 i hi
    obtain ⟨x, q, rfl, _⟩ := hb.bs
    exact ⟨b, off, cap, x, _, q, by rw [hl], by omega, (hcell i (by omega)).trans hu, hb.bs⟩
theorem RowsI.shape {w : World} {S : Nat → Prop} {v : Value} {L : List (List Int)} (h : RowsI w S v L) : ∃ a cap, v = .slice a L.length cap ∧ L.length ≤ cap ∧ (a = none → cap = 0) := by
  obtain ⟨vs, ⟨a, cap, rfl, hl, _, hn, _⟩, h2⟩ := h
  exact ⟨a, cap, by rw [h2.1], by have := h2.1; omega, hn⟩
end Go.Proofs.Ytiloclekhddkfaa
