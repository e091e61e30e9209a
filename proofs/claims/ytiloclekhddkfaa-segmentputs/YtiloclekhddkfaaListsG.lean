/- Rows of refs, owned; rows of such rows. -/
import Derived.Test.YtiloclekhddkfaaS20
namespace Go.Proofs.Ytiloclekhddkfaa
open Go.RowKit

theorem rc_one' (r : Rf) : ∀ u ∈ rc r, u.oneCell' = true := by
  intro x hx
  unfold rc at hx
  rcases List.mem_append.1 hx with q | q
  · obtain ⟨y, _, rfl⟩ := List.mem_map.1 q; rfl
  · simp at q; rcases q with rfl | rfl | rfl <;> rfl
theorem RdR.toE {w : World} {v : Value} {L : List Rf} (h : RdR w v L) : RdE rc 35 r0 w v L := ⟨h.shape, h.at', fun r hr => ⟨rc_len r (h.sums r hr), rc_one' r⟩⟩
theorem RdE.toR {w : World} {v : Value} {L : List Rf} (h : RdE rc 35 r0 w v L) (hs : ∀ r ∈ L, Sm r.s) : RdR w v L := ⟨h.shape, h.at', hs⟩
theorem RdR.far {w w' : World} {v : Value} {L : List Rf} {X : List Nat} (h : RdR w v L) (hc : Chg X w w') (hx : 0 < L.length → ∀ g ∈ ob v, g ∉ X) : RdR w' v L := (h.toE.far hc hx).toR h.sums
theorem eltR : Elt Try.prog 22 28 35 56 :=
  ⟨Try.underlying22, by
    have h : (Try.prog.info? 28).map (fun i => (i.zero.map (·.cells.size), i.size, i.bytes)) = some (some 35, 35, 56) := by kernel_rfl
    cases hi : Try.prog.info? 28 with
    | none => rw [hi] at h; simp at h
    | some i =>
      rw [hi] at h
      simp at h
      obtain ⟨⟨z, hz, hs⟩, h1, h2⟩ := h
      exact ⟨i, z, rfl, hz, h1, h2, hs⟩, by decide⟩

/-- Bytes l in a block of bytes, which meets S. -/
structure IoG (w : World) (S : Nat → Prop) (v : Value) (l : List Rf) : Prop where
  bs : RdR w v l
  ty : 0 < l.length → ∀ k, v.ownBlock = some k → Ty w 28 k ∧ S k
theorem IoG.far {w w' : World} {S : Nat → Prop} {v : Value} {l : List Rf} {X : List Nat} (h : IoG w S v l) (hc : Chg X w w') (hx : ∀ k, Ty w 28 k → S k → k ∉ X) : IoG w' S v l :=
  ⟨h.bs.far hc (fun hp k hk => hx k (h.ty hp k (mem_ob.1 hk)).1 (h.ty hp k (mem_ob.1 hk)).2), fun hp k hk => ⟨(h.ty hp k hk).1.chg hc (hx k (h.ty hp k hk).1 (h.ty hp k hk).2), (h.ty hp k hk).2⟩⟩
theorem IoG.mono {w : World} {S S' : Nat → Prop} {v : Value} {l : List Rf} (h : IoG w S v l) (hx : ∀ k, Ty w 28 k → S k → S' k) : IoG w S' v l :=
  ⟨h.bs, fun hp k hk => ⟨(h.ty hp k hk).1, hx k (h.ty hp k hk).1 (h.ty hp k hk).2⟩⟩
theorem ownf_io {w : World} {base : Nat} {v : Value} {l : List Rf} {S : Nat → Prop} (h : OwnE rc 35 28 w base v l) (hs : ∀ r ∈ l, Sm r.s) (hS : ∀ k, v.ownBlock = some k → S k) : IoG w S v l :=
  ⟨(h.rd r0).toR hs, fun _ k hk => ⟨h.ty k (mem_ob.2 hk), hS k hk⟩⟩


/-- EachG of vs holds the bytes of L, in blocks that meet S. -/
def EachG (w : World) (S : Nat → Prop) (vs : List Value) (L : List (List Rf)) : Prop := vs.length = L.length ∧ ∀ i, i < L.length → ∃ u, vs[i]? = some u ∧ IoG w S u (L.getD i [])
theorem EachG.far {w w' : World} {S : Nat → Prop} {vs : List Value} {L : List (List Rf)} {X : List Nat} (h : EachG w S vs L) (hc : Chg X w w') (hx : ∀ k, Ty w 28 k → S k → k ∉ X) : EachG w' S vs L :=
  ⟨h.1, fun i hi => by obtain ⟨u, hu, hb⟩ := h.2 i hi; exact ⟨u, hu, hb.far hc hx⟩⟩
theorem EachG.mono {w : World} {S S' : Nat → Prop} {vs : List Value} {L : List (List Rf)} (h : EachG w S vs L) (hx : ∀ k, Ty w 28 k → S k → S' k) : EachG w S' vs L :=
  ⟨h.1, fun i hi => by obtain ⟨u, hu, hb⟩ := h.2 i hi; exact ⟨u, hu, hb.mono hx⟩⟩
theorem EachG.nil (w : World) (S : Nat → Prop) : EachG w S [] [] := ⟨rfl, fun i hi => by simp at hi⟩
theorem EachG.append {w : World} {S : Nat → Prop} {vs us : List Value} {L M : List (List Rf)} (h : EachG w S vs L) (k : EachG w S us M) : EachG w S (vs ++ us) (L ++ M) := by
  refine ⟨by simp [h.1, k.1], fun i hi => ?_⟩
  by_cases hl : i < L.length
  · obtain ⟨u, hu, hb⟩ := h.2 i hl
    refine ⟨u, by rw [List.getElem?_append_left (by rw [h.1]; exact hl)]; exact hu, ?_⟩
    have e : (L ++ M).getD i [] = L.getD i [] := by simp only [List.getD]; rw [List.getElem?_append_left hl]
    rw [e]; exact hb
  · simp at hi
    obtain ⟨u, hu, hb⟩ := k.2 (i - L.length) (by omega)
    refine ⟨u, by rw [List.getElem?_append_right (by rw [h.1]; omega), h.1]; exact hu, ?_⟩
    have e : (L ++ M).getD i [] = M.getD (i - L.length) [] := by simp only [List.getD]; rw [List.getElem?_append_right (by omega)]
    rw [e]; exact hb
theorem EachG.one {w : World} {S : Nat → Prop} {u : Value} {l : List Rf} (h : IoG w S u l) : EachG w S [u] [l] := ⟨rfl, fun i hi => by
  have : i = 0 := by simp at hi; omega
  subst this
  exact ⟨u, rfl, h⟩⟩
/-- A row of bytes, read. -/
def RowsG (w : World) (S : Nat → Prop) (v : Value) (L : List (List Rf)) : Prop := ∃ vs, Rd w v vs ∧ EachG w S vs L
/-- A row of bytes, owned. -/
def OwnG (w : World) (S : Nat → Prop) (base : Nat) (v : Value) (L : List (List Rf)) : Prop := ∃ vs, w.ownsRow base 22 1 v L.length vs ∧ EachG w S vs L
theorem OwnG.rows {w : World} {S : Nat → Prop} {base : Nat} {v : Value} {L : List (List Rf)} (h : OwnG w S base v L) : RowsG w S v L := by obtain ⟨vs, h1, h2⟩ := h; exact ⟨vs, own_rd h1, h2⟩
theorem OwnG.far {w w' : World} {S : Nat → Prop} {base : Nat} {v : Value} {L : List (List Rf)} {X : List Nat} (h : OwnG w S base v L) (hc : Chg X w w') (hx : ∀ k, Ty w 28 k → S k → k ∉ X) (hv : ∀ k, Ty w 22 k → v.ownBlock = some k → k ∉ X) : OwnG w' S base v L := by
  obtain ⟨vs, h1, h2⟩ := h
  exact ⟨vs, own_far h1 hc (fun g hg => hv g (own_ty h1 hg) hg), h2.far hc hx⟩
theorem OwnG.mono {w : World} {S S' : Nat → Prop} {base : Nat} {v : Value} {L : List (List Rf)} (h : OwnG w S base v L) (hx : ∀ k, Ty w 28 k → S k → S' k) : OwnG w S' base v L := by
  obtain ⟨vs, h1, h2⟩ := h
  exact ⟨vs, h1, h2.mono hx⟩
theorem OwnG.nil (w : World) (S : Nat → Prop) (base : Nat) : OwnG w S base (.slice none 0 0) [] := ⟨[], World.ownsRow_nil w base 22 1, EachG.nil w S⟩
theorem infoG : (Try.prog.info? 22).map (fun i => (i.zero, i.size, i.bytes)) = some (some (.slice none 0 0), 1, 24) := by kernel_rfl
theorem rdr_one' {w : World} {v : Value} {l : List Rf} (h : RdR w v l) : v.oneCell' = true := by obtain ⟨a, cap, rfl, _⟩ := h.shape; rfl
theorem eachG_one {w : World} {S : Nat → Prop} {vs : List Value} {L : List (List Rf)} (h : EachG w S vs L) : ∀ u ∈ vs, u.oneCell' = true := by
  intro u hu
  obtain ⟨i, hi, rfl⟩ := List.mem_iff_getElem.1 hu
  obtain ⟨u', hu', hb⟩ := h.2 i (by rw [← h.1]; exact hi)
  rw [List.getElem?_eq_getElem hi] at hu'
  cases hu'
  exact rdr_one' hb.bs

section
variable {w : World} {ops : Array Oper} {rest : List Oper} {o : Oper} {a : Act} {Q : Exit → Act → World → Prop}
/-- 'append(row, src...)' of rows of bytes. -/
theorem wp_appG (hgd : o.guard = none) (s x : Operand)
    (ho : o.op = .call { callee := .builtin .append, args := #[s, x], argTypes := #[31, 31] })
    {S : Nat → Prop} {base : Nat} {v u : Value} {L M : List (List Rf)} (hs : a.eval s = v) (hown : OwnG w S base v L)
    (hx : a.eval x = u) (hu : RowsG w S u M) (hlen : L.length + M.length ≤ 5000000000000) (hbase : base ≤ w.heap.size)
    (h : ∀ v' w', OwnG w' S base v' (L ++ M) → Chg (ob v) w w' → (v'.ownBlock = v.ownBlock ∨ v'.ownBlock = some w.heap.size) → wpList Try.prog ops Q rest (a.put o.dst v') w') :
    wpList Try.prog ops Q (o :: rest) a w := by
  obtain ⟨i0, hi, hz0, hz1, hz2⟩ := info_parts' infoG
  obtain ⟨vs, hv1, hv2⟩ := hown
  obtain ⟨us, ⟨ao, cap, rfl, hl, hm, hn, hc⟩, hu2⟩ := hu
  have hul := hu2.1
  cases ao with
  | none =>
    have hcap := hn rfl
    subst hcap
    have hus : us = [] := List.length_eq_zero_iff.1 (by omega)
    subst hus
    have hM : M = [] := List.length_eq_zero_iff.1 (by rw [← hul]; rfl)
    subst hM
    exact wpList_append_own_none hgd s x 31 ho base 22 i0 1 Try.underlying31 hi v L.length _ hs hv1 hx (h v w (by rw [List.append_nil]; exact ⟨vs, hv1, hv2⟩) (Chg.refl _ _) (.inl rfl))
  | some ad =>
    refine wpList_append_at hgd s x 31 ho base 22 i0 (.slice none 0 0) 24 Try.underlying31 hi hz0 hz1 hz2 rfl v L.length _ hs hv1 ad us.length cap us hx rfl ?_ (eachG_one hu2) ?_ ?_ hbase ?_
    · intro j u hj
      have hjl : j < us.length := by
        rcases Nat.lt_or_ge j us.length with h | h
        · exact h
        · rw [List.getElem?_eq_none h] at hj; cases hj
      rw [hc ad rfl j hjl]
      exact hj
    · unfold maxLen; omega
    · omega
    · intro v' w' h1 h2 h3
      have hx2 : ∀ k, Ty w 28 k → S k → k ∉ ob v := fun k hk _ hm => (Ty.ne hk (own_ty hv1 (mem_ob.1 hm)) (by decide)) rfl
      refine h v' w' ⟨vs ++ us, by rw [List.length_append, ← hul]; exact h1, ?_⟩ (Chg.ofGrown h2) h3
      exact (hv2.append hu2).far (Chg.ofGrown h2) hx2
/-- 'append(row, l)' of one slice of bytes. -/
theorem wp_appG1 {S : Nat → Prop} {y : Value} {l : List Rf} (hgd : o.guard = none) (s x : Operand)
    (ho : o.op = .call { callee := .builtin .append, args := #[s, x], argTypes := #[31, 31] })
    {base : Nat} {v : Value} {L : List (List Rf)} (hs : a.eval s = v) (hown : OwnG w S base v L) (hy : IoG w S y l)
    (hx : a.eval x = .slice (some ⟨w.heap.size, 0, none⟩) 1 1) (hlen : L.length ≤ 5000000000000) (hbase : base ≤ w.heap.size)
    (h : ∀ v' w', OwnG w' S base v' (L ++ [l]) → Chg (ob v) w w' → (v'.ownBlock = v.ownBlock ∨ v'.ownBlock = some (w.heap.size + 1)) → wpList Try.prog ops Q rest (a.put o.dst v') w') :
    wpList Try.prog ops Q (o :: rest) a (w.alloc (.cells #[y] 22)) := by
  obtain ⟨i0, hi, hz0, hz1, hz2⟩ := info_parts' infoG
  obtain ⟨vs, hv1, hv2⟩ := hown
  refine wpList_append_at hgd s x 31 ho base 22 i0 (.slice none 0 0) 24 Try.underlying31 hi hz0 hz1 hz2 rfl v L.length _ hs (World.ownsRow.alloc hv1 _) ⟨w.heap.size, 0, none⟩ 1 1 [y] hx rfl ?_ ?_ ?_ ?_ ?_ ?_
  · intro j u hj
    match j, hj with
    | 0, hj => simp at hj; subst hj; simp [Addr.add]
  · intro u hu; simp at hu; subst hu; exact rdr_one' hy.bs
  · unfold maxLen; omega
  · omega
  · simp; omega
  · intro v' w' h1 h2 h3
    have hc : Chg (ob v) w w' := (Chg.ofBelow ((Below.refl _ w).alloc (Nat.le_refl _) _)).trans (Chg.ofGrown h2)
    have hx2 : ∀ k, Ty w 28 k → S k → k ∉ ob v := fun k hk _ hm => (Ty.ne hk (own_ty hv1 (mem_ob.1 hm)) (by decide)) rfl
    exact h v' w' ⟨vs ++ [y], by simpa using h1, (hv2.append (EachG.one hy)).far hc hx2⟩ hc (by simpa using h3)
end
theorem RowsG.far {w w' : World} {S : Nat → Prop} {v : Value} {L : List (List Rf)} {X : List Nat} (h : RowsG w S v L) (hc : Chg X w w') (hx : ∀ k, Ty w 28 k → S k → k ∉ X) (hv : ∀ k, v.ownBlock = some k → k ∉ X) : RowsG w' S v L := by
  obtain ⟨vs, h1, h2⟩ := h
  exact ⟨vs, h1.far hc (fun _ => hv), h2.far hc hx⟩
theorem RowsG.still {w w' : World} {S : Nat → Prop} {v : Value} {L : List (List Rf)} (h : RowsG w S v L) (hc : Chg [] w w') : RowsG w' S v L := h.far hc (by simp) (by simp)
theorem RowsG.at {w : World} {S : Nat → Prop} {v : Value} {L : List (List Rf)} (h : RowsG w S v L) {i : Nat} (hi : i < L.length) : ∃ b off cap x m q, v = .slice (some ⟨b, off, none⟩) L.length cap ∧ L.length ≤ cap ∧ w.cell? ⟨b, off + i, none⟩ = some (.slice x m q) ∧ RdR w (.slice x m q) (L.getD i []) := by
  obtain ⟨vs, h1, h2⟩ := h
  have hl := h2.1
  rcases h1.cases with ⟨rfl, _⟩ | ⟨_, b, off, cap, rfl, hc, _, hcell⟩
  · simp at hl; omega
  · obtain ⟨u, hu, hb⟩ := h2.2 i hi
    obtain ⟨x, q, e, _⟩ := hb.bs.shape
    subst e
    exact ⟨b, off, cap, x, _, q, by rw [hl], by omega, (hcell i (by omega)).trans hu, hb.bs⟩
theorem RowsG.shape {w : World} {S : Nat → Prop} {v : Value} {L : List (List Rf)} (h : RowsG w S v L) : ∃ a cap, v = .slice a L.length cap ∧ L.length ≤ cap ∧ (a = none → cap = 0) := by
  obtain ⟨vs, ⟨a, cap, rfl, hl, _, hn, _⟩, h2⟩ := h
  exact ⟨a, cap, by rw [h2.1], by have := h2.1; omega, hn⟩
end Go.Proofs.Ytiloclekhddkfaa
