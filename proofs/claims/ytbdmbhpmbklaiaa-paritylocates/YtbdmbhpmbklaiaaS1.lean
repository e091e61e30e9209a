/- Shards, rows of shards: read, owned, appended to. -/
import Derived.Test.YtbdmbhpmbklaiaaFd6
namespace Go.Proofs.Ytbdmbhpmbklaiaa
open Go.RowKit Gf

/-- A shard: lost, or elements. -/
abbrev Sd := Option (List G)
def sl (s : Sd) : List G := s.getD []
/-- A shard in memory; where it has elements they lie below B, or in a row of bytes. -/
structure RdS (w : World) (B : Nat × TypeId) (v : Value) (s : Sd) : Prop where
  sh : ∃ a n c, v = .slice a n c ∧ (a = none ↔ s = none)
  rd : RdG w v (sl s)
  inn : 0 < (sl s).length → ∀ k ∈ ob v, k < B.1 ∨ Ty w B.2 k
theorem RdS.far {w w' : World} {B : Nat × TypeId} {v : Value} {s : Sd} {X : List Nat} (h : RdS w B v s) (hc : Chg X w w') (hX : ∀ k, k < B.1 ∨ Ty w B.2 k → k ∉ X) : RdS w' B v s :=
  ⟨h.sh, h.rd.far hc (fun h0 k hk => hX k (h.inn h0 k hk)), fun h0 k hk => (h.inn h0 k hk).imp id (fun ht => ht.chg hc (hX k (.inr ht)))⟩
theorem RdS.below {w w' : World} {B : Nat × TypeId} {v : Value} {s : Sd} (h : RdS w B v s) (hb : Below w.heap.size w w') : RdS w' B v s := h.far (Chg.ofBelow (X := []) hb) (by simp)
theorem RdS.mono {w : World} {B B' : Nat × TypeId} {v : Value} {s : Sd} (h : RdS w B v s) (hb : B.1 ≤ B'.1 ∧ B.2 = B'.2) : RdS w B' v s := ⟨h.sh, h.rd, fun h0 k hk => (h.inn h0 k hk).imp (fun h => by have := hb.1; omega) (fun h => by rw [← hb.2]; exact h)⟩
theorem RdS.old {w : World} {B : Nat × TypeId} {v : Value} {s : Sd} (h : RdS w B v s) : RdS w (w.heap.size, B.2) v s := ⟨h.sh, h.rd, fun h0 k hk => .inl (h.rd.lt h0 k hk)⟩
theorem RdS.shape {w : World} {B : Nat × TypeId} {v : Value} {s : Sd} (h : RdS w B v s) : ∃ a c, v = .slice a (sl s).length c ∧ (a = none ↔ s = none) ∧ (sl s).length ≤ c ∧ c ≤ maxLen := by
  obtain ⟨a, n, c, rfl, h1⟩ := h.sh
  obtain ⟨a', c', e, h2, h3, _⟩ := h.rd.shape
  simp only [Value.slice.injEq] at e
  obtain ⟨rfl, rfl, rfl⟩ := e
  exact ⟨a, c, rfl, h1, h2, h3⟩
theorem RdS.nil (w : World) (B : Nat × TypeId) : RdS w B (.slice none 0 0) none := ⟨⟨none, 0, 0, rfl, by simp⟩, (ownG_nil w 0).rd, fun _ k hk => by simp [ob, Value.ownBlock] at hk⟩
theorem OwnG.sd {w : World} {base : Nat} {B : Nat × TypeId} {v : Value} {l : List G} (h : OwnG w base v l) (hB : B.2 = 5) (hv : ∃ a n c, v = .slice (some a) n c) : RdS w B v (some l) :=
  ⟨by obtain ⟨a, n, c, rfl⟩ := hv; exact ⟨some a, n, c, rfl, by simp⟩, h.rd, fun _ k hk => .inr (by rw [hB]; exact own_ty h (mem_ob.1 hk))⟩
def Each (w : World) (B : Nat × TypeId) (vs : List Value) (L : List Sd) : Prop := vs.length = L.length ∧ ∀ i, i < L.length → ∃ u, vs[i]? = some u ∧ RdS w B u (L.getD i none)
theorem Each.far {w w' : World} {B : Nat × TypeId} {vs : List Value} {L : List Sd} {X : List Nat} (h : Each w B vs L) (hc : Chg X w w') (hX : ∀ k, k < B.1 ∨ Ty w B.2 k → k ∉ X) : Each w' B vs L :=
  ⟨h.1, fun i hi => by obtain ⟨u, hu, hb⟩ := h.2 i hi; exact ⟨u, hu, hb.far hc hX⟩⟩
theorem Each.below {w w' : World} {B : Nat × TypeId} {vs : List Value} {L : List Sd} (h : Each w B vs L) (hb : Below w.heap.size w w') : Each w' B vs L := h.far (Chg.ofBelow (X := []) hb) (by simp)
theorem Each.mono {w : World} {B B' : Nat × TypeId} {vs : List Value} {L : List Sd} (h : Each w B vs L) (hb : B.1 ≤ B'.1 ∧ B.2 = B'.2) : Each w B' vs L :=
  ⟨h.1, fun i hi => by obtain ⟨u, hu, hs⟩ := h.2 i hi; exact ⟨u, hu, hs.mono hb⟩⟩
theorem Each.old {w : World} {B : Nat × TypeId} {vs : List Value} {L : List Sd} (h : Each w B vs L) : Each w (w.heap.size, B.2) vs L :=
  ⟨h.1, fun i hi => by obtain ⟨u, hu, hs⟩ := h.2 i hi; exact ⟨u, hu, hs.old⟩⟩
theorem Each.nil (w : World) (B : Nat × TypeId) : Each w B [] [] := ⟨rfl, fun i hi => by simp at hi⟩
theorem Each.append {w : World} {B : Nat × TypeId} {vs us : List Value} {L M : List Sd} (h : Each w B vs L) (k : Each w B us M) : Each w B (vs ++ us) (L ++ M) := by
  refine ⟨by simp [h.1, k.1], fun i hi => ?_⟩
  by_cases hl : i < L.length
  · obtain ⟨u, hu, hb⟩ := h.2 i hl
    refine ⟨u, by rw [List.getElem?_append_left (by rw [h.1]; exact hl)]; exact hu, ?_⟩
    have e : (L ++ M).getD i none = L.getD i none := by simp only [List.getD]; rw [List.getElem?_append_left hl]
    rw [e]; exact hb
  · simp at hi
    obtain ⟨u, hu, hb⟩ := k.2 (i - L.length) (by omega)
    refine ⟨u, by rw [List.getElem?_append_right (by rw [h.1]; omega), h.1]; exact hu, ?_⟩
    have e : (L ++ M).getD i none = M.getD (i - L.length) none := by simp only [List.getD]; rw [List.getElem?_append_right (by omega)]
    rw [e]; exact hb
theorem Each.one {w : World} {B : Nat × TypeId} {u : Value} {s : Sd} (h : RdS w B u s) : Each w B [u] [s] := ⟨rfl, fun i hi => by
  have : i = 0 := by simp at hi; omega
  subst this
  exact ⟨u, rfl, h⟩⟩
theorem Each.set {w : World} {B : Nat × TypeId} {vs : List Value} {L : List Sd} (h : Each w B vs L) (j : Nat) {u : Value} {s : Sd} (hs : RdS w B u s) : Each w B (vs.set j u) (L.set j s) := by
  refine ⟨by simp [h.1], fun i hi => ?_⟩
  simp at hi
  by_cases e : j = i
  · subst e
    exact ⟨u, by rw [List.getElem?_set_self (by rw [h.1]; exact hi)], by simpa [List.getD, hi] using hs⟩
  · obtain ⟨u', hu', hs'⟩ := h.2 i hi
    exact ⟨u', by rw [List.getElem?_set_ne e]; exact hu', by simpa [List.getD, List.getElem?_set_ne e] using hs'⟩
/-- A row of shards, read. -/
def RdR (w : World) (B : Nat × TypeId) (v : Value) (L : List Sd) : Prop := ∃ vs, Rd w v vs ∧ Each w B vs L
/-- A row of shards that the call owns. -/
def OwnR (w : World) (B : Nat × TypeId) (base : Nat) (v : Value) (L : List Sd) : Prop := ∃ vs, w.ownsRow base 33 1 v L.length vs ∧ Each w B vs L
theorem OwnR.rd {w : World} {B : Nat × TypeId} {base : Nat} {v : Value} {L : List Sd} (h : OwnR w B base v L) : RdR w B v L := by obtain ⟨vs, h1, h2⟩ := h; exact ⟨vs, own_rd h1, h2⟩
theorem RdR.shape {w : World} {B : Nat × TypeId} {v : Value} {L : List Sd} (h : RdR w B v L) : ∃ a c, v = .slice a L.length c ∧ L.length ≤ c ∧ c ≤ maxLen ∧ (a = none → c = 0) := by
  obtain ⟨vs, ⟨a, c, rfl, h1, h2, h3, _⟩, hE⟩ := h
  exact ⟨a, c, by rw [hE.1], by rw [← hE.1]; exact h1, h2, h3⟩
theorem RdR.far {w w' : World} {B : Nat × TypeId} {v : Value} {L : List Sd} {X : List Nat} (h : RdR w B v L) (hc : Chg X w w') (hX : ∀ k, k < B.1 ∨ Ty w B.2 k → k ∉ X) (hv : 0 < L.length → ∀ k ∈ ob v, k ∉ X) : RdR w' B v L := by
  obtain ⟨vs, h1, h2⟩ := h
  exact ⟨vs, h1.far hc (fun h0 k hk => hv (by rw [← h2.1]; exact h0) k (mem_ob.2 hk)), h2.far hc hX⟩
theorem RdR.below {w w' : World} {B : Nat × TypeId} {v : Value} {L : List Sd} (h : RdR w B v L) (hb : Below w.heap.size w w') : RdR w' B v L := h.far (Chg.ofBelow (X := []) hb) (by simp) (by simp)
theorem RdR.mono {w : World} {B B' : Nat × TypeId} {v : Value} {L : List Sd} (h : RdR w B v L) (hb : B.1 ≤ B'.1 ∧ B.2 = B'.2) : RdR w B' v L := by obtain ⟨vs, h1, h2⟩ := h; exact ⟨vs, h1, h2.mono hb⟩
theorem RdR.old {w : World} {B : Nat × TypeId} {v : Value} {L : List Sd} (h : RdR w B v L) : RdR w (w.heap.size, B.2) v L := by obtain ⟨vs, h1, h2⟩ := h; exact ⟨vs, h1, h2.old⟩
theorem RdR.at {w : World} {B : Nat × TypeId} {v : Value} {L : List Sd} (h : RdR w B v L) {i : Nat} (hi : i < L.length) : ∃ b off cap, v = .slice (some ⟨b, off, none⟩) L.length cap ∧ L.length ≤ cap ∧ ∀ j, j < L.length → ∃ a c, w.cell? ⟨b, off + j, none⟩ = some (.slice a (sl (L.getD j none)).length c) ∧ (a = none ↔ L.getD j none = none) ∧ (sl (L.getD j none)).length ≤ c ∧ c ≤ maxLen ∧ RdS w B (.slice a (sl (L.getD j none)).length c) (L.getD j none) := by
  obtain ⟨vs, h1, h2⟩ := h
  rcases h1.cases with ⟨e, _⟩ | ⟨_, b, off, cap, rfl, hc, _, hcell⟩
  · have := h2.1
    rw [e] at this
    simp at this
    omega
  · refine ⟨b, off, cap, by rw [h2.1], by rw [← h2.1]; exact hc, fun j hj => ?_⟩
    obtain ⟨u, hu, hs⟩ := h2.2 j hj
    obtain ⟨a, c, rfl, h4, h5, h6⟩ := hs.shape
    exact ⟨a, c, by rw [hcell j (by rw [h2.1]; exact hj), hu], h4, h5, h6, hs⟩
theorem RdR.lt {w : World} {B : Nat × TypeId} {v : Value} {L : List Sd} (h : RdR w B v L) (h0 : 0 < L.length) : ∀ k ∈ ob v, k < w.heap.size := by
  intro k hk
  obtain ⟨b, off, cap, rfl, _, hc⟩ := h.at h0
  have e := mem_ob.1 hk
  simp [Value.ownBlock] at e
  subst e
  obtain ⟨a, c, hcell, _⟩ := hc 0 h0
  exact World.block_lt_of_cell? _ _ hcell
theorem OwnR.lt {w : World} {B : Nat × TypeId} {base : Nat} {v : Value} {L : List Sd} (h : OwnR w B base v L) : ∀ k ∈ ob v, base ≤ k ∧ k < w.heap.size := by
  obtain ⟨vs, h1, _⟩ := h
  exact fun k hk => World.ownsRow.lt h1 k (mem_ob.1 hk)
theorem OwnR.ty {w : World} {B : Nat × TypeId} {base : Nat} {v : Value} {L : List Sd} (h : OwnR w B base v L) : ∀ k ∈ ob v, Ty w 33 k := by
  obtain ⟨vs, h1, _⟩ := h
  exact fun k hk => own_ty h1 (mem_ob.1 hk)
theorem OwnR.far {w w' : World} {B : Nat × TypeId} {base : Nat} {v : Value} {L : List Sd} {X : List Nat} (h : OwnR w B base v L) (hc : Chg X w w') (hX : ∀ k, k < B.1 ∨ Ty w B.2 k → k ∉ X) (hv : ∀ k ∈ ob v, k ∉ X) : OwnR w' B base v L := by
  obtain ⟨vs, h1, h2⟩ := h
  exact ⟨vs, own_far h1 hc (fun g hg => hv g (mem_ob.2 hg)), h2.far hc hX⟩
theorem OwnR.below {w w' : World} {B : Nat × TypeId} {base : Nat} {v : Value} {L : List Sd} (h : OwnR w B base v L) (hb : Below w.heap.size w w') : OwnR w' B base v L := h.far (Chg.ofBelow (X := []) hb) (by simp) (by simp)
theorem OwnR.mono {w : World} {B B' : Nat × TypeId} {base : Nat} {v : Value} {L : List Sd} (h : OwnR w B base v L) (hb : B.1 ≤ B'.1 ∧ B.2 = B'.2) : OwnR w B' base v L := by obtain ⟨vs, h1, h2⟩ := h; exact ⟨vs, h1, h2.mono hb⟩
theorem OwnR.base {w : World} {B : Nat × TypeId} {base b' : Nat} {v : Value} {L : List Sd} (h : OwnR w B base v L) (hb : b' ≤ base) : OwnR w B b' v L := by
  have hl := h.lt
  obtain ⟨vs, h1, h2⟩ := h
  exact ⟨vs, own_base h1 (fun g hg => Nat.le_trans hb (hl g (mem_ob.2 hg)).1), h2⟩
theorem OwnR.nil (w : World) (B : Nat × TypeId) (base : Nat) : OwnR w B base (.slice none 0 0) [] := ⟨[], World.ownsRow_nil w base 33 1, Each.nil w B⟩
theorem OwnR.none (w : World) (B : Nat × TypeId) : OwnR (w.alloc (.cells #[] 33)) B w.heap.size (.slice (some ⟨w.heap.size, 0, none⟩) 0 0) [] :=
  ⟨[], ⟨rfl, .inr ⟨w.heap.size, 0, #[], rfl, Nat.le_refl _, heap_alloc_new w _, Nat.le_refl _, by decide, rfl, rfl⟩⟩, Each.nil _ _⟩
theorem infoRow : (Try.prog.info? 33).map (fun i => (i.zero, i.size, i.bytes)) = some (some (.slice none 0 0), 1, 24) := by kernel_rfl
theorem each_one {w : World} {B : Nat × TypeId} {vs : List Value} {L : List Sd} (h : Each w B vs L) : ∀ u ∈ vs, u.oneCell' = true := by
  intro u hu
  obtain ⟨i, hi, rfl⟩ := List.mem_iff_getElem.1 hu
  obtain ⟨u', hu', hb⟩ := h.2 i (by rw [← h.1]; exact hi)
  rw [List.getElem?_eq_getElem hi] at hu'
  cases hu'
  obtain ⟨a, n, c, e, _⟩ := hb.sh
  rw [e]
  rfl
theorem own_in {w : World} {B : Nat × TypeId} {base : Nat} {v : Value} {n : Nat} {vs : List Value} (h : w.ownsRow base 33 1 v n vs) (hB : B.1 ≤ base) (hT : B.2 ≠ 33) : ∀ k, k < B.1 ∨ Ty w B.2 k → k ∉ ob v := fun k hk hm => by
  rcases hk with hk | hk
  · have := (World.ownsRow.lt h k (mem_ob.1 hm)).1; omega
  · exact (Ty.ne hk (own_ty h (mem_ob.1 hm)) hT) rfl
theorem OwnR.inn {w : World} {B : Nat × TypeId} {base : Nat} {v : Value} {L : List Sd} (h : OwnR w B base v L) (hB : B.1 ≤ base) (hT : B.2 ≠ 33) : ∀ k, k < B.1 ∨ Ty w B.2 k → k ∉ ob v := by
  obtain ⟨vs, h1, _⟩ := h
  exact own_in h1 hB hT
section
variable {w : World} {ops : Array Oper} {rest : List Oper} {o : Oper} {a : Act} {Q : Exit → Act → World → Prop}
/-- 'append(row, src...)' of rows of shards. -/
theorem wp_appR (hgd : o.guard = none) (s x : Operand)
    (ho : o.op = .call { callee := .builtin .append, args := #[s, x], argTypes := #[22, 22] })
    {B : Nat × TypeId} {base : Nat} {v u : Value} {L M : List Sd} (hs : a.eval s = v) (hown : OwnR w B base v L) (hB : B.1 ≤ base) (hT : B.2 ≠ 33)
    (hx : a.eval x = u) (hu : RdR w B u M) (hlen : L.length + M.length ≤ 1000000000000) (hbase : base ≤ w.heap.size)
    (h : ∀ v' w', OwnR w' B base v' (L ++ M) → Chg (ob v) w w' → (v'.ownBlock = v.ownBlock ∨ v'.ownBlock = some w.heap.size) → wpList Try.prog ops Q rest (a.put o.dst v') w') :
    wpList Try.prog ops Q (o :: rest) a w := by
  obtain ⟨i0, hi, hz0, hz1, hz2⟩ := info_parts' infoRow
  obtain ⟨vs, hv1, hv2⟩ := hown
  obtain ⟨us, ⟨ao, cap, rfl, hl, hm, hn, hc⟩, hu2⟩ := hu
  have hul := hu2.1
  cases ao with
  | none =>
    have hcap := hn rfl
    subst hcap
    have hus : us = [] := List.length_eq_zero_iff.1 (by omega)
    subst hus
    have hM : M = [] := List.length_eq_zero_iff.1 (by rw [← hul]; rfl)
    subst hM
    exact wpList_append_own_none hgd s x 22 ho base 33 i0 1 Try.underlying22 hi v L.length _ hs hv1 hx (h v w (by rw [List.append_nil]; exact ⟨vs, hv1, hv2⟩) (Chg.refl _ _) (.inl rfl))
  | some ad =>
    refine wpList_append_at hgd s x 22 ho base 33 i0 (.slice none 0 0) 24 Try.underlying22 hi hz0 hz1 hz2 rfl v L.length _ hs hv1 ad us.length cap us hx rfl ?_ (each_one hu2) ?_ ?_ hbase ?_
    · intro j u hj
      have hjl : j < us.length := by
        rcases Nat.lt_or_ge j us.length with h | h
        · exact h
        · rw [List.getElem?_eq_none h] at hj; cases hj
      rw [hc ad rfl j hjl]
      exact hj
    · unfold maxLen; omega
    · omega
    · intro v' w' h1 h2 h3
      refine h v' w' ⟨vs ++ us, by rw [List.length_append, ← hul]; exact h1, ?_⟩ (Chg.ofGrown h2) h3
      exact (hv2.append hu2).far (Chg.ofGrown h2) (own_in hv1 hB hT)
/-- 'append(row, s)' of one shard. -/
theorem wp_appR1 {y : Value} {t : Sd} (hgd : o.guard = none) (s x : Operand)
    (ho : o.op = .call { callee := .builtin .append, args := #[s, x], argTypes := #[22, 22] })
    {B : Nat × TypeId} {base : Nat} {v : Value} {L : List Sd} (hs : a.eval s = v) (hown : OwnR w B base v L) (hB : B.1 ≤ base) (hT : B.2 ≠ 33) (hy : RdS w B y t)
    (hx : a.eval x = .slice (some ⟨w.heap.size, 0, none⟩) 1 1) (hlen : L.length ≤ 1000000000000) (hbase : base ≤ w.heap.size)
    (h : ∀ v' w', OwnR w' B base v' (L ++ [t]) → Chg (ob v) w w' → (v'.ownBlock = v.ownBlock ∨ v'.ownBlock = some (w.heap.size + 1)) → wpList Try.prog ops Q rest (a.put o.dst v') w') :
    wpList Try.prog ops Q (o :: rest) a (w.alloc (.cells #[y] 33)) := by
  obtain ⟨i0, hi, hz0, hz1, hz2⟩ := info_parts' infoRow
  obtain ⟨vs, hv1, hv2⟩ := hown
  refine wpList_append_at hgd s x 22 ho base 33 i0 (.slice none 0 0) 24 Try.underlying22 hi hz0 hz1 hz2 rfl v L.length _ hs (World.ownsRow.alloc hv1 _) ⟨w.heap.size, 0, none⟩ 1 1 [y] hx rfl ?_ ?_ ?_ ?_ ?_ ?_
  · intro j u hj
    match j, hj with
    | 0, hj => simp at hj; subst hj; simp [Addr.add]
  · intro u hu
    simp at hu
    subst hu
    obtain ⟨a, n, c, e, _⟩ := hy.sh
    rw [e]
    rfl
  · unfold maxLen; omega
  · omega
  · simp; omega
  · intro v' w' h1 h2 h3
    have hc : Chg (ob v) w w' := (Chg.ofBelow ((Below.refl _ w).alloc (Nat.le_refl _) _)).trans (Chg.ofGrown h2)
    exact h v' w' ⟨vs ++ [y], by simpa using h1, (hv2.append (Each.one hy)).far hc (own_in hv1 hB hT)⟩ hc (by simpa using h3)
/-- 'make([][]byte, 0, c)'. -/
theorem wp_makeR (C : Nat × TypeId) (hgd : o.guard = none) (x y : Operand) (ho : o.op = .makeSlice 22 x y) (c : Nat) (hx : a.eval x = .int .i64 0) (hy : a.eval y = .int .i64 (c : Int)) (hc : c ≤ 1000000000000)
    (h : ∀ w', OwnR w' C w.heap.size (.slice (some ⟨w.heap.size, 0, none⟩) 0 c) [] → Below w.heap.size w w' → w'.heap.size = w.heap.size + 1 → wpList Try.prog ops Q rest (a.put o.dst (.slice (some ⟨w.heap.size, 0, none⟩) 0 c)) w') : wpList Try.prog ops Q (o :: rest) a w :=
  wpList_plain hgd fun _ hK => by
    obtain ⟨i0, hi, hz0, hz1, hz2⟩ := info_parts' infoRow
    have hr := run_make (P := Try.prog) w 22 33 i0 _ Try.underlying22 hi hz0 .i64 .i64 0 c (Int.le_refl _) (by omega) (by rw [hz2]; omega) (by omega)
    simp only [Int.toNat_zero, Int.toNat_natCast] at hr
    unfold Oper.wp execOp
    simp only [ho, hx, hy, Sem.run_bind, hr, Result.andThen_ok]
    refine hK _ _ (h _ ?_ ((Below.refl _ w).alloc (Nat.le_refl _) _) (by simp))
    have := World.ownsRow_made (e := 33) (size := i0.size) w (madeCells (Value.cells (.slice none 0 0)) (c * i0.size)) c (Nat.le_refl _) (by unfold maxLen; omega) (size_madeCells _ _)
    rw [hz1] at this
    refine ⟨[], ?_, Each.nil _ _⟩
    simpa [hz1] using this
end
end Go.Proofs.Ytbdmbhpmbklaiaa
