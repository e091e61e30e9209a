/- Rows of shards that lie apart: owned, appended to. -/
import Derived.Test.YtbdmbhpmbklaiaaX8
namespace Go.Proofs.Ytbdmbhpmbklaiaa
open Go.RowKit Go.Lib Go.Shelf Gf

/-- Slices that lie in blocks of their own, from lo on, below hi. -/
def Blk (lo hi : Nat) (vs : List Value) : Prop := (∀ (i j : Nat) (u u' : Value), i < j → vs[i]? = some u → vs[j]? = some u' → ∀ g ∈ ob u, g ∉ ob u') ∧ ∀ u ∈ vs, ∀ g ∈ ob u, lo ≤ g ∧ g < hi
theorem Blk.nil (lo hi : Nat) : Blk lo hi [] := ⟨fun i j u u' _ h => by simp at h, fun u h => by simp at h⟩
theorem Blk.one {lo hi : Nat} {y : Value} (h : ∀ g ∈ ob y, lo ≤ g ∧ g < hi) : Blk lo hi [y] := ⟨fun i j u u' hij _ h2 => by
  have : j < [y].length := (List.getElem?_eq_some_iff.1 h2).1
  simp at this
  omega, fun u hu => by simp at hu; subst hu; exact h⟩
theorem Blk.grow {lo hi hi' : Nat} {vs : List Value} (h : Blk lo hi vs) (hh : hi ≤ hi') : Blk lo hi' vs := ⟨h.1, fun u hu g hg => ⟨(h.2 u hu g hg).1, Nat.lt_of_lt_of_le (h.2 u hu g hg).2 hh⟩⟩
theorem Blk.append {lo hi hi' : Nat} {vs us : List Value} (h : Blk lo hi vs) (k : Blk hi hi' us) (hh : lo ≤ hi ∧ hi ≤ hi') : Blk lo hi' (vs ++ us) := by
  refine ⟨fun i j u u' hij h1 h2 g hg hg' => ?_, fun u hu g hg => ?_⟩
  · by_cases hj : j < vs.length
    · rw [List.getElem?_append_left (by omega)] at h1
      rw [List.getElem?_append_left hj] at h2
      exact h.1 i j u u' hij h1 h2 g hg hg'
    · rw [List.getElem?_append_right (by omega)] at h2
      have h4 := (k.2 u' (List.mem_of_getElem? h2) g hg').1
      by_cases hi' : i < vs.length
      · rw [List.getElem?_append_left hi'] at h1
        have := (h.2 u (List.mem_of_getElem? h1) g hg).2
        omega
      · rw [List.getElem?_append_right (by omega)] at h1
        exact k.1 (i - vs.length) (j - vs.length) u u' (by omega) h1 h2 g hg hg'
  · rcases List.mem_append.1 hu with hu | hu
    · have := h.2 u hu g hg; omega
    · have := k.2 u hu g hg; omega
/-- A row of shards that lie apart, read; owned. -/
def RdA (w : World) (lo hi : Nat) (v : Value) (L : List Sd) : Prop := ∃ vs, Rd w v vs ∧ Each w (0, 5) vs L ∧ Blk lo hi vs
def OwnA (w : World) (lo hi base : Nat) (v : Value) (L : List Sd) : Prop := ∃ vs, w.ownsRow base 33 1 v L.length vs ∧ Each w (0, 5) vs L ∧ Blk lo hi vs
theorem OwnA.own {w : World} {lo hi base : Nat} {v : Value} {L : List Sd} (h : OwnA w lo hi base v L) : OwnR w (0, 5) base v L := by obtain ⟨vs, h1, h2, _⟩ := h; exact ⟨vs, h1, h2⟩
theorem OwnA.rda {w : World} {lo hi base : Nat} {v : Value} {L : List Sd} (h : OwnA w lo hi base v L) : RdA w lo hi v L := by obtain ⟨vs, h1, h2, h3⟩ := h; exact ⟨vs, own_rd h1, h2, h3⟩
theorem OwnA.rd {w : World} {lo hi base : Nat} {v : Value} {L : List Sd} (h : OwnA w lo hi base v L) : RdR w (0, 5) v L := h.own.rd
theorem OwnA.lt {w : World} {lo hi base : Nat} {v : Value} {L : List Sd} (h : OwnA w lo hi base v L) : ∀ k ∈ ob v, base ≤ k ∧ k < w.heap.size := h.own.lt
theorem OwnA.ty {w : World} {lo hi base : Nat} {v : Value} {L : List Sd} (h : OwnA w lo hi base v L) : ∀ k ∈ ob v, Ty w 33 k := h.own.ty
theorem OwnA.far {w w' : World} {lo hi base : Nat} {v : Value} {L : List Sd} {X : List Nat} (h : OwnA w lo hi base v L) (hc : Chg X w w') (hX : ∀ k, k < 0 ∨ Ty w 5 k → k ∉ X) (hv : ∀ k ∈ ob v, k ∉ X) : OwnA w' lo hi base v L := by
  obtain ⟨vs, h1, h2, h3⟩ := h
  exact ⟨vs, own_far h1 hc (fun g hg => hv g (mem_ob.2 hg)), h2.far hc hX, h3⟩
theorem OwnA.below {w w' : World} {lo hi base : Nat} {v : Value} {L : List Sd} (h : OwnA w lo hi base v L) (hb : Below w.heap.size w w') : OwnA w' lo hi base v L := h.far (Chg.ofBelow (X := []) hb) (by simp) (by simp)
theorem OwnA.grow {w : World} {lo hi hi' base : Nat} {v : Value} {L : List Sd} (h : OwnA w lo hi base v L) (hh : hi ≤ hi') : OwnA w lo hi' base v L := by
  obtain ⟨vs, h1, h2, h3⟩ := h
  exact ⟨vs, h1, h2, h3.grow hh⟩
theorem OwnA.base {w : World} {lo hi base b' : Nat} {v : Value} {L : List Sd} (h : OwnA w lo hi base v L) (hb : b' ≤ base) : OwnA w lo hi b' v L := by
  have hl := h.lt
  obtain ⟨vs, h1, h2, h3⟩ := h
  exact ⟨vs, own_base h1 (fun g hg => Nat.le_trans hb (hl g (mem_ob.2 hg)).1), h2, h3⟩
theorem OwnR.empty {w : World} {B : Nat × TypeId} {base : Nat} {v : Value} (h : OwnR w B base v []) (lo hi : Nat) : OwnA w lo hi base v [] := by
  obtain ⟨vs, h1, h2⟩ := h
  have : vs = [] := List.length_eq_zero_iff.1 h2.1
  subst this
  exact ⟨[], h1, Each.nil _ _, Blk.nil _ _⟩
section
variable {w : World} {ops : Array Oper} {rest : List Oper} {o : Oper} {a : Act} {Q : Exit → Act → World → Prop}
/-- 'append(row, src...)' of rows of shards. -/
theorem wp_appA (hgd : o.guard = none) (s x : Operand)
    (ho : o.op = .call { callee := .builtin .append, args := #[s, x], argTypes := #[22, 22] })
    {lo hi hi' base : Nat} {v u : Value} {L M : List Sd} (hs : a.eval s = v) (hown : OwnA w lo hi base v L)
    (hx : a.eval x = u) (hu : RdA w hi hi' u M) (hh : lo ≤ hi ∧ hi ≤ hi') (hlen : L.length + M.length ≤ 1000000000000) (hbase : base ≤ w.heap.size)
    (h : ∀ v' w', OwnA w' lo hi' base v' (L ++ M) → Chg (ob v) w w' → (v'.ownBlock = v.ownBlock ∨ v'.ownBlock = some w.heap.size) → wpList Try.prog ops Q rest (a.put o.dst v') w') :
    wpList Try.prog ops Q (o :: rest) a w := by
  obtain ⟨i0, hi0, hz0, hz1, hz2⟩ := info_parts' infoRow
  obtain ⟨vs, hv1, hv2, hv3⟩ := hown
  obtain ⟨us, ⟨ao, cap, rfl, hl, hm, hn, hc⟩, hu2, hu3⟩ := hu
  have hul := hu2.1
  cases ao with
  | none =>
    have hcap := hn rfl
    subst hcap
    have hus : us = [] := List.length_eq_zero_iff.1 (by omega)
    subst hus
    have hM : M = [] := List.length_eq_zero_iff.1 (by rw [← hul]; rfl)
    subst hM
    exact wpList_append_own_none hgd s x 22 ho base 33 i0 1 Try.underlying22 hi0 v L.length _ hs hv1 hx (h v w (by rw [List.append_nil]; exact ⟨vs, hv1, hv2, hv3.grow hh.2⟩) (Chg.refl _ _) (.inl rfl))
  | some ad =>
    refine wpList_append_at hgd s x 22 ho base 33 i0 (.slice none 0 0) 24 Try.underlying22 hi0 hz0 hz1 hz2 rfl v L.length _ hs hv1 ad us.length cap us hx rfl ?_ (each_one hu2) ?_ ?_ hbase ?_
    · intro j u hj
      have hjl : j < us.length := by
        rcases Nat.lt_or_ge j us.length with h | h
        · exact h
        · rw [List.getElem?_eq_none h] at hj; cases hj
      rw [hc ad rfl j hjl]
      exact hj
    · unfold maxLen; omega
    · omega
    · intro v' w' h1 h2 h3
      exact h v' w' ⟨vs ++ us, by rw [List.length_append, ← hul]; exact h1, (hv2.append hu2).far (Chg.ofGrown h2) (own_in hv1 (Nat.zero_le _) (show (5 : TypeId) ≠ 33 by decide)), hv3.append hu3 hh⟩ (Chg.ofGrown h2) h3
theorem wp_appA1 {y : Value} {t : Sd} (hgd : o.guard = none) (s x : Operand)
    (ho : o.op = .call { callee := .builtin .append, args := #[s, x], argTypes := #[22, 22] })
    {lo hi hi' base : Nat} {v : Value} {L : List Sd} (hs : a.eval s = v) (hown : OwnA w lo hi base v L) (hy : RdS w (0, 5) y t) (hyb : ∀ g ∈ ob y, hi ≤ g ∧ g < hi') (hh : lo ≤ hi ∧ hi ≤ hi')
    (hx : a.eval x = .slice (some ⟨w.heap.size, 0, none⟩) 1 1) (hlen : L.length ≤ 1000000000000) (hbase : base ≤ w.heap.size)
    (h : ∀ v' w', OwnA w' lo hi' base v' (L ++ [t]) → Chg (ob v) w w' → (v'.ownBlock = v.ownBlock ∨ v'.ownBlock = some (w.heap.size + 1)) → wpList Try.prog ops Q rest (a.put o.dst v') w') :
    wpList Try.prog ops Q (o :: rest) a (w.alloc (.cells #[y] 33)) := by
  obtain ⟨i0, hi0, hz0, hz1, hz2⟩ := info_parts' infoRow
  obtain ⟨vs, hv1, hv2, hv3⟩ := hown
  refine wpList_append_at hgd s x 22 ho base 33 i0 (.slice none 0 0) 24 Try.underlying22 hi0 hz0 hz1 hz2 rfl v L.length _ hs (World.ownsRow.alloc hv1 _) ⟨w.heap.size, 0, none⟩ 1 1 [y] hx rfl ?_ ?_ ?_ ?_ ?_ ?_
  · intro j u hj
    match j, hj with
    | 0, hj => simp at hj; subst hj; simp [Addr.add]
  · intro u hu
    simp at hu
    subst hu
    obtain ⟨a, n, c, e, _⟩ := hy.sh
    rw [e]
    rfl
  · unfold maxLen; omega
  · omega
  · simp; omega
  · intro v' w' h1 h2 h3
    have hc : Chg (ob v) w w' := (Chg.ofBelow ((Below.refl _ w).alloc (Nat.le_refl _) _)).trans (Chg.ofGrown h2)
    exact h v' w' ⟨vs ++ [y], by simpa using h1, (hv2.append (Each.one hy)).far hc (own_in hv1 (Nat.zero_le _) (show (5 : TypeId) ≠ 33 by decide)), hv3.append (Blk.one hyb) hh⟩ hc (by simpa using h3)
end
theorem run_appA1 (w : World) (ty : TypeId) {lo hi hi' base : Nat} {v y : Value} {L : List Sd} {t : Sd} (hown : OwnA w lo hi base v L) (hy : RdS w (0, 5) y t) (hyb : ∀ g ∈ ob y, hi ≤ g ∧ g < hi') (hh : lo ≤ hi ∧ hi ≤ hi') (ad : Addr) (hc : w.cell? ad = some y) (hlen : L.length ≤ 1000000000000) (hbase : base ≤ w.heap.size) :
    ∃ v' w', (Builtin.append_ #[22, 22] ty #[v, .slice (some ad) 1 1]).run Try.prog w = .ok v' w' ∧ OwnA w' lo hi' base v' (L ++ [t]) ∧ Chg (ob v) w w' ∧ (v'.ownBlock = v.ownBlock ∨ v'.ownBlock = some w.heap.size) := by
  obtain ⟨i0, hi0, hz0, hz1, hz2⟩ := info_parts' infoRow
  obtain ⟨vs, hv1, hv2, hv3⟩ := hown
  obtain ⟨v', w', hr, h1, h2, h3⟩ := run_append_at (P := Try.prog) w base 22 ty 33 i0 _ 24 Try.underlying22 hi0 hz0 hz1 hz2 rfl v L.length vs hv1 ad 1 1 [y] rfl (fun j u hj => by
    match j, hj with
    | 0, hj => simp at hj; subst hj; simpa [Addr.add] using hc) (fun u hu => by
    simp at hu
    subst hu
    obtain ⟨a, n, c, e, _⟩ := hy.sh
    rw [e]
    rfl) (by unfold maxLen; omega) (by omega) hbase
  exact ⟨v', w', hr, ⟨vs ++ [y], by simpa using h1, (hv2.append (Each.one hy)).far (Chg.ofGrown h2) (own_in hv1 (Nat.zero_le _) (show (5 : TypeId) ≠ 33 by decide)), hv3.append (Blk.one hyb) hh⟩, Chg.ofGrown h2, h3⟩
theorem wpi_appA1 {F : Fence} {n : Nat} {w : World} {ops : Array Oper} {rest : List Oper} {o : Oper} {ac : Act} {Q : Exit → Act → World → Prop} {y : Value} {t : Sd} (hgd : o.guard = none) (s x : Operand)
    (ho : o.op = .call { callee := .builtin .append, args := #[s, x], argTypes := #[22, 22] })
    {lo hi hi' base : Nat} {v : Value} {L : List Sd} (hs : ac.eval s = v) (hown : OwnA w lo hi base v L) (hy : RdS w (0, 5) y t) (hyb : ∀ g ∈ ob y, hi ≤ g ∧ g < hi') (hh : lo ≤ hi ∧ hi ≤ hi') (ad : Addr) (hc : w.cell? ad = some y)
    (hx : ac.eval x = .slice (some ad) 1 1) (hlen : L.length ≤ 1000000000000) (hbase : base ≤ w.heap.size)
    (h : ∀ v' w', OwnA w' lo hi' base v' (L ++ [t]) → Chg (ob v) w w' → (v'.ownBlock = v.ownBlock ∨ v'.ownBlock = some w.heap.size) → wpListIn F n Try.prog ops Q rest (ac.put o.dst v') w') : wpListIn F n Try.prog ops Q (o :: rest) ac w := by
  refine wpListIn_plain hgd fun K hK => ?_
  obtain ⟨v', w', hr, h2, h3, h4⟩ := run_appA1 w o.type hown hy hyb hh ad hc hlen hbase
  unfold Oper.wpIn
  refine ⟨?_, ?_⟩
  · simp [Oper.about, ho, resolve, Target.leads, Sem.run_pure]
  · rw [Oper.semAt_plain F _ _ (by rw [ho]; intro c hc'; cases hc')]
    simp [execOp, ho, resolve, invoke, builtin, hs, hx, hr, Result.andThen]
    exact hK _ _ (h v' w' h2 h3 h4)
/-- What the loop knows between two rounds: the box holds a row of its own, told so far. -/
def InvA (w : World) (b M lo hi : Nat) (f : Nat → Sd) (pre : List Yl) (W : World) : Prop := (∃ sv, W.heap[b]? = some (.cells #[sv] 22 (0, 0)) ∧ OwnA W lo hi w.heap.size sv ((List.range pre.length).map f) ∧ (∀ k ∈ ob sv, k = b - 1 ∨ M ≤ k)) ∧ Below w.heap.size w W ∧ M ≤ W.heap.size
theorem InvA.far {w A C : World} {b M lo hi : Nat} {f : Nat → Sd} {pre : List Yl} {X : List Nat} (h : InvA w b M lo hi f pre A) (hc : Chg X A C) (hX : ∀ k ∈ X, M ≤ k ∧ ¬ Ty A 5 k ∧ ¬ Ty A 33 k) (hb : w.heap.size ≤ M ∧ b < M) : InvA w b M lo hi f pre C := by
  obtain ⟨⟨sv, h1, h2, h3⟩, h4, h5⟩ := h
  refine ⟨⟨sv, (hc.block _ (Array.getElem?_eq_some_iff.1 h1).1 (fun hm => by have := (hX _ hm).1; omega)).trans h1, h2.far hc (fun k hk hm => ?_) (fun k hk hm => (hX k hm).2.2 (h2.ty k hk)), h3⟩, h4.trans (hc.below h4.size (fun k hk => by have := (hX k hk).1; omega)), Nat.le_trans h5 hc.size⟩
  rcases hk with hk | hk
  · omega
  · exact (hX k hm).2.1 hk
theorem InvA.put {w A : World} {b M lo hi : Nat} {f : Nat → Sd} {pre : List Yl} (h : InvA w b M lo hi f pre A) {l : Nat} {o : Obj} (hl : M ≤ l) (hx : ∃ x : Obj, A.heap[l]? = some x ∧ x.isCells = false) (hb : w.heap.size ≤ M ∧ b < M) : InvA w b M lo hi f pre (A.putObj l o) := by
  obtain ⟨y, hy, hyc⟩ := hx
  refine h.far (chg_put A l o) (fun k hk => ?_) hb
  simp at hk
  subst hk
  refine ⟨hl, fun ⟨cs, hcs⟩ => ?_, fun ⟨cs, hcs⟩ => ?_⟩
  · rw [hy] at hcs; cases hcs; cases hyc
  · rw [hy] at hcs; cases hcs; cases hyc
end Go.Proofs.Ytbdmbhpmbklaiaa
