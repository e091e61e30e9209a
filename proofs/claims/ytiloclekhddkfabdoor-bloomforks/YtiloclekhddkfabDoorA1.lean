/- Both summaries side by side; a deed as data. -/
import Derived.Test.YtiloclekhddkfabDoorB18
namespace Go.Proofs.YtiloclekhddkfabDoor
open Go.RowKit

/-- Both summaries, alike in bits and ways, in blocks of their own. -/
structure Two (w : World) (p c cap r size ways : Nat) (cs : List Nat) (v : Value) (l : List Int) : Prop where
  fl : FlAt w p c cap size ways cs
  rf : RfAt w r size ways v l
  ok : ft size ways = true
  pr : p ≠ r
  cr : c ≠ r
  pz : p ≠ 0
  cz : c ≠ 0
  rz : r ≠ 0
  sep : 0 < l.length → ∀ g, v.ownBlock = some g → g ∉ [p, c, r]
section
variable {w w' : World} {p c cap r size ways : Nat} {cs : List Nat} {v : Value} {l : List Int} {X : List Nat}
theorem Two.far (h : Two w p c cap r size ways cs v l) (hc : Chg X w w') (hp : p ∉ X) (hq : c ∉ X) (hr : r ∉ X) (hv : 0 < l.length → ∀ g, v.ownBlock = some g → g ∉ X) : Two w' p c cap r size ways cs v l :=
  ⟨h.fl.far hc hp hq, h.rf.far hc hr hv, h.ok, h.pr, h.cr, h.pz, h.cz, h.rz, h.sep⟩
theorem Two.keep (h : Two w p c cap r size ways cs v l) (hc : Chg [] w w') : Two w' p c cap r size ways cs v l := h.far hc (by simp) (by simp) (by simp) (by simp)
theorem Two.below (h : Two w p c cap r size ways cs v l) (hc : Below w.heap.size w w') : Two w' p c cap r size ways cs v l := h.keep (Chg.ofBelow hc)
theorem Two.bd (h : Two w p c cap r size ways cs v l) : 1 ≤ size ∧ size ≤ 65536 ∧ 1 ≤ ways ∧ ways ≤ 8 := by
  have : 1 ≤ (size : Int) ∧ (size : Int) ≤ 65536 ∧ 1 ≤ (ways : Int) ∧ (ways : Int) ≤ 8 := of_decide_eq_true h.ok
  omega
theorem Two.blt (h : Two w p c cap r size ways cs v l) : ∀ x ∈ [p, c, r], x < w.heap.size := by
  intro x hx
  simp at hx
  rcases hx with rfl | rfl | rfl
  · exact h.fl.lt
  · exact h.fl.clt
  · exact h.rf.lt
/-- The document's places are in a block that is there. -/
theorem RfAt.vlt {bits ways' : Int} (h : RfAt w r bits ways' v l) (hl : 0 < l.length) : ∀ g, v.ownBlock = some g → g < w.heap.size := fun g hg => by
  obtain ⟨b, off, cap, rfl, _, hcell⟩ := h.on.at hl
  simp [Value.ownBlock] at hg
  subst hg
  exact World.block_lt_of_cell? _ _ (hcell 0 hl)
theorem radd_two (h : Two w p c cap r size ways cs v l) (hl : l.length ≤ 900000) (s : List Int) (hs : Sum32 s) : Calls Tryd.prog 18 #[.pointer (some ⟨r, 0, none⟩), .agg (sc s).toArray] w fun e w' => e = .returned (.tuple #[]) ∧ (∃ v', Two w' p c cap r size ways cs v' (layF l (plc s size ways)) ∧ (0 < (layF l (plc s size ways)).length → ∀ g, v'.ownBlock = some g → (0 < l.length ∧ v.ownBlock = some g) ∨ w.heap.size ≤ g)) ∧ Chg [r] w w' := by
  have hX : ∀ x ∈ (List.range w.heap.size).filter (fun g => decide (¬ (0 < l.length ∧ v.ownBlock = some g))), x < w.heap.size := fun x hx => by simp at hx; exact hx.1
  refine (radd_any s hs h.rf _ hX (fun h0 g hg hm => by simp only [List.mem_filter, List.mem_range, decide_eq_true_eq] at hm; exact hm.2 ⟨h0, hg⟩) hl).mono ?_
  rintro e w' ⟨rfl, ⟨v', hR, hV⟩, hC⟩
  have hV2 : 0 < (layF l (plc s size ways)).length → ∀ g, v'.ownBlock = some g → (0 < l.length ∧ v.ownBlock = some g) ∨ w.heap.size ≤ g := fun h0 g hg => by
    have h1 := hV h0 g hg
    by_cases h2 : 0 < l.length ∧ v.ownBlock = some g
    · exact .inl h2
    · refine .inr (Nat.le_of_not_lt fun h3 => h1 ?_)
      simp only [List.mem_filter, List.mem_range, decide_eq_true_eq]
      exact ⟨h3, h2⟩
  refine ⟨rfl, ⟨v', ⟨h.fl.far hC (by simp; exact h.pr) (by simp; exact h.cr), hR, h.ok, h.pr, h.cr, h.pz, h.cz, h.rz, fun h0 g hg hm => ?_⟩, hV2⟩, hC⟩
  rcases hV2 h0 g hg with ⟨h1, h2⟩ | h1
  · exact h.sep h1 g h2 hm
  · have := h.blt g hm
    omega
theorem add_two {l' : List Int} (h : Two w p c cap r size ways cs v l) (ha : Agree size cs l') (s : List Int) (hs : Sum32 s) : Calls Tryd.prog 17 #[.pointer (some ⟨p, 0, none⟩), .agg (sc s).toArray] w fun e w' => e = .returned (.int .i64 0) ∧ Two w' p c cap r size ways (orL cs ((plc s size ways).map Int.toNat)) v l ∧ Chg [c] w w' := by
  refine (add_any s hs h.ok h.fl ha.len ha.lt).mono ?_
  rintro e w' ⟨rfl, hF, hC⟩
  exact ⟨rfl, ⟨hF, h.rf.far hC (by simp; exact fun e => h.cr e.symm) (fun h0 g hg hm => h.sep h0 g hg (by simp at hm; simp [hm])), h.ok, h.pr, h.cr, h.pz, h.cz, h.rz, h.sep⟩, hC⟩
theorem has_two (h : Two w p c cap r size ways cs v l) (ha : Agree size cs l) (s : List Int) (hs : Sum32 s) : Calls Tryd.prog 14 #[.pointer (some ⟨p, 0, none⟩), .agg (sc s).toArray] w fun e w' => e = .returned (.bool (decide (∀ x ∈ plc s size ways, x ∈ l))) ∧ Below w.heap.size w w' := by
  refine (has_any s hs h.ok h.fl ha.len ha.lt).mono ?_
  rintro e w' ⟨rfl, hb⟩
  exact ⟨by rw [ha.has s h.ok], hb⟩
theorem rhas_two (h : Two w p c cap r size ways cs v l) (ha : Agree size cs l) (s : List Int) (hs : Sum32 s) : Calls Tryd.prog 15 #[.pointer (some ⟨r, 0, none⟩), .agg (sc s).toArray] w fun e w' => e = .returned (.bool (decide (∀ x ∈ plc s size ways, x ∈ l))) ∧ Below w.heap.size w w' :=
  rhas_any s hs h.rf (by have := ha.small; have := h.bd; omega)
theorem ones_two (h : Two w p c cap r size ways cs v l) (ha : Agree size cs l) (hV : Vars w) : Calls Tryd.prog 21 #[.pointer (some ⟨p, 0, none⟩)] w fun e w' => e = .returned (.int .i64 (l.length : Nat)) ∧ Below w.heap.size w w' := by
  have hb := h.bd
  have hs := ha.small
  refine (ones_any h.fl ha.lt (by rw [ha.len]; omega) hV ha.bd (by rw [ha.ones]; omega)).mono ?_
  rintro e w' ⟨rfl, hb⟩
  exact ⟨by rw [ha.ones], hb⟩
theorem clear_two (h : Two w p c cap r size ways cs v l) (hl : cs.length = (size + 63) / 64) : Calls Tryd.prog 25 #[.pointer (some ⟨p, 0, none⟩)] w fun e w' => e = .returned (.int .i64 0) ∧ Two w' p c cap r size ways (List.replicate ((size + 63) / 64) 0) v l ∧ Chg [c] w w' := by
  have hb := h.bd
  refine (clear_any h.fl (by rw [hl]; omega)).mono ?_
  rintro e w' ⟨rfl, hF, hC⟩
  rw [hl] at hF
  exact ⟨rfl, ⟨hF, h.rf.far hC (by simp; exact fun e => h.cr e.symm) (fun h0 g hg hm => h.sep h0 g hg (by simp at hm; simp [hm])), h.ok, h.pr, h.cr, h.pz, h.cz, h.rz, h.sep⟩, hC⟩
/-- Another pair is merged into the first. -/
theorem merge_two {p2 c2 cap2 r2 : Nat} {cs2 : List Nat} {v2 : Value} {l2 : List Int} (h : Two w p c cap r size ways cs v l) (ha : Agree size cs l) (h2 : Two w p2 c2 cap2 r2 size ways cs2 v2 l2) (ha2 : Agree size cs2 l2) (hV : Vars w) (hcc : c2 ≠ c) : Calls Tryd.prog 24 #[.pointer (some ⟨p, 0, none⟩), .pointer (some ⟨p2, 0, none⟩)] w fun e w' => e = .returned (.int .i64 0) ∧ Two w' p c cap r size ways (orL cs (onFrom 0 cs2)) v l ∧ Chg [c] w w' := by
  have hb := h.bd
  refine (merge_any h.fl h2.fl hcc ha.len ha.lt (by rw [ha.len]; omega) ha2.lt (by rw [ha2.len]; omega) hV h.cz ha2.bd).mono ?_
  rintro e w' ⟨rfl, hF, hC⟩
  exact ⟨rfl, ⟨hF, h.rf.far hC (by simp; exact fun e => h.cr e.symm) (fun h0 g hg hm => h.sep h0 g hg (by simp at hm; simp [hm])), h.ok, h.pr, h.cr, h.pz, h.cz, h.rz, h.sep⟩, hC⟩
theorem rmerge_two {p2 c2 cap2 r2 : Nat} {cs2 : List Nat} {v2 : Value} {l2 : List Int} (h : Two w p c cap r size ways cs v l) (h2 : Two w p2 c2 cap2 r2 size ways cs2 v2 l2) (hl : l.length ≤ 65536) (hl2 : l2.length ≤ 65536) (hu : 0 < l2.length → ∀ g, v2.ownBlock = some g → g ≠ r) : Calls Tryd.prog 34 #[.pointer (some ⟨r, 0, none⟩), .pointer (some ⟨r2, 0, none⟩)] w fun e w' => e = .returned (.int .i64 0) ∧ (∃ v', Two w' p c cap r size ways cs v' (layF l l2)) ∧ Chg [r] w w' := by
  refine (rmerge_any h.rf h2.rf [p, c, r] h.blt h.sep hu (by omega)).mono ?_
  rintro e w' ⟨rfl, ⟨v', hR, hV⟩, hC⟩
  exact ⟨rfl, ⟨v', ⟨h.fl.far hC (by simp; exact h.pr) (by simp; exact h.cr), hR, h.ok, h.pr, h.cr, h.pz, h.cz, h.rz, hV⟩⟩, hC⟩
end
/-- A deed. -/
structure Dd where
  d : Int
  s : List Int
  v : Value
  L : List (List Int)
/-- Its cells. -/
def dc (x : Dd) : List Value := .int .i64 x.d :: (sc x.s ++ [x.v])
/-- A deed that can be read. -/
structure DdV (w : World) (x : Dd) : Prop where
  s : Sum32 x.s
  rd : RdS w x.v x.L
  ok : ∀ y ∈ x.L, Sum32 y
theorem DdV.far {w w' : World} {x : Dd} {X : List Nat} (h : DdV w x) (hc : Chg X w w') (hx : 0 < x.L.length → ∀ g ∈ ob x.v, g ∉ X) : DdV w' x := ⟨h.s, h.rd.far hc hx, h.ok⟩
theorem DdV.keep {w w' : World} {x : Dd} (h : DdV w x) (hc : Chg [] w w') : DdV w' x := h.far hc (by simp)
theorem dc_len {x : Dd} (h : Sum32 x.s) : (dc x).length = 34 := by simp [dc, sc_len, h.len]
theorem dc_0 (x : Dd) : (dc x)[0]? = some (.int .i64 x.d) := rfl
theorem dc_s {x : Dd} (h : Sum32 x.s) (j : Nat) (hj : j < 32) : (dc x)[1 + j]? = (sc x.s)[j]? := by
  unfold dc
  rw [Nat.add_comm, List.getElem?_cons_succ, List.getElem?_append_left (by rw [sc_len, h.len]; exact hj)]
theorem dc_v {x : Dd} (h : Sum32 x.s) : (dc x)[33]? = some x.v := by
  unfold dc
  rw [List.getElem?_cons_succ, List.getElem?_append_right (by rw [sc_len, h.len]; decide), sc_len, h.len]
  rfl
/-- A deed in a block of its own. -/
def DdAt (w : World) (b : Nat) (x : Dd) : Prop := At w b 0 (dc x)
theorem DdAt.far {w w' : World} {b : Nat} {x : Dd} {X : List Nat} (h : DdAt w b x) (hc : Chg X w w') (hb : b ∉ X) : DdAt w' b x := At.far h hc hb
theorem DdAt.c0 {w : World} {b : Nat} {x : Dd} (h : DdAt w b x) : w.cell? ⟨b, 0, none⟩ = some (.int .i64 x.d) := h 0 _ (dc_0 x)
theorem DdAt.sum {w : World} {b : Nat} {x : Dd} (h : DdAt w b x) (hs : Sum32 x.s) : At w b 1 (sc x.s) := fun j u hj => by
  have hl : j < 32 := by
    rcases Nat.lt_or_ge j 32 with q | q
    · exact q
    · rw [List.getElem?_eq_none (by rw [sc_len, hs.len]; exact q)] at hj; cases hj
  have := h (1 + j) u (by rw [dc_s hs j hl]; exact hj)
  simpa using this
theorem DdAt.c33 {w : World} {b : Nat} {x : Dd} (h : DdAt w b x) (hs : Sum32 x.s) : w.cell? ⟨b, 33, none⟩ = some x.v := by
  have := h 33 _ (dc_v hs)
  simpa using this
theorem run_boxD (w : World) (cs : Array Value) : (Instr.box 47 (.agg cs)).run Tryd.prog w = .ok (.pointer (some ⟨w.heap.size, 0, none⟩)) (w.alloc (.cells cs 47)) := by
  simp [Instr.box, newVar, newRow, Value.cells]
theorem DdAt.new (w : World) (x : Dd) : DdAt (w.alloc (.cells (dc x).toArray 47)) w.heap.size x := At.row (heap_alloc_new w _)
end Go.Proofs.YtiloclekhddkfabDoor
