/- Both disks at once; own bytes that are turned; deeds. -/
import Derived.Test.YtmcikhdfpmkpnaaR9
import Derived.Test.YtmcikhdfpmkpnaaD16
import Derived.Deep.CutBlock
import Derived.BigQuiet
namespace Go.Proofs.Ytmcikhdfpmkpnaa
open Go.RowKit Go.Maps Go.Sort Go.Shelf

/-- The program's disk and the document's, with the same state. -/
structure Pair (w : World) (p g bm q base : Nat) (d : Dk) : Prop where
  a : At w p g bm base d
  r : Rf w q base d

section
variable {w w' w1 w2 : World} {p g bm q base base' : Nat} {d d' : Dk}
theorem AtX.rowG {cap : Nat} {tc : Int} {n : Nat} {D : DataW Value} (h : AtX w p g bm base cap tc n D d) : (∃ cs, w.heap[p]? = some (.cells cs 63 (0, 0))) ∧ (∃ cs fr, w.heap[g]? = some (.cells cs 68 fr)) ∧ (∃ es cl, w.heap[bm]? = some (.map es cl)) := by
  obtain ⟨_, cur, rest, hg, _⟩ := h.rows
  obtain ⟨es, clock, hb, _⟩ := h.map
  exact ⟨⟨_, h.row⟩, ⟨_, _, hg⟩, ⟨_, _, hb⟩⟩
theorem no_cells (a : At w p g bm base d) {k : Nat} {cs : Array Value} {e : TypeId} {fr : Nat × Nat} (hk : w.heap[k]? = some (.cells cs e fr)) (h1 : e ≠ 63) (h2 : e ≠ 68) : k ≠ p ∧ k ≠ g ∧ k ≠ bm := by
  obtain ⟨cap, tc, n, D, a⟩ := a
  obtain ⟨⟨c1, k1⟩, ⟨c2, f2, k2⟩, ⟨c3, f3, k3⟩⟩ := a.rowG
  refine ⟨fun e => ?_, fun e => ?_, fun e => ?_⟩
  · rw [e, k1] at hk; simp at hk; exact h1 hk.2.1.symm
  · rw [e, k2] at hk; simp at hk; exact h2 hk.2.1.symm
  · rw [e, k3] at hk; simp at hk
theorem Rf.chgA (r : Rf w q base d) (a : At w p g bm base' d') (hc : Chg [p, g, bm] w w') : Rf w' q base d := by
  obtain ⟨v, ar, r⟩ := r
  refine ⟨v, ar, r.chg hc ?_ (fun k hk => ?_)⟩
  · have := no_cells a r.row (by decide) (by decide); simp [this]
  · obtain ⟨cur, hh⟩ := r.elem hk
    have := no_cells a hh (by decide) (by decide); simp [this]
theorem At.chgR (a : At w p g bm base d) (r : Rf w q base' d') (hc : Chg [q] w w') : At w' p g bm base d := by
  obtain ⟨v, ar, r⟩ := r
  have := no_cells a r.row (by decide) (by decide)
  exact a.chg hc (by simp; exact ⟨this.1.symm, this.2.1.symm, this.2.2.symm⟩)
theorem Pair.both (h : Pair w p g bm q base d) (a1 : At w1 p g bm base d') (c1 : Chg [p, g, bm] w w1) (r2 : Rf w2 q base d') (c2 : Chg [q] w1 w2) : Pair w2 p g bm q base d' ∧ Chg [p, g, bm, q] w w2 :=
  ⟨⟨a1.chgR (h.r.chgA h.a c1) c2, r2⟩, (c1.mono (by simp)).trans (c2.mono (by simp))⟩
theorem Pair.below (h : Pair w p g bm q base d) (hb : Below w.heap.size w w') : Pair w' p g bm q base d := ⟨h.a.below hb, h.r.below hb⟩
theorem Pair.lt (h : Pair w p g bm q base d) : p < w.heap.size ∧ g < w.heap.size ∧ bm < w.heap.size ∧ q < w.heap.size := ⟨h.a.lt.1, h.a.lt.2.1, h.a.lt.2.2, h.r.lt⟩
/-- One byte of another row is turned. -/
theorem Pair.byte (h : Pair w p g bm q base d) {k i : Nat} {cs : Array Value} {fr : Nat × Nat} (hk : w.heap[k]? = some (.cells cs 5 fr)) (v : Value) : Pair (w.setCell ⟨k, i, none⟩ v) p g bm q base d := by
  obtain ⟨v1, ar, r⟩ := h.r
  obtain ⟨n1, n2, n3⟩ := no_cells h.a hk (by decide) (by decide)
  have ho : ∀ j, j ≠ k → (w.setCell ⟨k, i, none⟩ v).heap[j]? = w.heap[j]? := fun j hj => heap_setCell_other w ⟨k, i, none⟩ j v hj
  obtain ⟨cap, tc, n, D, a⟩ := h.a
  refine ⟨⟨cap, tc, n, D, a.kept (ho p n1.symm) (ho g n2.symm) (ho bm n3.symm)⟩, ⟨v1, ar, r.kept (ho q (fun e => ?_)) (fun j hj => ho j (fun e => ?_))⟩⟩
  · have := r.row; rw [e, hk] at this; simp at this
  · obtain ⟨cur, hh⟩ := r.elem hj; rw [e, hk] at hh; simp at hh
theorem add_block (x : Addr) (i : Nat) : (x.add i).block = x.block := by unfold Addr.add; split <;> rfl
theorem Bs.far {v : Value} {bs : List Int} {X : List Nat} (h : Bs w v bs) (hc : Chg X w w') (hx : 0 < bs.length → ∀ k, v.ownBlock = some k → k ∉ X) : Bs w' v bs := by
  obtain ⟨a, cap, rfl, hl, hm, hn, hcell, hy⟩ := h
  refine ⟨a, cap, rfl, hl, hm, hn, fun x hxa i hi => ?_, hy⟩
  subst hxa
  exact (hc.cell (World.block_lt_of_cell? _ _ (hcell x rfl i hi)) (by rw [add_block]; exact hx (by omega) _ rfl)).trans (hcell x rfl i hi)
theorem Ks.far {v : Value} {ks : List Bool} {X : List Nat} (h : Ks w v ks) (hc : Chg X w w') (hx : 0 < ks.length → ∀ k, v.ownBlock = some k → k ∉ X) : Ks w' v ks := by
  obtain ⟨ao, cap, rfl, hcell⟩ := h
  refine ⟨ao, cap, rfl, fun j hj => ?_⟩
  obtain ⟨b, o, rfl, h2⟩ := hcell j hj
  exact ⟨b, o, rfl, (hc.cell (World.block_lt_of_cell? _ _ h2) (hx (by omega) _ rfl)).trans h2⟩
/-- The first n cells of a slice are bytes of a row of the call's own. -/
def Mine (w : World) (B : Nat) (ao : Option Addr) (n : Nat) : Prop := ∀ i, i < n → ∃ k cur z, ao = some ⟨k, 0, none⟩ ∧ B ≤ k ∧ w.heap[k]? = some (.cells cur 5 (0, 0)) ∧ cur[i]? = some (.int .u8 z)
theorem Mine.put {B : Nat} {k i n : Nat} (h : Mine w B (some ⟨k, 0, none⟩) n) (z : Int) : Mine (w.setCell ⟨k, i, none⟩ (.int .u8 z)) B (some ⟨k, 0, none⟩) n := by
  intro j hj
  obtain ⟨k', cur, y, e, hB, hh, hc⟩ := h j hj
  simp at e
  subst e
  refine ⟨k, _, if i = j then z else y, rfl, hB, heap_setCell_same w k i cur 5 _ hh, ?_⟩
  have hjc : j < cur.size := by rcases Nat.lt_or_ge j cur.size with h | h; exact h; rw [Array.getElem?_eq_none h] at hc; simp at hc
  by_cases e : i = j
  · subst e; simp [hjc]
  · simp [e, hc]
theorem OwnB.mine {B : Nat} {v : Value} {xs : List Int} (h : OwnB w B v xs) : ∃ ao cap, v = .slice ao xs.length cap ∧ Mine w B ao xs.length := by
  rcases h.2 with ⟨rfl, hn⟩ | ⟨k, cap, cur, rfl, hb, hh, h1, h2, h3, h4⟩
  · exact ⟨none, 0, by rw [hn], fun i hi => by omega⟩
  · refine ⟨_, cap, rfl, fun i hi => ⟨k, cur, xs.getD i 0, rfl, hb, hh, ?_⟩⟩
    have e : (cur.toList.take (xs.length * 1))[i]? = (xs.map (Value.int .u8))[i]? := by rw [h4]
    rw [List.getElem?_take, if_pos (by omega)] at e
    rw [← Array.getElem?_toList, e]
    simp [List.getD, List.getElem?_eq_getElem hi]
theorem Mine.chg {B : Nat} {ao : Option Addr} {n : Nat} {X : List Nat} (h : Mine w B ao n) (hc : Chg X w w') (hx : ∀ k, ao = some ⟨k, 0, none⟩ → k ∉ X) : Mine w' B ao n := by
  intro i hi
  obtain ⟨k, cur, z, rfl, hB, hh, hz⟩ := h i hi
  exact ⟨k, cur, z, rfl, hB, (hc.block k (Array.getElem?_eq_some_iff.1 hh).1 (hx k rfl)).trans hh, hz⟩
theorem ownb_none (w : World) : OwnB (w.alloc (.cells #[] 5)) w.heap.size (.slice (some ⟨w.heap.size, 0, none⟩) 0 0) [] :=
  ⟨rfl, .inr ⟨w.heap.size, 0, #[], rfl, Nat.le_refl _, heap_alloc_new w _, Nat.le_refl _, by decide, rfl, rfl⟩⟩
end

/-- A deed, as plain data. -/
structure Dd where
  Do : Int
  N : Int
  b : List Int
  ks : List Bool
  torn : Int
  at' : Int
def doD (d : Dk) (x : Dd) : Dk := if x.Do = 0 then wrD d x.N x.b else if x.Do = 1 then d else if x.Do = 2 then fluD d else if x.Do = 3 then trpD d x.N else if x.Do = 4 then crD d ⟨x.ks, x.torn, x.at'⟩ else rotD d x.N x.b
/-- What a deed's slices read. -/
structure DdV (w : World) (base : Nat) (bv kv : Value) (x : Dd) : Prop where
  bs : Bs w bv x.b
  ks : Ks w kv x.ks
  fb : 0 < x.b.length → ∀ k, bv.ownBlock = some k → k < base
  fk : 0 < x.ks.length → ∀ k, kv.ownBlock = some k → k < base
  n : x.N ≤ 9223372036854775807
  len : x.b.length ≤ 140737488355328
def ddV (bv kv : Value) (x : Dd) : Value := .agg #[.int .i64 x.Do, .int .i64 x.N, bv, kv, .int .i64 x.torn, .int .i64 x.at']
theorem DdV.below {w w' : World} {base : Nat} {bv kv : Value} {x : Dd} (h : DdV w base bv kv x) (hb : Below w.heap.size w w') : DdV w' base bv kv x := { h with bs := h.bs.below hb, ks := h.ks.below hb }

def sizeN (n : Int) : Nat := 1 + ((IntKind.u64.wrap n).tmod 12).toNat
theorem twelve (z : Int) : wrap64 (1 + wrap64 ((IntKind.u64.wrap z).tmod 12)) = (sizeN z : Int) ∧ 1 ≤ sizeN z ∧ sizeN z ≤ 4096 := by
  have h0 : 0 ≤ IntKind.u64.wrap z := by rw [IntKind.wrap_u64]; omega
  have h1 := Int.tmod_nonneg 12 h0
  have h2 := Int.tmod_lt_of_pos (IntKind.u64.wrap z) (show (0 : Int) < 12 by decide)
  unfold sizeN
  have h3 : wrap64 ((IntKind.u64.wrap z).tmod 12) = (IntKind.u64.wrap z).tmod 12 := IntWalk.wrap64_in _ ⟨by omega, by omega⟩
  rw [h3, IntWalk.wrap64_in _ ⟨by omega, by omega⟩]
  omega
theorem size_any (n : Int) (w : World) : Calls Try.prog 28 #[.int .i64 n] w fun e w' => e = .returned (.int .i64 (sizeN n : Nat)) ∧ w = w' := by
  go_enter Try.func28, Try.ntmps28
  go_wp2
  go_ret
  exact ⟨by rw [← (twelve n).1]; rfl, rfl⟩
end Go.Proofs.Ytmcikhdfpmkpnaa
