/- Slices of bytes: read, owned, appended to, turned. (As the disk's seat has them.) -/
import Derived.Test.YtngeefipeghjiaaG4
import Derived.Laws.CopyOwn
import Derived.Laws.ResultCell
import Derived.ProofKit
import Derived.Laws.AppendOwnNone
import Derived.Laws.BytesArg
import Derived.Laws.IdiomStrings
import Derived.Laws.Concat
namespace Go.Proofs.Ytngeefipeghjiaa
open Go.RowKit

def Byt (l : List Int) : Prop := ∀ x ∈ l, 0 ≤ x ∧ x < 256
/-- What was there stays, but for some blocks. -/
structure Chg (X : List Nat) (w w' : World) : Prop where
  os : w'.os = w.os
  tape : w'.tape = w.tape
  output : w'.output = w.output
  size : w.heap.size ≤ w'.heap.size
  block : ∀ k, k < w.heap.size → k ∉ X → w'.heap[k]? = w.heap[k]?

theorem Chg.refl (X : List Nat) (w : World) : Chg X w w := ⟨rfl, rfl, rfl, Nat.le_refl _, fun _ _ _ => rfl⟩
theorem Chg.trans {X : List Nat} {w w1 w2 : World} (h : Chg X w w1) (k : Chg X w1 w2) : Chg X w w2 :=
  ⟨k.os.trans h.os, k.tape.trans h.tape, k.output.trans h.output, Nat.le_trans h.size k.size, fun i hi hx => (k.block i (Nat.lt_of_lt_of_le hi h.size) hx).trans (h.block i hi hx)⟩
theorem Chg.ofBelow {X : List Nat} {w w' : World} (h : Below w.heap.size w w') : Chg X w w' := ⟨h.os, h.tape, h.output, h.size, fun k hk _ => h.block k hk⟩
theorem Chg.below {X : List Nat} {w w' : World} (h : Chg X w w') {B : Nat} (hB : B ≤ w.heap.size) (hX : ∀ x ∈ X, B ≤ x) : Below B w w' :=
  ⟨h.os, h.tape, h.output, h.size, fun k hk => h.block k (by omega) (fun hx => by have := hX k hx; omega)⟩
theorem Chg.mono {X Y : List Nat} {w w' : World} (h : Chg X w w') (hX : ∀ x ∈ X, x ∈ Y ∨ w.heap.size ≤ x) : Chg Y w w' :=
  ⟨h.os, h.tape, h.output, h.size, fun k hk hy => h.block k hk (fun hx => by rcases hX k hx with h | h; exact hy h; omega)⟩
theorem Chg.thenNew {X Y : List Nat} {w w1 w2 : World} (h : Chg X w w1) (k : Chg Y w1 w2) (hY : ∀ x ∈ Y, x ∈ X ∨ w.heap.size ≤ x) : Chg X w w2 :=
  ⟨k.os.trans h.os, k.tape.trans h.tape, k.output.trans h.output, Nat.le_trans h.size k.size, fun i hi hx => (k.block i (Nat.lt_of_lt_of_le hi h.size) (fun hy => by rcases hY i hy with q | q; exact hx q; omega)).trans (h.block i hi hx)⟩
theorem Chg.cell {X : List Nat} {w w' : World} (h : Chg X w w') {a : Addr} (ha : a.block < w.heap.size) (hx : a.block ∉ X) : w'.cell? a = w.cell? a := World.cell?_of_block (h.block _ ha hx)
theorem Chg.setCell {X : List Nat} {w w' : World} (h : Chg X w w') {a : Addr} (ha : a.block ∈ X ∨ w.heap.size ≤ a.block) (v : Value) : Chg X w (w'.setCell a v) :=
  ⟨h.os, h.tape, h.output, by simpa using h.size, fun k hk hx => (heap_setCell_other w' a k v (fun e => by subst e; rcases ha with q | q; exact hx q; omega)).trans (h.block k hk hx)⟩
theorem Chg.drew {X : List Nat} {w w' : World} (h : Chg X w w') : Chg X w w'.drew := ⟨h.os, h.tape, h.output, h.size, h.block⟩
/-- A slice of bytes that reads b. -/
def Bs (w : World) (v : Value) (bs : List Int) : Prop :=
  ∃ a cap, v = .slice a bs.length cap ∧ bs.length ≤ cap ∧ cap ≤ maxLen ∧ (a = none → cap = 0) ∧ (∀ x, a = some x → ∀ i, i < bs.length → w.cell? (x.add i) = some (.int .u8 (bs.getD i 0))) ∧ Byt bs
theorem Bs.below {w w' : World} {v : Value} {bs : List Int} (h : Bs w v bs) (hb : Below w.heap.size w w') : Bs w' v bs := by
  obtain ⟨a, cap, rfl, hl, hm, hn, hc, hy⟩ := h
  exact ⟨a, cap, rfl, hl, hm, hn, fun x hx i hi => (hb.cell (World.block_lt_of_cell? _ _ (hc x hx i hi))).trans (hc x hx i hi), hy⟩

/-- The call owns the bytes v. -/
def OwnB (w : World) (base : Nat) (v : Value) (xs : List Int) : Prop := w.ownsRow base 5 1 v xs.length (xs.map (Value.int .u8))
theorem info5b : (Try.prog.info? 5).map (fun i => (i.zero, i.size, i.bytes)) = some (some (.int .u8 0), 1, 1) := by kernel_rfl
theorem info_parts' {P : Program} {e : TypeId} {z : Value} {k b : Nat} (h : (P.info? e).map (fun i => (i.zero, i.size, i.bytes)) = some (some z, k, b)) : ∃ i, P.info? e = some i ∧ i.zero = some z ∧ i.size = k ∧ i.bytes = b := by
  cases hi : P.info? e with
  | none => rw [hi] at h; simp at h
  | some i => rw [hi] at h; simp at h; exact ⟨i, rfl, h.1, h.2.1, h.2.2⟩
theorem own_ge {w : World} {base : Nat} {e : TypeId} {k : Nat} {v : Value} {n : Nat} {xs : List Value} (h : w.ownsRow base e k v n xs) : ∀ j, v.ownBlock = some j → base ≤ j := fun k hk => (h.lt k hk).1

section
variable {w : World} {ops : Array Oper} {rest : List Oper} {o : Oper} {a : Act} {Q : Exit → Act → World → Prop}
/-- 'append(v, src...)' of bytes, v the call's own. -/
theorem wp_appS (hgd : o.guard = none) (s x : Operand)
    (ho : o.op = .call { callee := .builtin .append, args := #[s, x], argTypes := #[32, 32] })
    {base : Nat} {v u : Value} {xs ys : List Int} (hs : a.eval s = v) (hown : OwnB w base v xs)
    (hx : a.eval x = u) (hu : Bs w u ys) (hlen : xs.length + ys.length ≤ 140735488355328) (hbase : base ≤ w.heap.size)
    (h : ∀ v' w', OwnB w' base v' (xs ++ ys) → Below base w w' → wpList Try.prog ops Q rest (a.put o.dst v') w') :
    wpList Try.prog ops Q (o :: rest) a w := by
  obtain ⟨i0, hi, hz0, hz1, hz2⟩ := info_parts' info5b
  obtain ⟨ao, cap, rfl, hl, hm, hn, hc, _⟩ := hu
  cases ao with
  | none =>
    have hcap := hn rfl
    subst hcap
    have hy : ys = [] := List.length_eq_zero_iff.1 (by omega)
    subst hy
    exact wpList_append_own_none hgd s x 32 ho base 5 i0 1 Try.underlying32 hi v xs.length _ hs hown hx (h v w (by simpa [OwnB] using hown) (Below.refl _ _))
  | some ad =>
    refine wpList_append_own _ hgd s x 32 ho base 5 i0 (.int .u8 0) 1 1 Try.underlying32 hi hz0 hz1 hz2 rfl (by decide) v xs.length _ hs hown ad ys.length cap (ys.map (Value.int .u8)) hx (by simp) ?_ ?_ ?_ ?_ hbase ?_
    · intro j u hj
      have hjl : j < ys.length := by
        rcases Nat.lt_or_ge j ys.length with h | h
        · exact h
        · simp [List.getElem?_eq_none (show (ys.map (Value.int .u8)).length ≤ j by simpa using h)] at hj
      rw [hc ad rfl j hjl]
      simp [List.getElem?_eq_getElem hjl] at hj
      subst hj
      simp [List.getD, List.getElem?_eq_getElem hjl]
    · intro u hu; simp at hu; obtain ⟨z, _, rfl⟩ := hu; rfl
    · unfold maxLen; omega
    · omega
    · intro v' w' h1 h2 _
      refine h v' w' (by unfold OwnB; simpa using h1) ?_
      exact (Below.refl base w).grown h2 hbase (own_ge hown)
end
theorem add_plain (b off i : Nat) : (⟨b, off, none⟩ : Addr).add i = ⟨b, off + i, none⟩ := by unfold Addr.add; split <;> simp_all
theorem OwnB.bs {w : World} {base : Nat} {v : Value} {bs : List Int} (h : OwnB w base v bs) (hy : Byt bs) : Bs w v bs := by
  obtain ⟨_, h⟩ := h
  rcases h with ⟨rfl, h0⟩ | ⟨g, cap, cur, rfl, hb, hh, hc, hm, hcs, ht⟩
  · rw [List.length_eq_zero_iff.1 h0]; exact ⟨none, 0, rfl, Nat.le_refl _, Nat.zero_le _, fun _ => rfl, fun x h => (by cases h), fun x h => by simp at h⟩
  · refine ⟨_, _, rfl, hc, hm, by simp, fun x hx i hi => ?_, hy⟩
    cases hx
    have e1 : (⟨g, 0, none⟩ : Addr).add i = ⟨g, i, none⟩ := by rw [add_plain]; simp
    have e2 : (cur.toList.take (bs.length * 1))[i]? = (bs.map (Value.int .u8))[i]? := by rw [ht]
    rw [List.getElem?_take, if_pos (by omega)] at e2
    rw [e1]
    simp [World.cell?, hh, List.getD_eq_getElem?_getD, List.getElem?_eq_getElem hi] at e2 ⊢
    exact e2
/-- A page variable, sliced, reads its bytes. -/
theorem Bs.cases {w : World} {v : Value} {bs : List Int} (h : Bs w v bs) :
    (bs = [] ∧ ∃ a cap, v = .slice a 0 cap ∧ cap ≤ maxLen ∧ (a = none → cap = 0)) ∨
    (bs ≠ [] ∧ ∃ b off cap, v = .slice (some ⟨b, off, none⟩) bs.length cap ∧ bs.length ≤ cap ∧ cap ≤ maxLen ∧ b < w.heap.size ∧ ∀ i, i < bs.length → w.cell? ⟨b, off + i, none⟩ = some (.int .u8 (bs.getD i 0))) := by
  obtain ⟨a, cap, rfl, hl, hm, hn, hc, _⟩ := h
  by_cases hb : bs = []
  · subst hb; exact .inl ⟨rfl, a, cap, rfl, hm, hn⟩
  · have hp : 0 < bs.length := List.length_pos_iff.2 hb
    cases a with
    | none => have := hn rfl; omega
    | some x =>
      obtain ⟨b, off, spot⟩ := x
      have h0 := hc _ rfl 0 hp
      have hs : spot = none := by simpa [Addr.add] using World.cell?_spot h0
      subst hs
      refine .inr ⟨hb, b, off, cap, rfl, hl, hm, ?_, fun i hi => by rw [← add_plain]; exact hc _ rfl i hi⟩
      simpa [Addr.add] using World.block_lt_of_cell? w _ h0
/-- 'string(b)'. -/
theorem run_str {w : World} {v : Value} {bs : List Int} (h : Bs w v bs) : (convert 32 9 v).run Try.prog w = .ok (.string (strOfNums bs)) w := by
  rcases h.cases with ⟨rfl, a, cap, rfl, hm, hn⟩ | ⟨hb, b, off, cap, rfl, hl, hm, _, hc⟩
  · cases a with
    | none => rw [run_convert_bytes_nil w 32 5 Try.underlying32 Try.underlying5 0 cap 9 Try.underlying9]; rfl
    | some x =>
      rw [run_convert_bytes_string w 32 9 5 _ 0 cap Try.underlying32 Try.underlying5 Try.underlying9, run_bytesToString w x 0 cap [] (by simpa using run_loadCells_list (P := Try.prog) w x [] (by simp))]
      rfl
  · exact run_convert_bytes_arg w 32 5 Try.underlying32 Try.underlying5 b off bs.length cap bs rfl hc 9 Try.underlying9
section
variable {w w' : World}
theorem add_block (x : Addr) (i : Nat) : (x.add i).block = x.block := by unfold Addr.add; split <;> rfl
theorem Bs.far {v : Value} {bs : List Int} {X : List Nat} (h : Bs w v bs) (hc : Chg X w w') (hx : 0 < bs.length → ∀ k, v.ownBlock = some k → k ∉ X) : Bs w' v bs := by
  obtain ⟨a, cap, rfl, hl, hm, hn, hcell, hy⟩ := h
  refine ⟨a, cap, rfl, hl, hm, hn, fun x hxa i hi => ?_, hy⟩
  subst hxa
  exact (hc.cell (World.block_lt_of_cell? _ _ (hcell x rfl i hi)) (by rw [add_block]; exact hx (by omega) _ rfl)).trans (hcell x rfl i hi)
/-- The first n cells of a slice are bytes of a row of the call's own. -/
def Mine (w : World) (B : Nat) (ao : Option Addr) (n : Nat) : Prop := ∀ i, i < n → ∃ k cur z, ao = some ⟨k, 0, none⟩ ∧ B ≤ k ∧ w.heap[k]? = some (.cells cur 5 (0, 0)) ∧ cur[i]? = some (.int .u8 z)
theorem Mine.put {B : Nat} {k i n : Nat} (h : Mine w B (some ⟨k, 0, none⟩) n) (z : Int) : Mine (w.setCell ⟨k, i, none⟩ (.int .u8 z)) B (some ⟨k, 0, none⟩) n := by
  intro j hj
  obtain ⟨k', cur, y, e, hB, hh, hc⟩ := h j hj
  simp at e
  subst e
  refine ⟨k, _, if i = j then z else y, rfl, hB, heap_setCell_same w k i cur 5 _ hh, ?_⟩
  have hjc : j < cur.size := by rcases Nat.lt_or_ge j cur.size with h | h; exact h; rw [Array.getElem?_eq_none h] at hc; simp at hc
  by_cases e : i = j
  · subst e; simp [hjc]
  · simp [e, hc]
theorem OwnB.mine {B : Nat} {v : Value} {xs : List Int} (h : OwnB w B v xs) : ∃ ao cap, v = .slice ao xs.length cap ∧ Mine w B ao xs.length := by
  rcases h.2 with ⟨rfl, hn⟩ | ⟨k, cap, cur, rfl, hb, hh, h1, h2, h3, h4⟩
  · exact ⟨none, 0, by rw [hn], fun i hi => by omega⟩
  · refine ⟨_, cap, rfl, fun i hi => ⟨k, cur, xs.getD i 0, rfl, hb, hh, ?_⟩⟩
    have e : (cur.toList.take (xs.length * 1))[i]? = (xs.map (Value.int .u8))[i]? := by rw [h4]
    rw [List.getElem?_take, if_pos (by omega)] at e
    rw [← Array.getElem?_toList, e]
    simp [List.getD, List.getElem?_eq_getElem hi]
theorem Mine.chg {B : Nat} {ao : Option Addr} {n : Nat} {X : List Nat} (h : Mine w B ao n) (hc : Chg X w w') (hx : ∀ k, ao = some ⟨k, 0, none⟩ → k ∉ X) : Mine w' B ao n := by
  intro i hi
  obtain ⟨k, cur, z, rfl, hB, hh, hz⟩ := h i hi
  exact ⟨k, cur, z, rfl, hB, (hc.block k (Array.getElem?_eq_some_iff.1 hh).1 (hx k rfl)).trans hh, hz⟩
theorem ownb_none (w : World) : OwnB (w.alloc (.cells #[] 5)) w.heap.size (.slice (some ⟨w.heap.size, 0, none⟩) 0 0) [] :=
  ⟨rfl, .inr ⟨w.heap.size, 0, #[], rfl, Nat.le_refl _, heap_alloc_new w _, Nat.le_refl _, by decide, rfl, rfl⟩⟩
end
theorem Mine.byte {w : World} {B k i n : Nat} {ao : Option Addr} (h : Mine w B ao n) (z : Int) : Mine (w.setCell ⟨k, i, none⟩ (.int .u8 z)) B ao n := by
  intro j hj
  obtain ⟨k', cur, y, rfl, hB, hh, hc⟩ := h j hj
  by_cases e : k' = k
  · subst e
    exact h.put z j hj
  · exact ⟨k', cur, y, rfl, hB, (heap_setCell_other w ⟨k, i, none⟩ k' _ e).trans hh, hc⟩
theorem Mine.lower {w : World} {B B' n : Nat} {ao : Option Addr} (h : Mine w B ao n) (hB : B' ≤ B) : Mine w B' ao n := by
  intro j hj
  obtain ⟨k, cur, y, e, h1, r⟩ := h j hj
  exact ⟨k, cur, y, e, Nat.le_trans hB h1, r⟩
end Go.Proofs.Ytngeefipeghjiaa
