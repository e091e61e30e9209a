/- Rows of pages in memory; a page is read, and written, as a value. -/
import Derived.Test.YtmcikhdfpmkpnaaM1
import Derived.Laws.Tables
import Derived.Laws.CopyRow
import Derived.Laws.IdiomArrays
namespace Go.Proofs.Ytmcikhdfpmkpnaa
open Go.RowKit Go.Maps

/-- Set aside, so that the walk does not use it. -/
structure Hid (p : Prop) : Prop where
  out : p

def fl (ps : List (List Int)) : List Value := ps.flatMap pc
def P128 (ps : List (List Int)) : Prop := ∀ p ∈ ps, p.length = 128
theorem fl_cons (p : List Int) (ps : List (List Int)) : fl (p :: ps) = pc p ++ fl ps := rfl
theorem fl_append (ps qs : List (List Int)) : fl (ps ++ qs) = fl ps ++ fl qs := by simp [fl]
theorem fl_length {ps : List (List Int)} (h : P128 ps) : (fl ps).length = ps.length * 128 := by
  induction ps with
  | nil => rfl
  | cons p ps ih =>
    rw [fl_cons, List.length_append, ih (fun q hq => h q (by simp [hq])), pc_length, h p (by simp)]
    simp; omega
theorem fl_one (ps : List (List Int)) : ∀ u ∈ fl ps, u.oneCell' = true := by
  intro u hu
  simp only [fl, List.mem_flatMap] at hu
  obtain ⟨p, _, hp⟩ := hu
  exact pc_one p u hp
theorem fl_split {ps : List (List Int)} (h : P128 ps) : ∀ {i : Nat}, i < ps.length → ∃ A B, fl ps = A ++ pc (ps.getD i []) ++ B ∧ A.length = i * 128 ∧ ∀ p : List Int, fl (ps.set i p) = A ++ pc p ++ B := by
  induction ps with
  | nil => intro i hi; simp at hi
  | cons q ps ih =>
    intro i hi
    match i with
    | 0 => exact ⟨[], fl ps, by simp [fl_cons], by simp, fun p => by simp [fl_cons]⟩
    | i + 1 =>
      obtain ⟨A, B, h1, h2, h3⟩ := ih (fun x hx => h x (by simp [hx])) (i := i) (by simpa using hi)
      refine ⟨pc q ++ A, B, ?_, ?_, fun p => ?_⟩
      · rw [fl_cons, h1]; simp
      · rw [List.length_append, pc_length, h q (by simp), h2]; omega
      · rw [List.set_cons_succ, fl_cons, h3]; simp

/-- The block g holds the pages ps, and has room for cap of them. -/
def Rows (w : World) (g cap : Nat) (e : TypeId) (ps : List (List Int)) : Prop :=
  P128 ps ∧ ∃ cur rest, w.heap[g]? = some (.cells cur e (0, 0)) ∧ cur.toList = fl ps ++ rest ∧ cur.size = cap * 128 ∧ ps.length ≤ cap ∧ cap ≤ maxLen

section
variable {w w' : World} {g cap : Nat} {e : TypeId} {ps : List (List Int)}
theorem Rows.lt (h : Rows w g cap e ps) : g < w.heap.size := by
  obtain ⟨_, cur, rest, hg, _⟩ := h
  exact (Array.getElem?_eq_some_iff.1 hg).1
theorem Rows.kept (h : Rows w g cap e ps) (hb : w'.heap[g]? = w.heap[g]?) : Rows w' g cap e ps := by
  obtain ⟨hp, cur, rest, hg, r⟩ := h
  exact ⟨hp, cur, rest, hb.trans hg, r⟩
theorem Rows.cells (h : Rows w g cap e ps) {i : Nat} (hi : i < ps.length) : ∀ j v, (pc (ps.getD i []))[j]? = some v → w.cell? ⟨g, i * 128 + j, none⟩ = some v := by
  intro j v hv
  obtain ⟨hp, cur, rest, hg, hc, _⟩ := h
  obtain ⟨A, B, h1, h2, _⟩ := fl_split hp hi
  have hj : j < (pc (ps.getD i [])).length := by
    rcases Nat.lt_or_ge j (pc (ps.getD i [])).length with h | h
    · exact h
    · rw [List.getElem?_eq_none h] at hv; cases hv
  rw [cell_of_row w g _ cur e (0, 0) hg, ← Array.getElem?_toList, hc, h1, ← h2, List.append_assoc, List.append_assoc, List.getElem?_append_right (by omega), Nat.add_sub_cancel_left, List.getElem?_append_left hj]
  exact hv
theorem Rows.frozen (h : Rows w g cap e ps) (j : Nat) : w.frozen? ⟨g, j, none⟩ = false := by
  obtain ⟨_, cur, rest, hg, _⟩ := h
  exact frozen_of_row w g j cur e hg
theorem Rows.set (h : Rows w g cap e ps) {i : Nat} (hi : i < ps.length) {p : List Int} (hpl : p.length = 128) {cur : Array Value} (hg : w.heap[g]? = some (.cells cur e (0, 0))) :
    i * 128 + (pc p).length ≤ cur.size ∧ Rows (w.setRow g (cur.toList.take (i * 128) ++ pc p ++ cur.toList.drop (i * 128 + (pc p).length)).toArray) g cap e (ps.set i p) := by
  obtain ⟨hp, cur', rest, hg', hc, hs, hle, hm⟩ := h
  rw [hg] at hg'
  obtain rfl : cur = cur' := by simpa using hg'
  obtain ⟨A, B, h1, h2, h3⟩ := fl_split hp hi
  have hl : (pc (ps.getD i [])).length = 128 := by
    rw [pc_length]; exact hp _ (by simp [List.getD, List.getElem?_eq_getElem hi])
  have hpp : (pc p).length = 128 := by rw [pc_length, hpl]
  have hsz : cur.size = (fl ps ++ rest).length := by rw [← hc]; simp
  have e1 : cur.toList.take (i * 128) ++ pc p ++ cur.toList.drop (i * 128 + (pc p).length) = fl (ps.set i p) ++ rest := by
    rw [hc, h1, h3 p, hpp, ← h2]
    rw [show A ++ pc (ps.getD i []) ++ B ++ rest = A ++ (pc (ps.getD i []) ++ (B ++ rest)) by simp, List.take_left, ← hl, List.drop_append, List.drop_eq_nil_of_le (by omega), Nat.add_sub_cancel_left, List.drop_left]
    simp
  refine ⟨?_, fun q hq => ?_, _, rest, setRow_heap w g cur _ e (0, 0) hg, by rw [List.toList_toArray]; exact e1, ?_, by simpa using hle, hm⟩
  · rw [hpp, hsz, List.length_append, fl_length hp]
    have := Nat.mul_le_mul_right 128 (show i + 1 ≤ ps.length by omega)
    omega
  · rcases List.mem_or_eq_of_mem_set hq with h | rfl
    · exact hp q h
    · exact hpl
  · rw [e1, List.size_toArray, List.length_append, fl_length (ps := ps.set i p) (fun q hq => by
      rcases List.mem_or_eq_of_mem_set hq with h | rfl
      · exact hp q h
      · exact hpl), List.length_set, ← hs, hsz, List.length_append, fl_length hp]
end

section
variable {P : Program}
/-- A load of a page. -/
theorem wpList_load_page {ops : Array Oper} {rest : List Oper} {o : Oper} {a : Act} {w : World} {Q : Exit → Act → World → Prop} (hgd : o.guard = none) (ty : TypeId) (x : Operand) (ho : o.op = .load ty x)
    (g off : Nat) (hx : a.eval x = .pointer (some ⟨g, off, none⟩)) (p : List Int) (d : TypeDesc) (hc : ∀ j v, (pc p)[j]? = some v → w.cell? ⟨g, off + j, none⟩ = some v)
    (hu : P.underlying ty = some d) (hd : (match d with | .struct _ | .array _ _ => true | _ => false) = true) (hi : (P.info? ty).map (·.size) = some p.length)
    (h : wpList P ops Q rest (a.put o.dst (pv p)) w) : wpList P ops Q (o :: rest) a w := by
  refine wpList_plain hgd fun K hK => ?_
  have hl : (loadCells ⟨g, off, none⟩ p.length).run P w = .ok (pc p).toArray w := by
    have := run_loadCells_list (P := P) w ⟨g, off, none⟩ (pc p) (fun j v hv => by
      have hadd : (⟨g, off, none⟩ : Addr).add j = ⟨g, off + j, none⟩ := by unfold Addr.add; split <;> simp_all
      rw [hadd]; exact hc j v hv)
    rwa [pc_length] at this
  have hlv : (loadVar ty ⟨g, off, none⟩).run P w = .ok (pv p) w := by
    cases hq : P.info? ty with
    | none => simp [hq] at hi
    | some i =>
      have hs : i.size = p.length := by simpa [hq] using hi
      have hagg : (isAgg ty).run P w = .ok true w := by
        unfold isAgg
        rw [Sem.run_bind, run_underlying hu w]
        cases d <;> simp_all
      simp [loadVar, Sem.run_bind, hagg, sizeOf, typeInfo, hq, hs, hl, pv]
  unfold Oper.wp execOp
  simp only [ho, hx, Instr.loadAt, Instr.sureAddr, Sem.run_bind, Sem.run_pure, Result.andThen_ok, hlv]
  exact hK _ _ h
/-- A store of a page. -/
theorem wpList_store_page {ops : Array Oper} {rest : List Oper} {o : Oper} {a : Act} {w : World} {Q : Exit → Act → World → Prop} (hgd : o.guard = none) (ty : TypeId) (x y : Operand) (ho : o.op = .store ty x y)
    (g off : Nat) (p : List Int) (hx : a.eval x = .pointer (some ⟨g, off, none⟩)) (hy : a.eval y = pv p)
    (t : TypeId) (cur : Array Value) (hg : w.heap[g]? = some (.cells cur t (0, 0))) (hi : (P.info? ty).map (·.size) = some p.length)
    (hle : off + (pc p).length ≤ cur.size)
    (h : wpList P ops Q rest (a.put o.dst undef) (w.setRow g (cur.toList.take off ++ pc p ++ cur.toList.drop (off + (pc p).length)).toArray)) : wpList P ops Q (o :: rest) a w := by
  refine wpList_plain hgd fun K hK => ?_
  have hst := run_storeCells_at P g off t (pc p) 0 cur w hg (by simpa using hle) (pc_one p)
  have hsv : (storeVar ty ⟨g, off, none⟩ (pv p)).run P w = .ok () (w.setRow g (cur.toList.take off ++ pc p ++ cur.toList.drop (off + (pc p).length)).toArray) := by
    cases hq : P.info? ty with
    | none => simp [hq] at hi
    | some i =>
      have hs : (pc p).length = i.size := by rw [pc_length]; simp [hq] at hi; omega
      simp [storeVar, sizeOf, typeInfo, hq, Value.cells, pv, hs] at hst ⊢
      exact hst
  unfold Oper.wp execOp
  simp only [ho, hx, hy, Instr.storeAt, Instr.sureAddr, Sem.run_bind, Sem.run_pure, Result.andThen_ok, hsv]
  exact hK _ _ h
end
end Go.Proofs.Ytmcikhdfpmkpnaa
