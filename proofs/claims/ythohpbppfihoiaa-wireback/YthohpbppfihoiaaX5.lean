/- What the taker's note is; a note's variables in memory. -/
import Derived.Test.YthohpbppfihoiaaX4
import Derived.Test.YthohpbppfihoiaaFr
namespace Go.Proofs.Ythohpbppfihoiaa
open Go.RowKit Go.Lib

/-- The note that is taken, by what it names. -/
def noteK (m : Nm) (bs : List Int) (s : Int) (s1 : St) : Nt × St :=
  let p := cond m.1 (xS bs 32 s1) ([], s1)
  let g := cond m.1 (nS bs p.2) (0, p.2)
  let i := cond m.2.1 (nS bs g.2) (0, g.2)
  let h := cond m.2.2.1 (lS bs 64 (hS bs) i.2) ([], i.2)
  let q := cond m.2.2.2.1 (lS bs 256 (pS bs) h.2) ([], h.2)
  let b := cond m.2.2.2.2 (xS bs 512 q.2) ([], q.2)
  (⟨s, strOfNums p.1, g.1, i.1, h.1, q.1, b.1⟩, b.2)
def noteS (bs : List Int) (st : St) : Nt × St :=
  if isS (nS bs st).1 then noteK (nmd (nS bs st).1) bs (nS bs st).1 (nS bs st).2 else noteK (false, false, false, false, false) bs (nS bs st).1 (flS (nS bs st).2 4)
theorem strOf_nil : strOfNums [] = { data := #[] } := rfl
/-- The note as it is at first. -/
def zn : Array Value := na 0 { data := #[] } 0 0 (.slice none 0 0) (.slice none 0 0) (.slice none 0 0)
theorem zero27 : (Try.prog.info? 27).bind (·.zero) = some (.agg zn) := by kernel_rfl
theorem run_build27 (s : Int) (w : World) : (Instr.build 27 #[(0, .int .i64 s)]).run Try.prog w = .ok (.agg (na s { data := #[] } 0 0 (.slice none 0 0) (.slice none 0 0) (.slice none 0 0))) w := by kernel_rfl
theorem wp_build1 {t : TypeId} {ops : Array Oper} {rest : List Oper} {op : Oper} {ac : Act} {w : World} {Q : Exit → Act → World → Prop} {u : Value} {C : Array Value} (hgd : op.guard = none) (x : Operand) (ho : op.op = .build t #[(0, x)]) (hx : ac.eval x = u)
    (hr : (Instr.build t #[(0, u)]).run Try.prog w = .ok (.agg C) w) (h : wpList Try.prog ops Q rest (ac.put op.dst (.agg C)) w) : wpList Try.prog ops Q (op :: rest) ac w :=
  wpList_plain hgd fun _ hK => by
    unfold Oper.wp execOp
    simp only [ho, Sem.run_bind, List.map_toArray, List.map_cons, List.map_nil, hx, hr, Result.andThen_ok]
    exact hK _ _ h
theorem na_one (s : Int) (nm : ByteArray) (g i : Int) (ha pa ba : Option Addr) (hn hc pn pc bn bc : Nat) : (na s nm g i (.slice ha hn hc) (.slice pa pn pc) (.slice ba bn bc)).all (·.oneCell') = true := by
  unfold na
  simp [Value.oneCell']
theorem na_size (s : Int) (nm : ByteArray) (g i : Int) (hv pv bv : Value) : (na s nm g i hv pv bv).size = 7 := rfl
theorem run_loadM {w : World} {b : Nat} {m : Nm} (h : w.heap[b]? = some (.cells (nmV m) 40 (0, 0))) : (loadVar 40 ⟨b, 0, none⟩).run Try.prog w = .ok (.agg (nmV m)) w := load40 h rfl
/-- The variables of the taker's note: the taker, its box, the result, the note, what it names. -/
structure NtW (w0 W : World) (q tb r2 r3 r4 : Nat) (v : Value) (st : St) (A M : Array Value) : Prop where
  ch : Chg [q] w0 W
  tk : Tk W q v st
  bx : W.heap[tb]? = some (.cells #[.pointer (some ⟨q, 0, none⟩)] 76 (0, 0))
  z2 : W.heap[r2]? = some (.cells zn 27 (0, 0))
  z3 : W.heap[r3]? = some (.cells A 27 (0, 0))
  z4 : W.heap[r4]? = some (.cells M 40 (0, 0))
  ne : q < w0.heap.size ∧ w0.heap.size ≤ tb ∧ tb < r2 ∧ r2 < r3 ∧ r3 < r4
theorem NtW.call {w0 W W' : World} {q tb r2 r3 r4 : Nat} {v : Value} {st st' : St} {A M : Array Value} (h : NtW w0 W q tb r2 r3 r4 v st A M) (ht : Tk W' q v st') (hc : Chg [q] W W') : NtW w0 W' q tb r2 r3 r4 v st' A M := by
  obtain ⟨n1, n2, n3, n4, n5⟩ := h.ne
  have k : ∀ (b : Nat) (o : Obj), q < b → W.heap[b]? = some o → W'.heap[b]? = some o := fun b o hb ho => (hc.block b (Array.getElem?_eq_some_iff.1 ho).1 (by simp; omega)).trans ho
  exact ⟨h.ch.trans hc, ht, k _ _ (by omega) h.bx, k _ _ (by omega) h.z2, k _ _ (by omega) h.z3, k _ _ (by omega) h.z4, h.ne⟩
theorem NtW.drew {w0 W : World} {q tb r2 r3 r4 : Nat} {v : Value} {st : St} {A M : Array Value} (h : NtW w0 W q tb r2 r3 r4 v st A M) : NtW w0 W.drew q tb r2 r3 r4 v st A M :=
  h.call (h.tk.far (Chg.refl [] W).drew (by simp)) (Chg.refl [q] W).drew
theorem NtW.set {w0 W : World} {q tb r2 r3 r4 : Nat} {v : Value} {st : St} {A M : Array Value} (h : NtW w0 W q tb r2 r3 r4 v st A M) (j : Nat) (x : Value) {A' : Array Value} (hA : A.setIfInBounds j x = A') : NtW w0 (W.setCell ⟨r3, j, none⟩ x) q tb r2 r3 r4 v st A' M := by
  obtain ⟨n1, n2, n3, n4, n5⟩ := h.ne
  have k : ∀ (b : Nat) (o : Obj), b ≠ r3 → W.heap[b]? = some o → (W.setCell ⟨r3, j, none⟩ x).heap[b]? = some o := fun b o hb ho => (heap_setCell_other W ⟨r3, j, none⟩ b x hb).trans ho
  refine ⟨h.ch.setCell (.inr (by simp only; omega)) x, ⟨k _ _ (by omega) h.tk.row⟩, k _ _ (by omega) h.bx, k _ _ (by omega) h.z2, ?_, k _ _ (by omega) h.z4, h.ne⟩
  rw [← hA]
  exact heap_setCell_same W r3 j A 27 x h.z3
theorem NtW.cb {w0 W : World} {q tb r2 r3 r4 : Nat} {v : Value} {st : St} {A M : Array Value} (h : NtW w0 W q tb r2 r3 r4 v st A M) : W.cell? ⟨tb, 0, none⟩ = some (.pointer (some ⟨q, 0, none⟩)) := by rw [cell_of_row _ _ _ _ _ _ h.bx]; rfl
theorem NtW.c3 {w0 W : World} {q tb r2 r3 r4 : Nat} {v : Value} {st : St} {A M : Array Value} (h : NtW w0 W q tb r2 r3 r4 v st A M) (j : Nat) : W.cell? ⟨r3, j, none⟩ = A[j]? := cell_of_row _ _ _ _ _ _ h.z3
theorem NtW.c4 {w0 W : World} {q tb r2 r3 r4 : Nat} {v : Value} {st : St} {A M : Array Value} (h : NtW w0 W q tb r2 r3 r4 v st A M) (j : Nat) : W.cell? ⟨r4, j, none⟩ = M[j]? := cell_of_row _ _ _ _ _ _ h.z4
theorem NtW.f3 {w0 W : World} {q tb r2 r3 r4 : Nat} {v : Value} {st : St} {A M : Array Value} (h : NtW w0 W q tb r2 r3 r4 v st A M) (j : Nat) : W.frozen? ⟨r3, j, none⟩ = false := frozen_of_row W r3 j A 27 h.z3
/-- What the taker's note answers. -/
def NoteP (w w' : World) (q : Nat) (v : Value) (n : Nt) (st : St) (e : Ending) : Prop :=
  ∃ ha hc pa pc ba bc, e = .returned (.agg (na n.s n.nm n.g n.i (.slice ha n.H.length hc) (.slice pa n.P.length pc) (.slice ba n.bs.length bc))) ∧ OwnE he 2 46 w' w.heap.size (.slice ha n.H.length hc) n.H ∧ OwnE pe 33 49 w' w.heap.size (.slice pa n.P.length pc) n.P ∧ OwnY w' w.heap.size (.slice ba n.bs.length bc) n.bs ∧ Tk w' q v st ∧ Chg [q] w w'
end Go.Proofs.Ythohpbppfihoiaa
