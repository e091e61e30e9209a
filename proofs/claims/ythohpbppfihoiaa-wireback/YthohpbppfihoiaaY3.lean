/- The document's Take: what it tells at a fault; its variables. -/
import Derived.Test.YthohpbppfihoiaaX8
namespace Go.Proofs.Ythohpbppfihoiaa
open Go.RowKit Go.Lib

theorem nS_f {bs : List Int} {st : St} (h : st.2 ≠ 0) : nS bs st = (0, st) := by unfold nS; rw [if_neg h]
theorem xS_f {bs : List Int} {m : Int} {st : St} (h : st.2 ≠ 0) : xS bs m st = ([], st) := by unfold xS; rw [if_neg h]
theorem flS_f {st : St} {e : Int} (h : st.2 ≠ 0) : flS st e = st := by unfold flS; rw [if_neg h]
theorem nS_ok {bs : List Int} {i n j : Int} (h : Oct.tkNum bs i = (n, j, 0)) : nS bs (i, 0) = (n, (j, 0)) := by unfold nS; simp [h]
theorem nS_no {bs : List Int} {i n j c : Int} (h : Oct.tkNum bs i = (n, j, c)) (hc : c ≠ 0) : nS bs (i, 0) = (n, (i, c)) := by unfold nS; simp [h, hc]
theorem xS_ok {bs ps : List Int} {m i j : Int} (h : Oct.tkText bs i m = (ps, j, 0)) : xS bs m (i, 0) = (ps, (j, 0)) := by unfold xS; simp [h]
theorem xS_no {bs ps : List Int} {m i j c : Int} (h : Oct.tkText bs i m = (ps, j, c)) (hc : c ≠ 0) : xS bs m (i, 0) = (ps, (i, c)) := by unfold xS; simp [h, hc]
theorem lS_err {α : Type} {bs : List Int} {m : Int} {f : St → α × St} {st : St} (h : (nS bs st).2.2 ≠ 0) : lS bs m f st = ([], (nS bs st).2) := by
  unfold lS
  by_cases hm : m < (nS bs st).1
  · rw [if_pos hm, flS_f h, rep_stop _ _ _ h]
  · rw [if_neg hm, rep_stop _ _ _ h]
theorem lS_f {α : Type} {bs : List Int} {m : Int} {f : St → α × St} {st : St} (h : st.2 ≠ 0) : lS bs m f st = ([], st) := by
  have e := nS_f (bs := bs) h
  have := lS_err (bs := bs) (m := m) (f := f) (st := st) (by rw [e]; exact h)
  rw [this, e]
theorem lS_big {α : Type} {bs : List Int} {m n a : Int} {f : St → α × St} {st : St} (h : nS bs st = (n, (a, 0))) (hm : m < n) : lS bs m f st = ([], (a, 6)) := by
  unfold lS
  rw [h]
  simp only [if_pos hm]
  rw [show flS (a, 0) 6 = (a, 6) from rfl, rep_stop _ _ _ (by simp)]
theorem lS_small {α : Type} {bs : List Int} {m a : Int} {n : Nat} {f : St → α × St} {st : St} (h : nS bs st = ((n : Int), (a, 0))) (hm : ¬ m < (n : Int)) : lS bs m f st = rep f n (a, 0) := by
  unfold lS
  rw [h]
  simp only [if_neg hm, Int.toNat_natCast]
theorem cn_f {bs : List Int} {st : St} (h : st.2 ≠ 0) (x : Bool) : (cond x (nS bs st) (0, st)).2 = st := by cases x with | false => rfl | true => exact congrArg Prod.snd (nS_f h)
theorem cx_f {bs : List Int} {m : Int} {st : St} (h : st.2 ≠ 0) (x : Bool) : (cond x (xS bs m st) ([], st)).2 = st := by cases x with | false => rfl | true => exact congrArg Prod.snd (xS_f h)
theorem cl_f {α : Type} {bs : List Int} {m : Int} {f : St → α × St} {st : St} (h : st.2 ≠ 0) (x : Bool) : (cond x (lS bs m f st) ([], st)).2 = st := by cases x with | false => rfl | true => exact congrArg Prod.snd (lS_f h)
section
variable {bs : List Int} {m : Nm} {s : Int} {s1 : St}
/-- A fault of a list's, or of the bytes. -/
theorem noteK_f5 (st : St) (he : (cond m.2.2.2.1 (lS bs 256 (pS bs) (cond m.2.2.1 (lS bs 64 (hS bs) (cond m.2.1 (nS bs (cond m.1 (nS bs (cond m.1 (xS bs 32 s1) ([], s1)).2) (0, (cond m.1 (xS bs 32 s1) ([], s1)).2)).2) (0, (cond m.1 (nS bs (cond m.1 (xS bs 32 s1) ([], s1)).2) (0, (cond m.1 (xS bs 32 s1) ([], s1)).2)).2)).2) ([], (cond m.2.1 (nS bs (cond m.1 (nS bs (cond m.1 (xS bs 32 s1) ([], s1)).2) (0, (cond m.1 (xS bs 32 s1) ([], s1)).2)).2) (0, (cond m.1 (nS bs (cond m.1 (xS bs 32 s1) ([], s1)).2) (0, (cond m.1 (xS bs 32 s1) ([], s1)).2)).2)).2)).2) ([], (cond m.2.2.1 (lS bs 64 (hS bs) (cond m.2.1 (nS bs (cond m.1 (nS bs (cond m.1 (xS bs 32 s1) ([], s1)).2) (0, (cond m.1 (xS bs 32 s1) ([], s1)).2)).2) (0, (cond m.1 (nS bs (cond m.1 (xS bs 32 s1) ([], s1)).2) (0, (cond m.1 (xS bs 32 s1) ([], s1)).2)).2)).2) ([], (cond m.2.1 (nS bs (cond m.1 (nS bs (cond m.1 (xS bs 32 s1) ([], s1)).2) (0, (cond m.1 (xS bs 32 s1) ([], s1)).2)).2) (0, (cond m.1 (nS bs (cond m.1 (xS bs 32 s1) ([], s1)).2) (0, (cond m.1 (xS bs 32 s1) ([], s1)).2)).2)).2)).2)).2 = st) (h : st.2 ≠ 0) : (noteK m bs s s1).2 = st := by
  unfold noteK
  simp only [he]
  exact cx_f h _
end
/-- The states of the taker, one behind the other. -/
def stP (m : Nm) (bs : List Int) (s1 : St) : St := (cond m.1 (xS bs 32 s1) ([], s1)).2
def stG (m : Nm) (bs : List Int) (s1 : St) : St := (cond m.1 (nS bs (stP m bs s1)) (0, stP m bs s1)).2
def stI (m : Nm) (bs : List Int) (s1 : St) : St := (cond m.2.1 (nS bs (stG m bs s1)) (0, stG m bs s1)).2
def stH (m : Nm) (bs : List Int) (s1 : St) : St := (cond m.2.2.1 (lS bs 64 (hS bs) (stI m bs s1)) ([], stI m bs s1)).2
def stQ (m : Nm) (bs : List Int) (s1 : St) : St := (cond m.2.2.2.1 (lS bs 256 (pS bs) (stH m bs s1)) ([], stH m bs s1)).2
theorem fQ {m : Nm} {bs : List Int} {s : Int} {s1 st : St} (he : stQ m bs s1 = st) (h : st.2 ≠ 0) : (noteK m bs s s1).2 = st := noteK_f5 st he h
theorem fH {m : Nm} {bs : List Int} {s : Int} {s1 st : St} (he : stH m bs s1 = st) (h : st.2 ≠ 0) : (noteK m bs s s1).2 = st := fQ (by unfold stQ; rw [he]; exact cl_f h _) h
theorem fI {m : Nm} {bs : List Int} {s : Int} {s1 st : St} (he : stI m bs s1 = st) (h : st.2 ≠ 0) : (noteK m bs s s1).2 = st := fH (by unfold stH; rw [he]; exact cl_f h _) h
theorem fG {m : Nm} {bs : List Int} {s : Int} {s1 st : St} (he : stG m bs s1 = st) (h : st.2 ≠ 0) : (noteK m bs s s1).2 = st := fI (by unfold stI; rw [he]; exact cn_f h _) h
theorem fP {m : Nm} {bs : List Int} {s : Int} {s1 st : St} (he : stP m bs s1 = st) (h : st.2 ≠ 0) : (noteK m bs s s1).2 = st := fG (by unfold stG; rw [he]; exact cn_f h _) h
theorem fS {m : Nm} {bs : List Int} {s : Int} {s1 : St} (h : s1.2 ≠ 0) : (noteK m bs s s1).2 = s1 := fP (by unfold stP; exact cx_f h _) h
section
variable {bs : List Int} {n : Nt} {st : St}
theorem tkN_of (h : (noteS bs (0, 0)).2 = st) (hst : st.2 ≠ 0) : tkN bs = (zN, st.2) := by
  unfold tkN
  rw [h]
  simp only [flS_f hst]
  have : (if st.1 < (bs.length : Int) then st else st) = st := by split <;> rfl
  rw [this, if_neg hst]
theorem tkN_chk {i : Int} (h : noteS bs (0, 0) = (n, (i, 0))) (hc : chkN n ≠ 0) : tkN bs = (zN, chkN n) := by
  unfold tkN
  rw [h]
  have e : flS (i, 0) (chkN n) = (i, chkN n) := rfl
  simp only [e]
  rw [show flS (i, chkN n) 4 = (i, chkN n) from flS_f hc]
  have : (if i < (bs.length : Int) then ((i, chkN n) : St) else (i, chkN n)) = (i, chkN n) := by split <;> rfl
  rw [this, if_neg hc]
theorem tkN_form {i : Int} (h : noteS bs (0, 0) = (n, (i, 0))) (hc : chkN n = 0) (hi : i < (bs.length : Int)) : tkN bs = (zN, 4) := by
  unfold tkN
  rw [h]
  have e : flS (i, 0) (chkN n) = (i, 0) := by rw [hc]; rfl
  simp only [e]
  rw [if_pos hi]
  rfl
theorem tkN_ok {i : Int} (h : noteS bs (0, 0) = (n, (i, 0))) (hc : chkN n = 0) (hi : ¬ i < (bs.length : Int)) : tkN bs = (n, 0) := by
  unfold tkN
  rw [h]
  have e : flS (i, 0) (chkN n) = (i, 0) := by rw [hc]; rfl
  simp only [e]
  rw [if_neg hi]
  rfl
end
/-- The variables of the document's Take: the result, the note. -/
structure RtW (w0 W : World) (r2 r7 : Nat) (A : Array Value) : Prop where
  bl : Below w0.heap.size w0 W
  z2 : W.heap[r2]? = some (.cells zn 27 (0, 0))
  z7 : W.heap[r7]? = some (.cells A 27 (0, 0))
  ne : w0.heap.size ≤ r2 ∧ r2 < r7
theorem RtW.other {w0 W W' : World} {r2 r7 : Nat} {A : Array Value} {X : List Nat} (h : RtW w0 W r2 r7 A) (hc : Chg X W W') (hX : ∀ x ∈ X, r7 < x) : RtW w0 W' r2 r7 A := by
  obtain ⟨n1, n2⟩ := h.ne
  exact ⟨h.bl.trans (hc.below h.bl.size (fun x hx => by have := hX x hx; omega)), (hc.block r2 (Array.getElem?_eq_some_iff.1 h.z2).1 (fun hm => by have := hX _ hm; omega)).trans h.z2, (hc.block r7 (Array.getElem?_eq_some_iff.1 h.z7).1 (fun hm => by have := hX _ hm; omega)).trans h.z7, h.ne⟩
theorem RtW.call {w0 W W' : World} {r2 r7 : Nat} {A : Array Value} (h : RtW w0 W r2 r7 A) (hb : Below W.heap.size W W') : RtW w0 W' r2 r7 A := h.other (Chg.ofBelow (X := []) hb) (by simp)
theorem RtW.set {w0 W : World} {r2 r7 : Nat} {A : Array Value} (h : RtW w0 W r2 r7 A) (j : Nat) (x : Value) {A' : Array Value} (hA : A.setIfInBounds j x = A') : RtW w0 (W.setCell ⟨r7, j, none⟩ x) r2 r7 A' := by
  obtain ⟨n1, n2⟩ := h.ne
  refine ⟨h.bl.trans (((Chg.refl [r7] W).setCell (.inl (by simp)) x).below h.bl.size (by simp; omega)), (heap_setCell_other W ⟨r7, j, none⟩ r2 x (by simp only; omega)).trans h.z2, ?_, h.ne⟩
  rw [← hA]
  exact heap_setCell_same W r7 j A 27 x h.z7
theorem RtW.c7 {w0 W : World} {r2 r7 : Nat} {A : Array Value} (h : RtW w0 W r2 r7 A) (j : Nat) : W.cell? ⟨r7, j, none⟩ = A[j]? := cell_of_row _ _ _ _ _ _ h.z7
theorem RtW.f7 {w0 W : World} {r2 r7 : Nat} {A : Array Value} (h : RtW w0 W r2 r7 A) (j : Nat) : W.frozen? ⟨r7, j, none⟩ = false := frozen_of_row W r7 j A 27 h.z7
theorem below_res {w0 W : World} {r2 : Nat} (hb : Below w0.heap.size w0 W) (hr : w0.heap.size ≤ r2) (B : Array Value) : Below w0.heap.size w0 (W.setRow r2 B) :=
  hb.trans ((show Chg [r2] W (W.setRow r2 B) from ⟨rfl, rfl, rfl, by simp, fun k hk hx => setRow_other _ _ k _ (by simpa using hx)⟩).below hb.size (by simpa using hr))
theorem leaf_end {w0 W : World} {r2 r7 : Nat} {A : Array Value} (h : RtW w0 W r2 r7 A) {R : Nt × Int} {c : Int} (hR : R = (zN, c)) : TakeP w0 (W.setRow r2 zn) R.1 R.2 (.returned (.tuple #[.agg zn, .int .i64 c])) := by
  subst hR
  exact ⟨none, 0, none, 0, none, 0, rfl, OwnE.nil _ _ _ _ _, OwnE.nil _ _ _ _ _, owny_nil _ _, below_res h.bl h.ne.1 zn⟩
theorem zn_info : (Try.prog.info? 27).map (·.size) = some zn.size := info27
theorem zn_one : zn.all (·.oneCell') = true := na_one _ _ _ _ _ _ _ _ _ _ _ _ _
/-- A part whose sum is laid up to a place. -/
def blk (bs : List Int) (ii j : Nat) : Array Value := ((yv ((bs.drop ii).take j) ++ List.replicate (32 - j) (Value.int .u8 0)) ++ [Value.int .i64 0]).toArray
theorem blk_zero (bs : List Int) (ii : Nat) : blk bs ii 0 = (pe pz).toArray := by
  unfold blk pe pz yv
  simp
theorem blk_size {bs : List Int} {ii j : Nat} (hj : j ≤ 32) (hl : ii + 32 ≤ bs.length) : (blk bs ii j).size = 33 := by
  unfold blk
  simp [yv_len]
  omega
theorem blk_step {bs : List Int} {ii j : Nat} (hj : j < 32) (hl : ii + 32 ≤ bs.length) : (blk bs ii j).setIfInBounds j (.int .u8 (bs.getD (ii + j) 0)) = blk bs ii (j + 1) := by
  have ht : (bs.drop ii).take (j + 1) = (bs.drop ii).take j ++ [bs.getD (ii + j) 0] := by
    rw [List.take_add_one, List.getElem?_drop, List.getElem?_eq_getElem (by omega)]
    simp [List.getD, List.getElem?_eq_getElem (show ii + j < bs.length by omega)]
  have hlen : (yv ((bs.drop ii).take j)).length = j := by rw [yv_len, List.length_take, List.length_drop]; omega
  unfold blk
  rw [ht, yv_app]
  apply Array.ext'
  rw [Array.toList_setIfInBounds]
  simp only
  rw [List.append_assoc, List.set_append_right _ _ (by omega), hlen, Nat.sub_self, show 32 - j = (32 - (j + 1)) + 1 by omega, List.replicate_succ]
  simp [yv]
theorem blk_last {bs : List Int} {ii : Nat} (hl : ii + 32 ≤ bs.length) (y : Int) : (blk bs ii 32).setIfInBounds 32 (.int .i64 y) = (pe ((bs.drop ii).take 32, y)).toArray := by
  have hlen : ((bs.drop ii).take 32).length = 32 := by rw [List.length_take, List.length_drop]; omega
  unfold blk pe yv
  apply Array.ext'
  rw [Array.toList_setIfInBounds]
  simp only [Nat.sub_self, List.replicate_zero, List.append_nil]
  rw [List.set_append_right _ _ (by rw [List.length_map]; omega), List.length_map, hlen]
  rfl
theorem sS_short {bs : List Int} {ii : Nat} (h : bs.length < ii + 32) : sS bs ((ii : Int), 0) = (List.replicate 32 0, ((ii : Int), 3)) := by
  unfold sS
  rw [if_pos (by simp only; omega)]
  rfl
theorem sS_long {bs : List Int} {ii : Nat} (h : ii + 32 ≤ bs.length) : sS bs ((ii : Int), 0) = ((bs.drop ii).take 32, ((ii : Int) + 32, 0)) := by
  unfold sS
  rw [if_neg (by simp only; omega)]
  rfl
end Go.Proofs.Ythohpbppfihoiaa
