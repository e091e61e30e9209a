/- bytes.IndexByte, make and copy of bytes; what a group's shard is (plain). -/
import Derived.Shelf.Bytes.IndexByte
import Derived.Laws.CopyOwn
import Derived.Test.YtbdmbhpmbklaiaaS1
namespace Go.Proofs.Ytbdmbhpmbklaiaa
open Go.Shelf Go.RowKit Gf

def idxA_ren : Go.Shelf.Ren := ⟨fun | 187 => 46 | 255 => 50 | n => n, fun | 37 => 33 | n => n, fun n => n⟩
theorem idxA : Go.Proofs.Lays.n187 Try.prog idxA_ren := {
  mixed := by kernel_rfl
  f187 := Try.func46.trans (congrArg some (by kernel_rfl))
  f255 := Try.func50.trans (congrArg some (by kernel_rfl))
  t3 := Try.underlying3
  a3 := Try.isAgg3
  z3 := Try.sizeOf3
  v3 := Try.zeroValue3
  t5 := Try.underlying5
  a5 := Try.isAgg5
  z5 := Try.sizeOf5
  v5 := Try.zeroValue5
  t37 := Try.underlying33
  a37 := Try.isAgg33
  z37 := Try.sizeOf33
  v37 := Try.zeroValue33 }
theorem ix_spec (x : G) : ∀ (l : List G), (Lib.indexByte (Lib.bytesOf (l.map gi)) (gi x).toNat.toUInt8 = -1 ∧ x ∉ l) ∨ ∃ i : Nat, Lib.indexByte (Lib.bytesOf (l.map gi)) (gi x).toNat.toUInt8 = i ∧ i < l.length ∧ l.getD i 0 = x
  | [] => .inl ⟨rfl, by simp⟩
  | y :: l => by
    have hxy : ((gi y).toNat.toUInt8 = (gi x).toNat.toUInt8) ↔ y = x := by
      constructor
      · intro h
        have h1 := congrArg UInt8.toNat h
        have e1 := gi_lo x
        have e2 := gi_hi x
        have e3 := gi_lo y
        have e4 := gi_hi y
        simp only [Nat.toUInt8_eq, UInt8.toNat_ofNat'] at h1
        exact gi_inj (by omega)
      · intro h; rw [h]
    have hc : Lib.bytesOf ((y :: l).map gi) = (gi y).toNat.toUInt8 :: Lib.bytesOf (l.map gi) := rfl
    rw [hc, Lib.indexByte]
    by_cases e : y = x
    · rw [if_pos (by rw [beq_iff_eq]; exact hxy.2 e)]
      exact .inr ⟨0, rfl, by simp, by simpa [List.getD] using e⟩
    · rw [if_neg (by rw [beq_iff_eq]; exact fun h => e (hxy.1 h))]
      rcases ix_spec x l with ⟨h1, h2⟩ | ⟨i, h1, h2, h3⟩
      · refine .inl ⟨by rw [h1]; rfl, ?_⟩
        simp only [List.mem_cons, not_or]
        exact ⟨fun h => e h.symm, h2⟩
      · refine .inr ⟨i + 1, ?_, by simpa using h2, by simpa [List.getD] using h3⟩
        rw [h1]
        rw [if_neg (by rw [beq_iff_eq]; omega)]
        omega
section
variable {w : World}
theorem idx46 (v : Value) (l : List G) (x : G) (hv : RdG w v l) (h0 : 0 < l.length) : Calls Try.prog 46 #[v, .int .u8 (gi x)] w fun e w' => ∃ z : Int, e = .returned (.int .i64 z) ∧ ((z = -1 ∧ x ∉ l) ∨ ∃ i : Nat, z = i ∧ i < l.length ∧ l.getD i 0 = x) ∧ w = w' := by
  obtain ⟨b, off, cap, rfl, _, hc⟩ := hv.at h0
  have t := Any.bytes_IndexByte idxA b off l.length cap (l.map gi) (gi x) w (by simp) (fun i hi => by rw [hc i hi]; simp [List.getD, List.getElem?_eq_getElem hi])
  refine Calls.mono t ?_
  rintro e w' ⟨rfl, rfl⟩
  exact ⟨_, rfl, ix_spec x l, rfl⟩
end
theorem OwnG.cellAt {w : World} {base g n cap : Nat} {l : List G} (h : OwnG w base (.slice (some ⟨g, 0, none⟩) n cap) l) {j : Nat} (hj : j < l.length) : w.cell? ⟨g, j, none⟩ = some (.int .u8 (gi (l.getD j 0))) := by
  obtain ⟨b, off, cap', e, _, hc⟩ := h.rd.at hj
  simp only [Value.slice.injEq, Option.some.injEq, Addr.mk.injEq] at e
  obtain ⟨⟨rfl, rfl, _⟩, _⟩ := e
  have := hc j hj
  rwa [Nat.zero_add] at this
theorem OwnG.frozenAt {w : World} {base g n cap : Nat} {l : List G} (h : OwnG w base (.slice (some ⟨g, 0, none⟩) n cap) l) (j : Nat) : w.frozen? ⟨g, j, none⟩ = false := by
  have hn : n = l.length := by obtain ⟨a', c', e, _⟩ := h.rd.shape; simp at e; exact e.2.1
  subst hn
  have h' : w.ownsRow base 5 1 (.slice (some ⟨g, 0, none⟩) l.length cap) l.length (yv (l.map gi)) := by
    have := h
    unfold OwnG OwnY at this
    rwa [List.length_map] at this
  exact World.ownsRow.frozenAt h' j
theorem OwnG.stored {w : World} {base g n cap : Nat} {l : List G} (h : OwnG w base (.slice (some ⟨g, 0, none⟩) n cap) l) (j : Nat) (y : G) :
    OwnG (w.setCell ⟨g, j, none⟩ (.int .u8 (gi y))) base (.slice (some ⟨g, 0, none⟩) n cap) (l.set j y) := by
  have hn : n = l.length := by obtain ⟨a', c', e, _⟩ := h.rd.shape; simp at e; exact e.2.1
  subst hn
  have h' : w.ownsRow base 5 1 (.slice (some ⟨g, 0, none⟩) l.length cap) l.length (yv (l.map gi)) := by
    have := h
    unfold OwnG OwnY at this
    rwa [List.length_map] at this
  have := (World.ownsRow.stored h' j (.int .u8 (gi y))).1
  unfold OwnG OwnY
  simpa [yv, List.map_set] using this
section
variable {w : World} {ops : Array Oper} {rest : List Oper} {o : Oper} {a : Act} {Q : Exit → Act → World → Prop}
/-- 'make([]byte, n)'. -/
theorem wp_makeZ (hgd : o.guard = none) (x y : Operand) (ho : o.op = .makeSlice 33 x y) (c : Nat) (hx : a.eval x = .int .i64 (c : Int)) (hy : a.eval y = .int .i64 (c : Int)) (hc : c ≤ 1000000)
    (h : ∀ w', OwnG w' w.heap.size (.slice (some ⟨w.heap.size, 0, none⟩) c c) (List.replicate c 0) → Below w.heap.size w w' → wpList Try.prog ops Q rest (a.put o.dst (.slice (some ⟨w.heap.size, 0, none⟩) c c)) w') : wpList Try.prog ops Q (o :: rest) a w :=
  wpList_plain hgd fun _ hK => by
    obtain ⟨i0, hi, hz0, hz1, hz2⟩ := info_parts' infoByte
    obtain ⟨w', hr, h1, h2⟩ := run_makeSlice_full (P := Try.prog) w w.heap.size 33 5 i0 _ 1 Try.underlying33 hi hz0 hz1 .i64 .i64 c (by omega) (by rw [hz2]; omega) (by unfold maxLen; omega) (Nat.le_refl _)
    unfold Oper.wp execOp
    simp only [ho, hx, hy, Sem.run_bind, hr, Result.andThen_ok]
    refine hK _ _ (h _ ?_ ⟨h2.os, h2.tape, h2.output, h2.size, fun k hk => h2.block k hk (by simp)⟩)
    have e : (madeCells (Value.int .u8 0).cells (c * 1)).toList = yv ((List.replicate c (0 : G)).map gi) := by
      show (madeCells #[Value.int .u8 0] (c * 1)).toList = _
      rw [toList_madeCells_one, Nat.mul_one]
      simp only [yv, List.map_replicate]
      rfl
    rw [e] at h1
    unfold OwnG OwnY
    simpa using h1
/-- 'copy(d, s)' of as many bytes. -/
theorem wp_copyG (hgd : o.guard = none) (d s : Operand) (ho : o.op = .call { callee := .builtin .copy, args := #[d, s], argTypes := #[33, 33] })
    {base g n cap : Nat} {u : Value} {l m : List G} (hd : a.eval d = .slice (some ⟨g, 0, none⟩) n cap) (hown : OwnG w base (.slice (some ⟨g, 0, none⟩) n cap) l) (hs : a.eval s = u) (hu : RdG w u m) (hlen : m.length = n) (w0 : World) (hb : Below base w0 w)
    (h : ∀ w', OwnG w' base (.slice (some ⟨g, 0, none⟩) n cap) m → Below base w0 w' → wpList Try.prog ops Q rest (a.put o.dst (goInt n)) w') : wpList Try.prog ops Q (o :: rest) a w := by
  have hn : l.length = n := by obtain ⟨a', c', e, _⟩ := hown.rd.shape; simp at e; exact e.2.1.symm
  have hbg := (hown.lt g (by simp [ob, Value.ownBlock])).1
  obtain ⟨sp, sc, rfl, _⟩ := hu.shape
  have hz : (Try.prog.info? 5).map (·.size) = some 1 := by kernel_rfl
  rcases hown.2 with ⟨e, _⟩ | ⟨g', cap', cur, e, hg', hh, h1, h2, h3, h4⟩
  · simp at e
  · simp only [Value.slice.injEq, Option.some.injEq, Addr.mk.injEq, and_true] at e
    obtain ⟨rfl, e2, rfl⟩ := e
    have hcl : cur.toList.length = cap := by rw [Array.length_toList, h3, Nat.mul_one]
    have hgc : w.heap[g]? = some (.cells cur.toList.toArray 5 (0, 0)) := by simpa using hh
    refine wpList_copy_splice hgd d s 33 33 ho 5 Try.underlying33 hz _ _ n cap m.length sc hd hs g 0 cur.toList 5 hgc (yv (m.map gi)) ?_ ?_ ?_ (yv_one _) base w0 hb hbg ?_
    · simp only [yv_len, List.length_map, hlen]; exact (Nat.min_self n).symm
    · intro hpos
      refine ⟨rfl, ?_⟩
      have hp : 0 < m.length := by simpa [yv] using hpos
      obtain ⟨b, off, cap2, e3, _, hc⟩ := hu.at hp
      simp only [Value.slice.injEq] at e3
      obtain ⟨rfl, _, rfl⟩ := e3
      refine ⟨_, rfl, fun j v hj => ?_⟩
      have hjl : j < m.length := by
        rcases Nat.lt_or_ge j m.length with h | h
        · exact h
        · rw [List.getElem?_eq_none (by simpa [yv] using h)] at hj; cases hj
      rw [add_plain, hc j hjl]
      simp [yv, List.getElem?_eq_getElem hjl] at hj
      simp [List.getD, List.getElem?_eq_getElem hjl, hj]
    · rw [Nat.zero_add, hcl, yv_len, List.length_map, hlen]
      simp only [List.length_map, hn] at h1
      exact h1
    · intro w' hg2 hb2
      rw [yv_len, List.length_map, hlen]
      refine h w' ?_ hb2
      have hml : (m.map gi).length = n := by rw [List.length_map, hlen]
      refine ⟨by rw [yv_len, Nat.mul_one], .inr ⟨g, cap, _, by rw [hml], hg', hg2, ?_, h2, ?_, ?_⟩⟩
      · simp only [List.length_map, hn] at h1
        rw [hml]; exact h1
      · have : (splice cur.toList 0 (yv (m.map gi))).length = cur.toList.length := length_splice _ _ _ (by rw [Nat.zero_add, hcl, yv_len, hml]; simp only [List.length_map, hn] at h1; exact h1)
        simp [this, h3]
      · simp [splice, yv_len]
end
/-- The group's shard at x: of the polynomials through the rows' elements, at points xs. -/
def grp (xs : List G) (R : List Sd) (n : Nat) (x : G) : List G := (List.range n).map (fun b => ip xs (fun j => (sl (R.getD j none)).getD b 0) x)
theorem grp_len (xs : List G) (R : List Sd) (n : Nat) (x : G) : (grp xs R n x).length = n := by simp [grp]
theorem grp_get (xs : List G) (R : List Sd) (n : Nat) (x : G) {b : Nat} (h : b < n) : (grp xs R n x).getD b 0 = ip xs (fun j => (sl (R.getD j none)).getD b 0) x := by simp [grp, List.getD, h]
theorem grp_at {xs : List G} (hn : xs.Nodup) (R : List Sd) {n j : Nat} (hj : j < xs.length) (hl : (sl (R.getD j none)).length = n) : grp xs R n (xs.getD j 0) = sl (R.getD j none) := by
  apply List.ext_getElem
  · rw [grp_len, hl]
  · intro b h1 h2
    simp only [grp, List.getElem_map, List.getElem_range]
    rw [ip_at hn _ hj]
    generalize sl (R.getD j none) = l at h2
    simp [List.getD, List.getElem?_eq_getElem h2]
/-- The sum of the first i terms at place b. -/
def acc (xs : List G) (R : List Sd) (x : G) (i b : Nat) : G := dt (fun j => (sl (R.getD j none)).getD b 0 * wg xs j x xs.length) i
theorem acc_grp (xs : List G) (R : List Sd) (n : Nat) (x : G) : (List.range n).map (acc xs R x xs.length) = grp xs R n x := rfl
/-- What stands in the shard when i weights are done, and of the next one p places. -/
def accL (xs : List G) (R : List Sd) (x : G) (n i p : Nat) : List G := (List.range n).map (fun b => if b < p then acc xs R x (i + 1) b else acc xs R x i b)
theorem accL_len (xs : List G) (R : List Sd) (x : G) (n i p : Nat) : (accL xs R x n i p).length = n := by simp [accL]
theorem accL_zero (xs : List G) (R : List Sd) (x : G) (n i : Nat) : accL xs R x n i 0 = (List.range n).map (acc xs R x i) := by simp [accL]
theorem accL_full (xs : List G) (R : List Sd) (x : G) (n i : Nat) : accL xs R x n i n = accL xs R x n (i + 1) 0 := by
  simp only [accL]
  apply List.map_congr_left
  intro b hb
  simp at hb
  simp [hb]
theorem accL_start (xs : List G) (R : List Sd) (x : G) (n : Nat) : List.replicate n 0 = accL xs R x n 0 0 := by
  rw [accL_zero]
  apply List.ext_getElem
  · simp
  · intro b h1 h2; simp [acc, dt]
theorem accL_at (xs : List G) (R : List Sd) (x : G) {n p : Nat} (i : Nat) (h : p < n) : (accL xs R x n i p).getD p 0 = acc xs R x i p := by simp [accL, List.getD, h]
theorem accL_step (xs : List G) (R : List Sd) (x : G) (n i p : Nat) : (accL xs R x n i p).set p (acc xs R x (i + 1) p) = accL xs R x n i (p + 1) := by
  apply List.ext_getElem
  · simp [accL]
  · intro b h1 h2
    simp only [accL, List.getElem_set, List.getElem_map, List.getElem_range]
    by_cases e : p = b
    · subst e; simp
    · rw [if_neg e]
      by_cases hb : b < p
      · rw [if_pos hb, if_pos (by omega)]
      · rw [if_neg hb, if_neg (by omega)]
theorem acc_succ (xs : List G) (R : List Sd) (x : G) (i b : Nat) : acc xs R x (i + 1) b = acc xs R x i b + wg xs i x xs.length * (sl (R.getD i none)).getD b 0 := by
  rw [acc, dt, mul_comm]; rfl
end Go.Proofs.Ytbdmbhpmbklaiaa
