/- The program's Cut. -/
import Derived.Test.YtkkcdmdkjedkjaaR8
import Derived.RangeFuncBox
namespace Go.Proofs.Ytkkcdmdkjedkjaa
open Go.RowKit Go.Lib Go.Shelf

theorem RecX.same {w W : World} {p : Nat} {rv ev rv' ev' : Value} {L : List Rf} (h : RecX w p rv ev L) (hb : Below w.heap.size w W) (h' : RecX W p rv' ev' L) : rv = rv' := by
  have h1 := (hb.block p h.lt).trans h.row
  rw [h'.row] at h1
  simp at h1
  exact h1.1.symm
theorem pieces_seq {w : World} {L : List Rf} (hR : Rt L) (fr lf : Nat) (hfl : fr + lf ≤ (lens L).sum) (q p b : Nat) {rv ev : Value} (hX : RecX w p rv ev L) (hM : 0 < L.length → ∀ k ∈ ob rv, k < q ∧ k ≠ b)
    (h0 : w.cell? ⟨q, 0, none⟩ = some (.pointer (some ⟨p, 0, none⟩))) (h1 : w.cell? ⟨q + 1, 0, none⟩ = some (.int .i64 (fr : Int))) (h2 : w.heap[q + 2]? = some (.cells #[.int .i64 (lf : Int)] 3 (0, 0))) (hpq : p < q ∧ p ≠ b) (hqb : b < q) :
    SeqW Fence.wide 9 Try.prog 47 #[.pointer (some ⟨q, 0, none⟩), .pointer (some ⟨q + 1, 0, none⟩), .pointer (some ⟨q + 2, 0, none⟩)] (fun x : Rp.Pc => #[.agg (pv x).toArray]) (KpB (q + 3) b) (fun xs => xs = Rp.pcs (lens L) 0 fr ((fr : Int) + lf)) 256 (q + 2) w :=
  fun l J W hW hJb hJc hY hj0 =>
    pieces1_in hR fr lf hfl l q p b J W ⟨rv, ev, hX.below hW⟩ ((hW.cell (World.block_lt_of_cell? _ _ h0)).trans h0) ((hW.cell (World.block_lt_of_cell? _ _ h1)).trans h1) ((hW.block _ (Array.getElem?_eq_some_iff.1 h2).1).trans h2)
      (fun rv' ev' hx' => by rw [← hX.same hW hx']; exact hM) hpq hqb hJb hJc hY hj0
theorem eltP : Elt Try.prog 37 49 3 24 := by
  have h : ((Try.prog.info? 49).map (fun i => (i.size, i.bytes, (i.zero.map (fun z => z.cells.size))))) = some (3, 24, some 3) := by kernel_rfl
  refine ⟨Try.underlying37, ?_, by decide⟩
  cases hi : Try.prog.info? 49 with
  | none => rw [hi] at h; simp at h
  | some i =>
    rw [hi] at h
    simp at h
    obtain ⟨h1, h2, z, h3, h4⟩ := h
    exact ⟨i, z, rfl, h3, h1, h2, h4⟩
theorem wpi_appE {α : Type} {f : α → List Value} {P : Program} {t e : TypeId} {k bytes : Nat} {d : α} {F : Fence} {n : Nat} {w : World} {ops : Array Oper} {rest : List Oper} {o : Oper} {ac : Act} {Q : Exit → Act → World → Prop} (hE : Elt P t e k bytes) (hgd : o.guard = none) (s x : Operand)
    (ho : o.op = .call { callee := .builtin .append, args := #[s, x], argTypes := #[t, t] })
    {base : Nat} {v u : Value} {L M : List α} (hs : ac.eval s = v) (hown : OwnE f k e w base v L) (hx : ac.eval x = u) (hu : RdE f k d w u M) (hlen : (L.length + M.length) * bytes ≤ 140737488355328) (h63 : L.length + M.length ≤ maxLen) (hbase : base ≤ w.heap.size)
    (h : ∀ v' w', OwnE f k e w' base v' (L ++ M) → Chg (ob v) w w' → (v'.ownBlock = v.ownBlock ∨ v'.ownBlock = some w.heap.size) → wpListIn F n P ops Q rest (ac.put o.dst v') w') : wpListIn F n P ops Q (o :: rest) ac w := by
  refine wpListIn_plain hgd fun K hK => ?_
  obtain ⟨v', w', hr, h2, h3, h4⟩ := run_appE hE w o.type hown hu hlen h63 hbase
  unfold Oper.wpIn
  refine ⟨?_, ?_⟩
  · simp [Oper.about, ho, resolve, Target.leads, Sem.run_pure]
  · rw [Oper.semAt_plain F _ _ (by rw [ho]; intro c hc'; cases hc')]
    simp [execOp, ho, resolve, invoke, builtin, hs, hx, hr, Result.andThen]
    exact hK _ _ (h v' w' h2 h3 h4)
theorem chg_put (W : World) (l : Nat) (o : Obj) : Chg [l] W (W.putObj l o) := ⟨rfl, rfl, rfl, by simp, fun k _ hx => World.putObj_heap_other (by simpa using hx)⟩
section
variable {w : World}
theorem cutNil_any (fr n : Int) : Calls Try.prog 20 #[.pointer none, .int .i64 fr, .int .i64 n] w fun e w' => e = .returned (.tuple #[.slice none 0 0, .int .i64 1]) ∧ w = w' := by
  go_enter Try.func20, Try.ntmps20
  go_wp2_with fail
  go_ret2
  exact ⟨rfl, rfl⟩
/-- What the loop knows between two rounds: the box holds a slice that owns the pieces. -/
def InvC (w : World) (b M : Nat) (pre : List Rp.Pc) (W : World) : Prop := (∃ sl, W.heap[b]? = some (.cells #[sl] 37 (0, 0)) ∧ OwnE pv 3 49 W M sl pre) ∧ Below w.heap.size w W ∧ M ≤ W.heap.size
theorem InvC.put {w : World} {b M : Nat} {pre : List Rp.Pc} {A : World} (h : InvC w b M pre A) {l : Nat} {o : Obj} (hl : w.heap.size ≤ l ∧ b < l) (hx : ∃ x : Obj, A.heap[l]? = some x ∧ x.isCells = false) : InvC w b M pre (A.putObj l o) := by
  obtain ⟨⟨sl, h1, h2⟩, h3, h4⟩ := h
  have hc := chg_put A l o
  refine ⟨⟨sl, (hc.block _ (Array.getElem?_eq_some_iff.1 h1).1 (by simp; omega)).trans h1, h2.far hc (fun g hg hm => ?_)⟩, h3.trans (hc.below h3.size (by simp; omega)), Nat.le_trans h4 hc.size⟩
  simp at hm
  subst hm
  obtain ⟨cs, hcs⟩ := h2.ty g hg
  obtain ⟨y, hy, hyc⟩ := hx
  rw [hy] at hcs
  cases hcs
  cases hyc
attribute [local go_sem] Oper.semAt_some
set_option maxHeartbeats 8000000 in
set_option maxRecDepth 100000 in
theorem cut_any {p : Nat} {L : List Rf} (h : Rec w p L) (hR : Rt L) (fr : Nat) (n : Int) (hf : fr ≤ (lens L).sum) (hn : 0 ≤ n ∧ n ≤ 9223372036854775807) : Calls Try.prog 20 #[.pointer (some ⟨p, 0, none⟩), .int .i64 (fr : Int), .int .i64 n] w fun e w' => ∃ v', e = .returned (.tuple #[v', .int .i64 0]) ∧ OwnE pv 3 49 w' w.heap.size v' (Rp.pcs (lens L) 0 fr ((fr : Int) + n)) ∧ Below w.heap.size w w' := by
  obtain ⟨rv, ev, hX⟩ := h
  have hsum := lens_sum hR
  obtain ⟨lf, Hlf⟩ : ∃ lf : Nat, Hid (min n (((lens L).sum : Int) - fr) = (lf : Int)) := ⟨(min n (((lens L).sum : Int) - fr)).toNat, ⟨by omega⟩⟩
  have HP : Hid (Rp.pcs (lens L) 0 fr ((fr : Int) + n) = Rp.pcs (lens L) 0 fr ((fr : Int) + lf)) := ⟨by
    by_cases hc : n ≤ ((lens L).sum : Int) - fr
    · rw [show (lf : Int) = n by have := Hlf.out; omega]
    · exact Rp.pcs_over _ _ _ _ _ (by omega) (by have := Hlf.out; omega)⟩
  rw [HP.out]
  have Hfl : Hid (fr + lf ≤ (lens L).sum) := ⟨by have := Hlf.out; omega⟩
  have HSz := fun (W : World) (hb : Below w.heap.size w W) => size_q (w := W) ⟨rv, ev, hX.below hb⟩ hR.few
  have HS := Hid.mk HSz
  obtain ⟨Z, HZ⟩ : ∃ Z, Hid ((lens L).sum = Z) := ⟨_, ⟨rfl⟩⟩
  rw [HZ.out] at HS hf hsum Hlf Hfl
  have hmin := Hlf.out
  have HX := Hid.mk hX
  have HR := Hid.mk hR
  have HpL : Hid (p < w.heap.size) := ⟨hX.lt⟩
  have HrL : Hid (0 < L.length → ∀ k ∈ ob rv, k < w.heap.size) := ⟨fun h0 k hk => hX.refs.toE.lt (by decide) h0 k hk⟩
  obtain ⟨T, HT⟩ : ∃ T, Hid (Rp.pcs (lens L) 0 fr ((fr : Int) + lf) = T) := ⟨_, ⟨rfl⟩⟩
  rw [HT.out]
  have hfz : ¬ (Z : Int) < (fr : Int) := by omega
  have hf0 : ¬ (fr : Int) < 0 := by omega
  have hn0 : ¬ n < 0 := by omega
  have hdz : decide (Z < fr) = false := decide_eq_false (by omega)
  have hdn : decide (n < 0) = false := decide_eq_false hn0
  have hzf : IntKind.i64.wrap ((Z : Int) - fr) = (Z : Int) - fr := IntWalk.i64_in _ ⟨by omega, by omega⟩
  clear HSz hX hR
  refine (callsIn_wide (n := 10)).1 ?_
  refine callsIn_of_wp_marks Try.func20 rfl trivial ?_ rfl
  simp only [Try.ntmps20, List.size_toArray, List.length_cons, List.length_nil, Nat.reduceAdd, Nat.reduceSub, Array.replicate_succ, Array.replicate_zero, List.push_toArray, List.append_toArray, List.nil_append, List.cons_append]
  gi_wp2_with fail
  refine ⟨trivial, ?_⟩
  refine (callsIn_wide.2 (HS.out _ (Below.refl _ _))).mono ?_
  rintro e w1 ⟨rfl, n1, ew1⟩
  have HB1 : Hid (Below w.heap.size w w1) := ⟨by rw [ew1]; exact below_drewN (Below.refl _ _) n1⟩
  have Hs1 : Hid (w1.heap.size = w.heap.size) := ⟨by rw [ew1]; rfl⟩
  clear ew1
  gi_wp2_with fail
  obtain ⟨b, Hb⟩ : ∃ b, Hid (w.heap.size = b) := ⟨_, ⟨rfl⟩⟩
  rw [Hs1.out, Hb.out]
  obtain ⟨w2, Hw2⟩ : ∃ x, Hid (w1.alloc (.cells #[.slice none 0 0] 37) = x) := ⟨_, ⟨rfl⟩⟩
  rw [Hw2.out]
  have HB2 : Hid (Below w.heap.size w w2) := ⟨by rw [← Hw2.out]; exact HB1.out.alloc HB1.out.size _⟩
  have Hx2 : Hid (w2.heap[b]? = some (.cells #[.slice none 0 0] 37 (0, 0)) ∧ w2.heap.size = b + 1) := ⟨by rw [← Hw2.out, ← Hb.out, ← Hs1.out]; exact ⟨heap_alloc_new w1 _, by simp⟩⟩
  refine ⟨trivial, ?_⟩
  refine (callsIn_wide.2 (HS.out _ HB2.out)).mono ?_
  rintro e w3 ⟨rfl, n3, ew3⟩
  have HB3 : Hid (Below w.heap.size w w3) := ⟨by rw [ew3]; exact below_drewN HB2.out n3⟩
  have Hx3 : Hid (w3.heap[b]? = some (.cells #[.slice none 0 0] 37 (0, 0)) ∧ w3.heap.size = b + 1) := ⟨by rw [ew3]; exact Hx2.out⟩
  clear ew3
  have t4 := pieces_any (w := w3) p (fr : Int) (lf : Int)
  rw [Hx3.out.2] at t4
  obtain ⟨w4, Hw4⟩ : ∃ x, Hid (((w3.alloc (.cells #[.pointer (some ⟨p, 0, none⟩)] 23)).alloc (.cells #[.int .i64 (fr : Int)] 3)).alloc (.cells #[.int .i64 (lf : Int)] 3) = x) := ⟨_, ⟨rfl⟩⟩
  rw [Hw4.out] at t4
  have HC4 : Hid (Below w3.heap.size w3 w4) := ⟨by rw [← Hw4.out]; exact (((Below.refl _ w3).alloc (Nat.le_refl _) _).alloc (by simp) _).alloc (by simp; omega) _⟩
  have HB4 : Hid (Below w.heap.size w w4) := ⟨HB3.out.trans (HC4.out.mono HB3.out.size)⟩
  have Hs4 : Hid (w4.heap.size = b + 1 + 3) := ⟨by rw [← Hw4.out]; simp [Hx3.out.2]⟩
  have Hq0 : Hid (w4.cell? ⟨b + 1, 0, none⟩ = some (.pointer (some ⟨p, 0, none⟩))) := ⟨by
    have h1 := heap_alloc_new w3 (.cells #[.pointer (some ⟨p, 0, none⟩)] 23)
    have h2 := ((((Below.refl _ (w3.alloc (.cells #[.pointer (some ⟨p, 0, none⟩)] 23))).alloc (Nat.le_refl _) (.cells #[.int .i64 (fr : Int)] 3)).alloc (by simp) (.cells #[.int .i64 (lf : Int)] 3)).block w3.heap.size (by simp)).trans h1
    rw [Hw4.out, Hx3.out.2] at h2
    rw [cell_of_row _ _ _ _ _ _ h2]
    rfl⟩
  have Hq1 : Hid (w4.cell? ⟨b + 1 + 1, 0, none⟩ = some (.int .i64 (fr : Int))) := ⟨by
    have h1 := heap_alloc_new (w3.alloc (.cells #[.pointer (some ⟨p, 0, none⟩)] 23)) (.cells #[.int .i64 (fr : Int)] 3)
    rw [World.size_alloc] at h1
    have h2 := (((Below.refl _ ((w3.alloc (.cells #[.pointer (some ⟨p, 0, none⟩)] 23)).alloc (.cells #[.int .i64 (fr : Int)] 3))).alloc (Nat.le_refl _) (.cells #[.int .i64 (lf : Int)] 3)).block (w3.heap.size + 1) (by simp)).trans h1
    rw [Hw4.out, Hx3.out.2] at h2
    rw [cell_of_row _ _ _ _ _ _ h2]
    rfl⟩
  have Hq2 : Hid (w4.heap[b + 1 + 2]? = some (.cells #[.int .i64 (lf : Int)] 3 (0, 0))) := ⟨by
    rw [← Hw4.out]
    have := heap_alloc_new ((w3.alloc (.cells #[.pointer (some ⟨p, 0, none⟩)] 23)).alloc (.cells #[.int .i64 (fr : Int)] 3)) (.cells #[.int .i64 (lf : Int)] 3)
    simp only [World.size_alloc, Hx3.out.2] at this
    exact this⟩
  have Hx4 : Hid (w4.heap[b]? = some (.cells #[.slice none 0 0] 37 (0, 0))) := ⟨(HC4.out.block b (by rw [Hx3.out.2]; omega)).trans Hx3.out.1⟩
  have HSq := Hid.mk (pieces_seq (w := w4) HR.out fr lf (by rw [HZ.out]; exact Hfl.out) (b + 1) p b (HX.out.below HB4.out) (fun h0 k hk => by have := HrL.out h0 k hk; have := Hb.out; omega) Hq0.out Hq1.out Hq2.out (by have := HpL.out; have := Hb.out; omega) (by omega))
  rw [HT.out] at HSq
  gi_wp2_with fail
  refine ⟨trivial, ?_⟩
  refine (callsIn_wide.2 t4).mono ?_
  rintro e wx ⟨rfl, ex⟩
  rw [ex]
  clear ex wx t4
  gi_wp2
  refine range_all rfl (by decide) (gf := 47) (lb := #[.pointer (some ⟨b + 1, 0, none⟩), .pointer (some ⟨b + 1 + 1, 0, none⟩), .pointer (some ⟨b + 1 + 2, 0, none⟩)]) rfl trivial (enters_of Try.func47 (by kernel_rfl) rfl) HSq.out (by rw [Hs4.out]; omega) (fun _ => rfl) (fun h k => KpB.trans h k) (KpB.put (by rw [Hs4.out]; omega))
    (InvC w b (b + 4))
    (fun pre x act A => ∃ pb, act = { tmps := #[.pointer (some ⟨p, 0, none⟩), .int .i64 (fr : Int), .int .i64 n, undef, undef, undef, .slice none 0 0, .int .i64 0, .pointer (some ⟨b, 0, none⟩), .pointer (some ⟨pb, 0, none⟩), .pointer (some ⟨p, 0, none⟩), .bool false, .int .i64 (fr : Int), .bool false, .bool false, .int .i64 (fr : Int), .pointer (some ⟨p, 0, none⟩), .int .i64 (Z : Int), .bool false, .bool false, .bool false, .int .i64 n, .bool false, .bool false, .pointer (some ⟨p, 0, none⟩), .int .i64 (fr : Int), .int .i64 n, .pointer (some ⟨p, 0, none⟩), .int .i64 (Z : Int), .int .i64 (fr : Int), .int .i64 ((Z : Int) - fr), .int .i64 (lf : Int), .func (.func 47) #[] #[.pointer (some ⟨b + 1, 0, none⟩), .pointer (some ⟨b + 1 + 1, 0, none⟩), .pointer (some ⟨b + 1 + 2, 0, none⟩)], .agg (pv x).toArray, undef, undef, undef, undef, undef], defers := [] } ∧ A.heap[pb]? = some (.cells (pv x).toArray 49 (0, 0)) ∧ InvC w b (b + 4) pre A)
    ?hIb ?hIo ?hIc ?hMo ?h0 ?hassign ?hbody ?hdone
  case hIb =>
    rintro pre A B ⟨⟨sl, h1, h2⟩, h3, h4⟩ hb
    exact ⟨⟨sl, (hb.block _ (Array.getElem?_eq_some_iff.1 h1).1).trans h1, h2.far (Chg.ofBelow (X := []) hb) (by simp)⟩, h3.trans (hb.mono h3.size), Nat.le_trans h4 hb.size⟩
  case hIo => exact fun pre A l o h hl hx => InvC.put h (by have := Hs4.out; have := Hb.out; omega) hx
  case hIc =>
    rintro pre A v ⟨⟨sl, h1, h2⟩, h3, h4⟩
    have hc := (Chg.refl [b + 1 + 2] A).setCell (a := ⟨b + 1 + 2, 0, none⟩) (.inl (by simp)) v
    exact ⟨⟨sl, (hc.block _ (Array.getElem?_eq_some_iff.1 h1).1 (by simp; omega)).trans h1, h2.far hc (fun g hg hm => by simp at hm; have := (h2.lt g hg).1; omega)⟩, h3.setCell (p := ⟨b + 1 + 2, 0, none⟩) (by have := Hb.out; simp; omega) _, by simpa using h4⟩
  case hMo =>
    rintro pre x act A l o ⟨pb, rfl, h1, h2⟩ hl hx
    refine ⟨pb, rfl, (World.putObj_heap_other (fun e => ?_)).trans h1, InvC.put h2 (by have := Hs4.out; have := Hb.out; omega) hx⟩
    obtain ⟨y, hy, hyc⟩ := hx
    rw [e, hy] at h1
    cases h1
    cases hyc
  case h0 => exact ⟨⟨_, Hx4.out, OwnE.nil _ _ _ _ _⟩, HB4.out, by have := Hs4.out; omega⟩
  case hassign =>
    intro l pre x W hI hlen
    have HI := Hid.mk hI
    have hM := hI.2.2
    simp only [pv]
    gi_wp2
    have hb1 : Below W.heap.size W (W.alloc (.cells #[.int .i64 (x.i : Int), .int .i64 (x.f : Int), .int .i64 (x.n : Int)] 49)) := (Below.refl _ W).alloc (Nat.le_refl _) _
    refine ⟨⟨hb1.size, fun k o _ hk _ => (hb1.block k (Array.getElem?_eq_some_iff.1 hk).1).trans hk⟩, KpB.of (Chg.ofBelow (X := []) hb1) (by omega) (by simp), W.heap.size, rfl, heap_alloc_new W _, ?_⟩
    obtain ⟨⟨sl, h1, h2⟩, h3, h4⟩ := HI.out
    exact ⟨⟨sl, (hb1.block _ (Array.getElem?_eq_some_iff.1 h1).1).trans h1, h2.far (Chg.ofBelow (X := []) hb1) (by simp)⟩, h3.trans (hb1.mono h3.size), Nat.le_trans h4 hb1.size⟩
  case hbody =>
    rintro l pre x act W ⟨pb, rfl, h1, ⟨sl, h2, h3⟩, h4, h5⟩ hlen
    have c1 := (Boxed.cell (show Boxed W b 37 sl from h2))
    obtain ⟨sa, sc, es, _⟩ := (h3.rd ⟨0, 0, 0⟩).shape
    subst es
    simp only [pv] at h1
    have d0 : W.cell? ⟨pb, 0, none⟩ = some (.int .i64 (x.i : Int)) := by rw [cell_of_row _ _ _ _ _ _ h1]; rfl
    have d1 : W.cell? ⟨pb, 1, none⟩ = some (.int .i64 (x.f : Int)) := by rw [cell_of_row _ _ _ _ _ _ h1]; rfl
    have d2 : W.cell? ⟨pb, 2, none⟩ = some (.int .i64 (x.n : Int)) := by rw [cell_of_row _ _ _ _ _ _ h1]; rfl
    obtain ⟨V, HV⟩ : ∃ V, Hid (W.alloc (.cells #[.int .i64 (x.i : Int), .int .i64 (x.f : Int), .int .i64 (x.n : Int)] 49) = V) := ⟨_, ⟨rfl⟩⟩
    have HBV : Hid (Below W.heap.size W V) := ⟨by rw [← HV.out]; exact (Below.refl _ W).alloc (Nat.le_refl _) _⟩
    have HRV : Hid (RdE pv 3 ⟨0, 0, 0⟩ V (.slice (some ⟨W.heap.size, 0, none⟩) 1 1) [x]) := ⟨by rw [← HV.out]; exact rde_one W x rfl (by intro u hu; simp [pv] at hu; rcases hu with rfl | rfl | rfl <;> rfl) 49⟩
    have HOV : Hid (OwnE pv 3 49 V (b + 4) (.slice sa pre.length sc) pre) := ⟨h3.far (Chg.ofBelow (X := []) HBV.out) (by simp)⟩
    have HbV : Hid (V.heap[b]? = some (.cells #[.slice sa pre.length sc] 37 (0, 0))) := ⟨(HBV.out.block _ (Array.getElem?_eq_some_iff.1 h2).1).trans h2⟩
    have HB4' : Hid (Below w.heap.size w V) := ⟨h4.trans (HBV.out.mono h4.size)⟩
    have H5 := Hid.mk h5
    have hl1 : (pre.length + [x].length) * 24 ≤ 140737488355328 := by simp; omega
    have hl2 : pre.length + [x].length ≤ maxLen := by unfold maxLen; simp; omega
    have hl3 : b + 4 ≤ V.heap.size := Nat.le_trans h5 HBV.out.size
    have HKV : Hid (KpB (b + 1 + 3) b W V) := ⟨KpB.of (Chg.ofBelow (X := []) HBV.out) (by omega) (by simp)⟩
    clear h1 h2 h3 h4 h5
    obtain ⟨k, Hk⟩ : ∃ k, Hid (pre.length = k) := ⟨_, ⟨rfl⟩⟩
    have HL : Hid (pre.length = k) := Hk
    simp only [Hk.out] at HOV HbV c1
    have HnA : Hid (∀ A, Chg (ob (.slice sa k sc)) V A → A.heap[b]? = some (.cells #[.slice sa k sc] 37 (0, 0))) := ⟨fun A hA => (hA.block b (Array.getElem?_eq_some_iff.1 HbV.out).1 (fun hm => by have := (HOV.out.lt b hm).1; omega)).trans HbV.out⟩
    gi_wp2_with (rw [HV.out]; refine wpi_appE (f := pv) (d := ⟨0, 0, 0⟩) eltP rfl (.tmp 34) (.tmp 36) rfl rfl HOV.out rfl HRV.out hl1 hl2 hl3 ?_; intro v6 w6 hO6 hG6 hV6; obtain ⟨a6, c6, e6, _⟩ := (hO6.rd ⟨0, 0, 0⟩).shape; subst e6; obtain ⟨k6, Hk6⟩ : ∃ k, Hid ((pre ++ [x]).length = k) := ⟨_, ⟨rfl⟩⟩; rw [Hk6.out] at hO6 hV6 ⊢; have HG6 : Hid (Chg (ob (.slice sa k sc)) V w6) := ⟨hG6⟩; have Hb6 := Hid.mk (HnA.out w6 HG6.out); have hc6 := Boxed.cell (show Boxed w6 b 37 (.slice sa k sc) from Hb6.out); have hf6 := Boxed.frozen (show Boxed w6 b 37 (.slice sa k sc) from Hb6.out); have HO6 := Hid.mk hO6; clear hO6 hG6 hV6)
    have hcs := (Chg.refl [b] w6).setCell (a := ⟨b, 0, none⟩) (.inl (by simp)) (.slice a6 k6 c6)
    have hx6 : ∀ g ∈ ob (Value.slice a6 k6 c6), g ∉ [b] := fun g hg hm => by simp at hm; have := (HO6.out.lt g hg).1; omega
    have hown : ∀ g ∈ ob (Value.slice sa k sc), b + 4 ≤ g := fun g hg => (HOV.out.lt g hg).1
    have hWb := H5.out
    have hVW := HBV.out.size
    refine ⟨?_, ?_, ⟨⟨_, Boxed.set (.slice a6 k6 c6) (show Boxed w6 b 37 (.slice sa k sc) from Hb6.out), HO6.out.far hcs hx6⟩, ?_, ?_⟩⟩
    · refine ⟨Nat.le_trans hVW (Nat.le_trans HG6.out.size hcs.size), fun g o hB hg ho => ?_⟩
      have hg0 := (Array.getElem?_eq_some_iff.1 hg).1
      have hs4 := Hs4.out
      have e1 := (HBV.out.block g hg0).trans hg
      have e2 := (HG6.out.block g (Nat.lt_of_lt_of_le hg0 hVW) (fun hm => by
        obtain ⟨cs, hcs'⟩ := HOV.out.ty g hm
        rw [e1] at hcs'
        cases hcs'
        cases ho)).trans e1
      exact (hcs.block g (Array.getElem?_eq_some_iff.1 e2).1 (by simp; omega)).trans e2
    · exact HKV.out.trans ((KpB.of HG6.out (by omega) (fun g hg => .inr (by have := hown g hg; omega))).trans (KpB.of hcs (by have := HG6.out.size; omega) (by simp)))
    · exact (HB4'.out.trans (HG6.out.below HB4'.out.size (fun g hg => by have := hown g hg; have := Hb.out; omega))).setCell (p := ⟨b, 0, none⟩) (by have := Hb.out; simp; omega) _
    · have := HG6.out.size
      have := hcs.size
      omega
  case hdone =>
    rintro D xs W hD rfl ⟨⟨sl, h1, h2⟩, h3, h4⟩ hK
    have c1 := (Boxed.cell (show Boxed W b 37 sl from h1))
    obtain ⟨sa, sc, es, _⟩ := (h2.rd ⟨0, 0, 0⟩).shape
    subst es
    gi_wp2
    refine ⟨by simp, .inl ⟨_, _, rfl, run_takeDeferred hK, ?_⟩⟩
    have hc := chg_put W D (.deferred none)
    have hDb : b + 4 ≤ D := by have := Hs4.out; omega
    refine ⟨_, results_tmp2 rfl _ _ _, _, rfl, (h2.far hc (fun g hg hm => ?_)).base (by have := Hb.out; omega), h3.trans (hc.below h3.size (by have := Hb.out; simp; omega))⟩
    simp at hm
    subst hm
    obtain ⟨cs, hcs⟩ := h2.ty g hg
    rw [hK] at hcs
    cases hcs
end
end Go.Proofs.Ytkkcdmdkjedkjaa
