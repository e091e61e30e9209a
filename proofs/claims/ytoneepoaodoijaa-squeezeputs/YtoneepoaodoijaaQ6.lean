/- What was squeezed: Take. -/
import Derived.Lib.MinMax
import Derived.Test.YtoneepoaodoijaaQ5
namespace Go.Proofs.Ytoneepoaodoijaa
open Go.RowKit Go.Lib Go.Shelf Oct

theorem results_cell2 {P : Program} {fn : Func} {p u : Tmp} {ty tu : TypeId} (h : fn.results = #[.cell p ty, .cell u tu]) (tmps : Array Value) (w : World) {a b : Addr} {x y : Value}
    (hp : tmps.getD p undef = .pointer (some a)) (hu : tmps.getD u undef = .pointer (some b)) (hx : (loadVar ty a).run P w = .ok x w) (hy : (loadVar tu b).run P w = .ok y w) :
    (results fn tmps).run P w = .ok (.tuple #[x, y]) w := by
  have hp' : tmps[p]?.getD undef = .pointer (some a) := by simpa using hp
  have hu' : tmps[u]?.getD undef = .pointer (some b) := by simpa using hu
  simp [results, h, hp', hu', asAddr, hx, hy]
theorem load_22 {w : World} {b : Nat} {v : Value} (h : w.cell? ⟨b, 0, none⟩ = some v) : (loadVar 22 ⟨b, 0, none⟩).run Try.prog w = .ok v w := by
  have h1 : (isAgg 22).run Try.prog w = .ok false w := by kernel_rfl
  simp [loadVar, h1, load, Sem.run, h]
theorem load_24 {w : World} {b : Nat} {v : Value} (h : w.cell? ⟨b, 0, none⟩ = some v) : (loadVar 24 ⟨b, 0, none⟩).run Try.prog w = .ok v w := by
  have h1 : (isAgg 24).run Try.prog w = .ok false w := by kernel_rfl
  simp [loadVar, h1, load, Sem.run, h]
/-- Between two rounds: the box has what the pieces told so far. -/
def InvT (M q : Nat) (w5 w : World) (b : List Int) (mo : Int) (k : Nat) (A : World) : Prop := KpX M [q] w5 A ∧ Below w.heap.size w A ∧ M ≤ A.heap.size ∧ Good b mo k ∧ ∃ pv, A.heap[q]? = some (.cells #[pv] 22 (0, 0)) ∧ OwnY A M pv (told b k)
theorem InvT.below {M q : Nat} {w5 w A C : World} {b : List Int} {mo : Int} {k : Nat} (h : InvT M q w5 w b mo k A) (hb : Below A.heap.size A C) (_hq : q < M) : InvT M q w5 w b mo k C := by
  obtain ⟨h1, h2, h3, h4, pv, h5, h6⟩ := h
  exact ⟨h1.trans (KpX.of (Chg.ofBelow (X := []) hb) h3 (by simp)), h2.trans (hb.mono h2.size), Nat.le_trans h3 hb.size, h4, pv, (hb.block q (Array.getElem?_eq_some_iff.1 h5).1).trans h5, own_far h6 (Chg.ofBelow (X := []) hb) (by simp)⟩
theorem InvT.put {M q : Nat} {w5 w A : World} {b : List Int} {mo : Int} {k : Nat} (h : InvT M q w5 w b mo k A) {l : Nat} {o : Obj} (hl : M ≤ l) (hx : ∃ x : Obj, A.heap[l]? = some x ∧ x.isCells = false) (hq : w.heap.size ≤ M ∧ q < M) : InvT M q w5 w b mo k (A.putObj l o) := by
  obtain ⟨h1, h2, h3, h4, pv, h5, h6⟩ := h
  exact ⟨h1.trans ⟨by simp, fun j hj _ => World.putObj_heap_other (by omega)⟩, h2.trans ((chg_put A l o).below h2.size (by simp; omega)), by simpa using h3, h4, pv, (World.putObj_heap_other (by omega)).trans h5, OwnY.put h6 hx⟩
/-- Where a round ended the call. -/
def OutT (q : Nat) (w : World) (b : List Int) (mo : Int) (A : World) : Prop := Below w.heap.size w A ∧ q + 2 < A.heap.size ∧ ∃ k, Good b mo k ∧ pos b k < b.length ∧ err b mo k ≠ 0 ∧ A.heap[q + 1]? = some (.cells #[.slice none 0 0] 22 (0, 0)) ∧ A.heap[q + 2]? = some (.cells #[.int .i64 (err b mo k)] 24 (0, 0))
/-- What Take answers. -/
def TkV (w' : World) (base : Nat) (b : List Int) (mo : Int) (e : Ending) : Prop := ∃ (a : Option Addr) (n c : Nat) (z : Int) (p : List Int), e = .returned (.tuple #[.slice a n c, .int .i64 z]) ∧ TkR b mo p z ∧ OwnY w' base (.slice a n c) p
theorem alloc_heap (w : World) (o : Obj) : (w.alloc o).heap = w.heap.push o := rfl
theorem mem5 {w w5 : World} {o0 o1 o2 o3 o4 : Obj} (h : ((((w.alloc o0).alloc o1).alloc o2).alloc o3).alloc o4 = w5) :
    w5.heap[w.heap.size]? = some o0 ∧ w5.heap[w.heap.size + 1]? = some o1 ∧ w5.heap[w.heap.size + 2]? = some o2 ∧ w5.heap[w.heap.size + 3]? = some o3 ∧ w5.heap[w.heap.size + 4]? = some o4 ∧ w5.heap.size = w.heap.size + 5 ∧ Below w.heap.size w w5 := by
  subst h
  refine ⟨stay_alloc _ (stay_alloc _ (stay_alloc _ (stay_alloc _ (new_alloc _ rfl)))), stay_alloc _ (stay_alloc _ (stay_alloc _ (new_alloc _ (by simp)))), stay_alloc _ (stay_alloc _ (new_alloc _ (by simp))), stay_alloc _ (new_alloc _ (by simp)), new_alloc _ (by simp), by simp, ((((((Below.refl _ w).alloc (Nat.le_refl _) _).alloc (by simp) _).alloc (by simp; omega) _).alloc (by simp; omega) _).alloc (by simp; omega) _)⟩
section
variable {w : World}
attribute [local go_sem] Oper.semAt_some
set_option maxHeartbeats 8000000 in
set_option maxRecDepth 100000 in
theorem take12 (v : Value) (b : List Int) (most : Int) (hv : RdY w v b) (hb : By b) (hm0 : -9223372036854775808 ≤ most ∧ most ≤ 9223372036854775807) :
    Calls Try.prog 12 #[v, .int .i64 most] w fun e w' => TkV w' w.heap.size b (min most 8192) e ∧ Below w.heap.size w w' := by
  obtain ⟨va, vc, rfl, h1, h2, _⟩ := hv.shape
  obtain ⟨mo, Hmo⟩ : ∃ m, Hid (min most 8192 = m) := ⟨_, ⟨rfl⟩⟩
  have hmo : -9223372036854775808 ≤ mo ∧ mo ≤ 8192 := by rw [← Hmo.out]; omega
  have hmin : min most 8192 = mo := Hmo.out
  rw [Hmo.out]
  have HV0 := Hid.mk hv
  have HBy := Hid.mk hb
  obtain ⟨n, Hn⟩ : ∃ n, Hid (b.length = n) := ⟨_, ⟨rfl⟩⟩
  rw [Hn.out] at h1 HV0 ⊢
  clear hv hb
  refine (callsIn_wide (n := 10)).1 ?_
  refine callsIn_of_wp_marks Try.func12 rfl trivial ?_ rfl
  simp only [Try.ntmps12, List.size_toArray, List.length_cons, List.length_nil, Nat.reduceAdd, Nat.reduceSub, Array.replicate_succ, Array.replicate_zero, List.push_toArray, List.append_toArray, List.nil_append, List.cons_append]
  gi_wp2_with fail
  refine ⟨trivial, ?_⟩
  refine (callsIn_wide.2 (laid19 _ ⟨_, _, _, rfl⟩)).mono ?_
  rintro e w5 ⟨rfl, hw5⟩
  have HM := Hid.mk (mem5 hw5.symm)
  obtain ⟨q, Hq⟩ : ∃ q, Hid (w.heap.size = q) := ⟨_, ⟨rfl⟩⟩
  have hsz : ((((w.alloc (.cells #[.int .i64 mo] 3)).alloc (.cells #[.slice none 0 0] 22)).alloc (.cells #[.int .i64 0] 24)).alloc (.cells #[.slice none 0 0] 22)).heap.size = q + 4 := by rw [← Hq.out]; simp
  rw [hsz]
  rw [Hq.out] at HM ⊢
  have HB05 : Hid (Below w.heap.size w w5) := ⟨by rw [Hq.out]; exact HM.out.2.2.2.2.2.2⟩
  have HS5 : Hid (w5.heap.size = q + 5) := ⟨HM.out.2.2.2.2.2.1⟩
  clear hw5 hsz
  have HV5 : Hid (∀ A, KpX (q + 5) [q + 3] w5 A → RdY A (.slice va n vc) b ∧ A.heap[q]? = some (.cells #[.int .i64 mo] 3 (0, 0)) ∧ A.heap[q + 1]? = some (.cells #[.slice none 0 0] 22 (0, 0)) ∧ A.heap[q + 2]? = some (.cells #[.int .i64 0] 24 (0, 0))) := ⟨fun A hA => by
    have hs := HS5.out
    refine ⟨RdY.keep (HV0.out.far (Chg.ofBelow (X := []) HB05.out) (by simp)) hA (by omega) (fun h0 k hk => ?_), (hA.2 q (by omega) (by simp)).trans HM.out.1, (hA.2 (q + 1) (by omega) (by simp)).trans HM.out.2.1, (hA.2 (q + 2) (by omega) (by simp)).trans HM.out.2.2.1⟩
    have h3 := (RdY.lt HV0.out h0 k hk).1
    have := Hq.out
    simp
    omega⟩
  have HSQ : Hid (SeqX Fence.wide 9 Try.prog 28 #[.pointer (some ⟨q + 4, 0, none⟩)] encq (KpX (q + 5) [q + 3]) (fun xs => b.length ≤ pos b xs.length ∨ ∃ j, j < xs.length ∧ (tkP b (pos b j)).2.2 ≠ 0)
      (fun pre x A => q + 5 ≤ A.heap.size ∧ KpX (q + 5) [q + 3] w5 A ∧ IsPc A (.slice va n vc) b pre.length x) w5) := ⟨fun l J Jx W hW hJb hXb hY hj0 => by
    have hs5 := HS5.out
    have hKW : KpX (q + 5) [q + 3] w5 W := KpX.of (Chg.ofBelow (X := []) hW) (by omega) (by simp)
    exact laid28_x (.slice va n vc) b l (q + 4) (q + 5) [q + 3] J Jx W (fun A hA => (HV5.out A (hKW.trans hA)).1) HBy.out ((hW.block (q + 4) (by omega)).trans HM.out.2.2.2.2.1) (by omega) (by simp) (by have := hW.size; omega) hJb
      (fun pre x A hJ hE => hY pre x A hJ ⟨hE.1, hKW.trans hE.2.1, hE.2.2⟩) hj0⟩
  gi_wp2
  refine range_x rfl (by decide) (gf := 28) (lb := #[.pointer (some ⟨q + 4, 0, none⟩)]) rfl trivial (enters_of Try.func28 (by kernel_rfl) rfl) HSQ.out (fun _ => rfl) (fun h k => KpX.trans h k) (KpX.put (by have := HS5.out; omega))
    (fun pre A => InvT (q + 5) (q + 3) w5 w b mo pre.length A)
    (fun c _ A => c = .ret ∧ OutT q w b mo A)
    (fun pre y act A => ∃ B7, act = { tmps := #[.slice va n vc, .int .i64 most, undef, .pointer (some ⟨q, 0, none⟩), .pointer (some ⟨q + 1, 0, none⟩), .pointer (some ⟨q + 1 + 1, 0, none⟩), .pointer (some ⟨q + 1 + 1 + 1, 0, none⟩), .pointer (some ⟨B7, 0, none⟩), .int .i64 y.2.2.2, .int .i64 most, .int .i64 mo, .slice va n vc, .func (.func 28) #[] #[.pointer (some ⟨q + 4, 0, none⟩)], pcv y.1.1 y.1.2.1 y.1.2.2 y.2.1 y.2.2.1, .int .i64 y.2.2.2, undef, undef, undef, undef, undef, undef, undef, undef, undef, undef, undef, undef, undef, undef, undef, undef, undef, undef], defers := [] } ∧ InvT (q + 5) (q + 3) w5 w b mo pre.length A ∧ IsPc A (.slice va n vc) b pre.length y ∧ q + 5 ≤ B7 ∧ A.heap[B7]? = some (.cells #[.slice y.1.1 y.1.2.1 y.1.2.2, .int .i64 (y.2.1 : Int), .int .i64 (y.2.2.1 : Int)] 38 (0, 0)))
    ?hIb ?hIo ?hXb ?hXo ?hMo ?h0 ?hassign ?hbody ?hdone ?hstop
  case hIb => exact fun pre A C h hb => h.below hb (by omega)
  case hIo => exact fun pre A l o h hl hx => h.put (by have := HS5.out; omega) hx (by have := Hq.out; omega)
  case hXb =>
    rintro c pre A C ⟨h1, h2, h3, k, h4, h5, h6, h7, h8⟩ hb
    exact ⟨h1, h2.trans (hb.mono h2.size), Nat.lt_of_lt_of_le h3 hb.size, k, h4, h5, h6, (hb.block _ (by omega)).trans h7, (hb.block _ (by omega)).trans h8⟩
  case hXo =>
    rintro c pre A l o ⟨h1, h2, h3, k, h4, h5, h6, h7, h8⟩ hl hx
    have hs := HS5.out
    exact ⟨h1, h2.trans ((chg_put A l o).below h2.size (by have := HB05.out.size; simp; omega)), by simpa using h3, k, h4, h5, h6, (World.putObj_heap_other (by omega)).trans h7, (World.putObj_heap_other (by omega)).trans h8⟩
  case hMo =>
    rintro pre y act A l o ⟨B7, h1, h2, h3, h4, h5⟩ hl hx
    refine ⟨B7, h1, h2.put (by have := HS5.out; omega) hx (by have := Hq.out; omega), h3.put hx, h4, (World.putObj_heap_other (fun e => ?_)).trans h5⟩
    subst e
    obtain ⟨x, hx1, hx2⟩ := hx
    rw [h5] at hx1
    cases hx1
    cases hx2
  case h0 => exact ⟨KpX.refl _ _ _, HB05.out, by have := HS5.out; omega, fun j hj => by simp at hj, _, HM.out.2.2.2.1, owny_nil _ _⟩
  case hassign =>
    rintro l pre y W hI ⟨e1, e2, e3⟩
    have HI := Hid.mk hI
    have HE := Hid.mk e3
    obtain ⟨⟨ya, yn, yc⟩, yf, ym, ye⟩ := y
    simp only [encq, pcv]
    clear hI e1 e2 e3
    gi_wp2
    have hba : Below W.heap.size W (W.alloc (.cells #[.slice ya yn yc, .int .i64 (yf : Int), .int .i64 (ym : Int)] 38)) := (Below.refl _ W).alloc (Nat.le_refl _) _
    exact ⟨⟨hba.size, fun k' o _ hk' _ => stay_alloc _ hk'⟩, KpX.of (Chg.ofBelow (X := []) hba) HI.out.2.2.1 (by simp), W.heap.size, rfl, HI.out.below hba (by omega), HE.out.below hba, HI.out.2.2.1, heap_alloc_new W _⟩
  case hbody =>
    rintro l pre ⟨⟨ya, yn, yc⟩, yf, ym, ye⟩ act W ⟨B7, rfl, hI, hP, hB7, hX7⟩ hl hr
    obtain ⟨k, Hk⟩ : ∃ k, Hid (pre.length = k) := ⟨_, ⟨rfl⟩⟩
    have Hk1 : Hid ((pre ++ [(((ya, yn, yc), yf, ym, ye) : Yq)]).length = k + 1) := ⟨by rw [List.length_append, Hk.out]; rfl⟩
    rw [Hk.out] at hI hP
    obtain ⟨i1, i2, i3, i4, pv, i5, i6⟩ := hI
    obtain ⟨x1, x2, x3, x4⟩ := HV5.out W i1
    have hPl := hP.lt
    have hPf := hP.far
    have hPn := hP.n
    have hPe := hP.e
    have hPr := hP.rd
    simp only at hPf hPn hPe hPr
    obtain ⟨pa, pc, epv, hpc, hpcm, _⟩ := i6.shape
    subst epv
    obtain ⟨_, _, eyn, _⟩ := hPr.shape
    simp only [Value.slice.injEq] at eyn
    have heyn : yn = (tkP b (pos b k)).1.pl.length := eyn.2.1
    obtain ⟨pn, Hpn⟩ : ∃ n, Hid ((told b k).length = n) := ⟨_, ⟨rfl⟩⟩
    rw [Hpn.out] at i5 i6 hpc
    have d0 : W.cell? ⟨B7, 0, none⟩ = some (.slice ya yn yc) := by rw [cell_of_row _ _ _ _ _ _ hX7]; rfl
    have d1 : W.cell? ⟨B7, 1, none⟩ = some (.int .i64 (yf : Int)) := by rw [cell_of_row _ _ _ _ _ _ hX7]; rfl
    have d2 : W.cell? ⟨B7, 2, none⟩ = some (.int .i64 (ym : Int)) := by rw [cell_of_row _ _ _ _ _ _ hX7]; rfl
    have d3 : W.cell? ⟨q + 1 + 1 + 1, 0, none⟩ = some (.slice pa pn pc) := by rw [cell_of_row _ _ _ _ _ _ i5]; rfl
    have d4 : W.cell? ⟨q, 0, none⟩ = some (.int .i64 mo) := by rw [cell_of_row _ _ _ _ _ _ x2]; rfl
    have d5 : W.cell? ⟨q + 1, 0, none⟩ = some (.slice none 0 0) := by rw [cell_of_row _ _ _ _ _ _ x3]; rfl
    have d6 : W.cell? ⟨q + 1 + 1, 0, none⟩ = some (.int .i64 0) := by rw [cell_of_row _ _ _ _ _ _ x4]; rfl
    have f5 : W.frozen? ⟨q + 1, 0, none⟩ = false := frozen_of_row W (q + 1) 0 _ 22 x3
    have f6 : W.frozen? ⟨q + 1 + 1, 0, none⟩ = false := frozen_of_row W (q + 2) 0 _ 24 x4
    have HI1 := Hid.mk i1
    have HI2 := Hid.mk i2
    have HI4 := Hid.mk i4
    have HI5 := Hid.mk i5
    have HI6 := Hid.mk i6
    have HX3 := Hid.mk x3
    have HX4 := Hid.mk x4
    have HX7 := Hid.mk hX7
    have HPl := Hid.mk hPl
    have HPr := Hid.mk hPr
    have HS := HS5.out
    have hq0 := Hq.out
    -- where the round ends the call
    have HSt : Hid (∀ (V : World) (z : Int), Below W.heap.size W V → err b mo k = z → z ≠ 0 → ownPostG w5.heap.size (KpX (q + 5) [q + 3]) (fun pre A => InvT (q + 5) (q + 3) w5 w b mo pre.length A) (fun c _ A => c = .ret ∧ OutT q w b mo A) (pre ++ [(((ya, yn, yc), yf, ym, ye) : Yq)]) W .ret { tmps := #[], defers := [] } ((V.setCell ⟨q + 1, 0, none⟩ (.slice none 0 0)).setCell ⟨q + 1 + 1, 0, none⟩ (.int .i64 z))) := ⟨fun V z hV hz hz0 => by
      have y3 : Boxed V (q + 1) 22 (.slice none 0 0) := (hV.block _ (Array.getElem?_eq_some_iff.1 HX3.out).1).trans HX3.out
      have y4 : Boxed V (q + 2) 24 (.int .i64 0) := (hV.block _ (Array.getElem?_eq_some_iff.1 HX4.out).1).trans HX4.out
      have g1 := Boxed.set (.slice none 0 0) y3
      have g2 := Boxed.set (.int .i64 z) (Boxed.other y4 (B' := q + 1) (by omega) (.slice none 0 0))
      have g3 := Boxed.other g1 (B' := q + 2) (by omega) (.int .i64 z)
      have hcc := ((Chg.refl [q + 1, q + 2] V).setCell (a := ⟨q + 1, 0, none⟩) (.inl (by simp)) (.slice none 0 0)).setCell (a := ⟨q + 1 + 1, 0, none⟩) (.inl (by simp)) (.int .i64 z)
      have hVs := hV.size
      have hws := HI2.out.size
      refine ⟨⟨Nat.le_trans hVs hcc.size, fun k' o hk0 hk' _ => (hcc.block k' (Nat.lt_of_lt_of_le (Array.getElem?_eq_some_iff.1 hk').1 hVs) (by simp; omega)).trans ((hV.block k' (Array.getElem?_eq_some_iff.1 hk').1).trans hk')⟩, rfl, (HI2.out.trans (hV.mono hws)).trans (hcc.below (by omega) (by simp; omega)), by have := hcc.size; omega, k, HI4.out, HPl.out, by rw [hz]; exact hz0, g3, by rw [hz]; exact g2⟩⟩
    clear i1 i2 i4 i5 i6 x1 x2 x3 x4 hP hX7 hr eyn hPl hPr
    by_cases he : ye = 0
    · subst he
      have hTk := tkP_ok HBy.out HPl.out hPe.symm
      rw [← hPf, ← hPn, ← heyn] at hTk
      have hgt := HI4.out.tle HBy.out
      have hah : pn = 0 ∨ (pn : Int) ≤ mo := by
        rw [← Hpn.out]
        rcases hgt.2 with h | h
        · subst h; exact .inl rfl
        · exact .inr h
      have hck : (if yn = 0 ∧ (yf = 0 ∨ pn < yf) then (2 : Int) else if mo - (pn : Int) < (yn : Int) + ym then 6 else 0) = err b mo k := by
        have e1 : err b mo k = ckP (tkP b (pos b k)).1 (told b k).length mo := by unfold err; rw [if_neg (by rw [← hPe]; simp)]
        rw [e1, ckP, Hpn.out, Pc.size, ← hPf, ← heyn, ← hPn]
        simp only [Int.natCast_add]
      have t1 := check20 (w := W) ya yn yc yf ym pn mo (by omega) hTk.2.2.1 hmo hah
      rw [hck] at t1
      obtain ⟨cv, Hcv⟩ : ∃ c, Hid (err b mo k = c) := ⟨_, ⟨rfl⟩⟩
      rw [Hcv.out] at t1 hck
      unfold pcv at t1
      have HCk := Hid.mk hck
      have HTk := Hid.mk hTk
      have HAh := Hid.mk hah
      have HByt := Hid.mk hgt.1
      have HPE := Hid.mk hPe
      have HPF := Hid.mk hPf
      have HPN := Hid.mk hPn
      have HYN := Hid.mk heyn
      clear hTk hgt hck hah hPe hPf hPn heyn
      simp only [pcv]
      gi_wp2_with fail
      refine ⟨trivial, ?_⟩
      refine ((callsIn_wide.2 t1).inRound l).mono ?_
      rintro e V ⟨rfl, hV⟩
      have HV := Hid.mk hV
      have hlt3 : q + 1 + 1 + 1 < W.heap.size := by have := (Array.getElem?_eq_some_iff.1 HI5.out).1; omega
      have v0 : V.cell? ⟨B7, 0, none⟩ = some (.slice ya yn yc) := (hV.cell (p := ⟨B7, 0, none⟩) (World.block_lt_of_cell? _ _ d0)).trans d0
      have v1 : V.cell? ⟨B7, 1, none⟩ = some (.int .i64 (yf : Int)) := (hV.cell (p := ⟨B7, 1, none⟩) (World.block_lt_of_cell? _ _ d1)).trans d1
      have v2 : V.cell? ⟨B7, 2, none⟩ = some (.int .i64 (ym : Int)) := (hV.cell (p := ⟨B7, 2, none⟩) (World.block_lt_of_cell? _ _ d2)).trans d2
      have v3 : V.cell? ⟨q + 1 + 1 + 1, 0, none⟩ = some (.slice pa pn pc) := (hV.cell (p := ⟨q + 1 + 1 + 1, 0, none⟩) hlt3).trans d3
      have v5 : V.cell? ⟨q + 1, 0, none⟩ = some (.slice none 0 0) := (hV.cell (p := ⟨q + 1, 0, none⟩) (World.block_lt_of_cell? _ _ d5)).trans d5
      have v6 : V.cell? ⟨q + 1 + 1, 0, none⟩ = some (.int .i64 0) := (hV.cell (p := ⟨q + 1 + 1, 0, none⟩) (World.block_lt_of_cell? _ _ d6)).trans d6
      have g5 : V.frozen? ⟨q + 1, 0, none⟩ = false := frozen_of_row V (q + 1) 0 _ 22 ((hV.block _ (Array.getElem?_eq_some_iff.1 HX3.out).1).trans HX3.out)
      have g6 : V.frozen? ⟨q + 1 + 1, 0, none⟩ = false := frozen_of_row V (q + 2) 0 _ 24 ((hV.block _ (Array.getElem?_eq_some_iff.1 HX4.out).1).trans HX4.out)
      clear t1 hV d0 d1 d2 d3 d4 d5 d6 f5 f6
      by_cases hcv : cv = 0
      · subst hcv
        have hfar : ym = 0 ∨ (1 ≤ yf ∧ yf ≤ (told b k ++ (tkP b (pos b k)).1.pl).length) := by
          have h1 := HCk.out
          have h2 := HTk.out.2.2.2.2.2.2.1
          rw [List.length_append, Hpn.out, ← HYN.out]
          split at h1
          · simp at h1
          · omega
        have hlen : (told b k).length + (tkP b (pos b k)).1.pl.length + ym ≤ 1000000 := by
          have h1 := HTk.out
          have h2 := HAh.out
          rw [Hpn.out, ← HYN.out]
          omega
        have t2 := follow21 (w := V) ya yn yc yf ym (.slice pa pn pc) (told b k) (tkP b (pos b k)).1.pl (base := q + 5) (Rd.far HPr.out (Chg.ofBelow (X := []) HV.out) (by simp)) (own_far HI6.out (Chg.ofBelow (X := []) HV.out) (by simp)) (Nat.le_trans i3 HV.out.size) (HByt.out.app HTk.out.2.2.2.2.2.2.2) hfar hlen HTk.out.2.2.1
        have HNX : Hid (cpy yf ym (told b k ++ (tkP b (pos b k)).1.pl) = told b (k + 1)) := ⟨by rw [told, flw, HPF.out, HPN.out]⟩
        rw [HNX.out] at t2
        have HGd : Hid (Good b mo (k + 1)) := ⟨fun j hj => by
          by_cases e : j = k
          · subst e; exact ⟨HPl.out, Hcv.out⟩
          · exact HI4.out j (by omega)⟩
        unfold pcv at t2
        clear hfar hlen
        gi_wp2_with fail
        refine ⟨trivial, ?_⟩
        refine ((callsIn_wide.2 t2).inRound l).mono ?_
        rintro e V2 ⟨a2, n2, c2, rfl, hO2, hC2, hN2⟩
        have HO2 := Hid.mk hO2
        have HC2 := Hid.mk hC2
        have hpb : ∀ g ∈ ob (Value.slice pa pn pc), q + 5 ≤ g := fun g hg => (World.ownsRow.lt HI6.out g (mem_ob.1 hg)).1
        have HBx : Hid (Boxed V2 (q + 3) 22 (.slice pa pn pc)) := ⟨(hC2.block (q + 3) (by have := HV.out.size; omega) (fun hm => by have := hpb _ hm; omega)).trans ((HV.out.block (q + 3) (by omega)).trans HI5.out)⟩
        have u3 : V2.cell? ⟨q + 1 + 1 + 1, 0, none⟩ = some (.slice pa pn pc) := Boxed.cell HBx.out
        have gz : V2.frozen? ⟨q + 1 + 1 + 1, 0, none⟩ = false := Boxed.frozen HBx.out
        clear t2 hO2 hC2 hN2 v0 v1 v2 v3 v5 v6 g5 g6
        gi_wp2
        have hcs := (Chg.refl [q + 3] V2).setCell (a := ⟨q + 1 + 1 + 1, 0, none⟩) (.inl (by simp)) (.slice a2 n2 c2)
        have hVs := HV.out.size
        have h2s := HC2.out.size
        have hws := HI2.out.size
        have hKV : KpX (q + 5) [q + 3] W (V2.setCell ⟨q + 1 + 1 + 1, 0, none⟩ (.slice a2 n2 c2)) := ((KpX.of (Chg.ofBelow (X := []) HV.out) i3 (by simp)).trans (KpX.of HC2.out (by omega) (fun g hg => .inr (hpb g hg)))).trans (KpX.of hcs (by omega) (by simp))
        refine ⟨⟨Nat.le_trans hVs (Nat.le_trans h2s hcs.size), fun k' o hk0 hk' ho => ?_⟩, hKV, ?_⟩
        · have e1 := (HV.out.block k' (Array.getElem?_eq_some_iff.1 hk').1).trans hk'
          have e2 := (HC2.out.block k' (Array.getElem?_eq_some_iff.1 e1).1 (fun hm => by
            obtain ⟨cs, hcs'⟩ := own_ty HI6.out (mem_ob.1 hm)
            rw [hk'] at hcs'
            cases hcs'
            cases ho)).trans e1
          exact (hcs.block k' (Array.getElem?_eq_some_iff.1 e2).1 (by simp; omega)).trans e2
        · show InvT (q + 5) (q + 3) w5 w b mo _ _
          rw [Hk1.out]
          refine ⟨HI1.out.trans hKV, ((HI2.out.trans (HV.out.mono hws)).trans (HC2.out.below (by omega) (fun g hg => by have := hpb g hg; omega))).trans (hcs.below (by omega) (by simp; omega)), by have := hcs.size; omega, HGd.out, _, Boxed.set (.slice a2 n2 c2) HBx.out, own_far HO2.out hcs (fun g hg hm => ?_)⟩
          simp at hm
          subst hm
          exact (Ty.ne (⟨_, HBx.out⟩ : Ty V2 22 (q + 3)) (own_ty HO2.out hg) (by decide)) rfl
      · have hne : (cv != 0) = true := by simpa using hcv
        have HZ := Hid.mk (HSt.out V cv HV.out Hcv.out hcv)
        clear hcv
        gi_wp2
        exact HZ.out
    · have hne : (ye != 0) = true := by simpa using he
      have hnf : (ye == 0) = false := by simpa using he
      have HZ := Hid.mk (HSt.out W ye (Below.refl _ _) (by unfold err; rw [if_pos (by rw [← hPe]; exact he), ← hPe]) he)
      clear hPe hPf hPn heyn HS hq0
      simp only [pcv]
      gi_wp2
      exact HZ.out
  case hdone =>
    rintro D xs W hD hxs ⟨i1, i2, i3, i4, pv, i5, i6⟩ hKD
    obtain ⟨x1, x2, x3, x4⟩ := HV5.out W i1
    have hpos : pos b xs.length = b.length := by
      have h1 := i4.ple HBy.out
      rcases hxs with h | ⟨j, hj, h⟩
      · omega
      · exact absurd (i4.e hj) h
    obtain ⟨k, Hk⟩ : ∃ k, Hid (xs.length = k) := ⟨_, ⟨rfl⟩⟩
    rw [Hk.out] at i4 i6 hpos
    obtain ⟨pa, pc, epv, hpc, hpcm, _⟩ := i6.shape
    subst epv
    obtain ⟨pn, Hpn⟩ : ∃ n, Hid ((told b k).length = n) := ⟨_, ⟨rfl⟩⟩
    rw [Hpn.out] at i5 i6 hpc
    have d3 : W.cell? ⟨q + 1 + 1 + 1, 0, none⟩ = some (.slice pa pn pc) := by rw [cell_of_row _ _ _ _ _ _ i5]; rfl
    have d4 : W.cell? ⟨q, 0, none⟩ = some (.int .i64 mo) := by rw [cell_of_row _ _ _ _ _ _ x2]; rfl
    have d5 : W.cell? ⟨q + 1, 0, none⟩ = some (.slice none 0 0) := by rw [cell_of_row _ _ _ _ _ _ x3]; rfl
    have d6 : W.cell? ⟨q + 1 + 1, 0, none⟩ = some (.int .i64 0) := by rw [cell_of_row _ _ _ _ _ _ x4]; rfl
    have f5 : W.frozen? ⟨q + 1, 0, none⟩ = false := frozen_of_row W (q + 1) 0 _ 22 x3
    have f6 : W.frozen? ⟨q + 1 + 1, 0, none⟩ = false := frozen_of_row W (q + 2) 0 _ 24 x4
    have HI2 := Hid.mk i2
    have HI6 := Hid.mk i6
    have HGd := Hid.mk i4
    have HPo := Hid.mk hpos
    -- the results' boxes behind the stores
    have HEnd : Hid (∀ (rv : Value) (z : Int), (W.heap[D]? = some (.deferred (some [])) → True) → (∃ a n c, rv = .slice a n c) → Below w.heap.size w (((W.setCell ⟨q + 1, 0, none⟩ rv).setCell ⟨q + 1 + 1, 0, none⟩ (.int .i64 z)).putObj D (.deferred none)) ∧ ((W.setCell ⟨q + 1, 0, none⟩ rv).setCell ⟨q + 1 + 1, 0, none⟩ (.int .i64 z)).heap[D]? = some (.deferred (some [])) ∧ (loadVar 22 ⟨q + 1, 0, none⟩).run Try.prog (((W.setCell ⟨q + 1, 0, none⟩ rv).setCell ⟨q + 1 + 1, 0, none⟩ (.int .i64 z)).putObj D (.deferred none)) = .ok rv (((W.setCell ⟨q + 1, 0, none⟩ rv).setCell ⟨q + 1 + 1, 0, none⟩ (.int .i64 z)).putObj D (.deferred none)) ∧ (loadVar 24 ⟨q + 1 + 1, 0, none⟩).run Try.prog (((W.setCell ⟨q + 1, 0, none⟩ rv).setCell ⟨q + 1 + 1, 0, none⟩ (.int .i64 z)).putObj D (.deferred none)) = .ok (.int .i64 z) (((W.setCell ⟨q + 1, 0, none⟩ rv).setCell ⟨q + 1 + 1, 0, none⟩ (.int .i64 z)).putObj D (.deferred none)) ∧ ∀ (v : Value) (l : List Int), OwnY W (q + 5) v l → OwnY (((W.setCell ⟨q + 1, 0, none⟩ rv).setCell ⟨q + 1 + 1, 0, none⟩ (.int .i64 z)).putObj D (.deferred none)) w.heap.size v l) := ⟨fun rv z _ _ => by
      have hs5 := HS5.out
      have hb0 := Hq.out
      have y3 : Boxed W (q + 1) 22 (.slice none 0 0) := x3
      have y4 : Boxed W (q + 2) 24 (.int .i64 0) := x4
      have g1 := Boxed.set rv y3
      have g2 := Boxed.set (.int .i64 z) (Boxed.other y4 (B' := q + 1) (by omega) rv)
      have g3 := Boxed.other g1 (B' := q + 2) (by omega) (.int .i64 z)
      have hcc := ((Chg.refl [q + 1, q + 2] W).setCell (a := ⟨q + 1, 0, none⟩) (.inl (by simp)) rv).setCell (a := ⟨q + 1 + 1, 0, none⟩) (.inl (by simp)) (.int .i64 z)
      have hkd := (hcc.block D (Array.getElem?_eq_some_iff.1 hKD).1 (by simp; omega)).trans hKD
      have hc := chg_put ((W.setCell ⟨q + 1, 0, none⟩ rv).setCell ⟨q + 1 + 1, 0, none⟩ (.int .i64 z)) D (.deferred none)
      have hws := HI2.out.size
      refine ⟨(HI2.out.trans (hcc.below hws (by simp; omega))).trans (hc.below (Nat.le_trans hws hcc.size) (by simp; omega)), hkd, load_22 (Boxed.cell (t := 22) ((World.putObj_heap_other (by omega)).trans g3)), load_24 (Boxed.cell (t := 24) ((World.putObj_heap_other (by omega)).trans g2)), fun v l h => ?_⟩
      have h1 : OwnY ((W.setCell ⟨q + 1, 0, none⟩ rv).setCell ⟨q + 1 + 1, 0, none⟩ (.int .i64 z)) (q + 5) v l := own_far h hcc (fun g hg hm => by
        have := (World.ownsRow.lt h g hg).1
        simp at hm
        omega)
      have h2 := h1.put (k := D) (o := .deferred none) ⟨_, hkd, rfl⟩
      exact own_base h2 (fun g hg => by have := (World.ownsRow.lt h2 g hg).1; omega)⟩
    clear i1 i2 i4 i5 i6 x1 x2 x3 x4 hxs hpos hKD
    by_cases hmore : mo < (pn : Int)
    · obtain ⟨z1, z2, z3, z4, _⟩ := HEnd.out (.slice none 0 0) 6 (fun _ => trivial) ⟨_, _, _, rfl⟩
      have HZ1 := Hid.mk z1
      have HZ2 := Hid.mk z2
      have HZ3 := Hid.mk z3
      have HZ4 := Hid.mk z4
      clear z1 z2 z3 z4
      gi_wp2
      refine ⟨by simp, .inl ⟨_, _, rfl, run_takeDeferred HZ2.out, ?_⟩⟩
      exact ⟨_, results_cell2 rfl _ _ rfl rfl HZ3.out HZ4.out, ⟨none, 0, 0, 6, [], rfl, .over k HGd.out HPo.out (by rw [Hpn.out]; exact hmore), owny_nil _ _⟩, HZ1.out⟩
    · obtain ⟨z1, z2, z3, z4, z5⟩ := HEnd.out (.slice pa pn pc) 0 (fun _ => trivial) ⟨_, _, _, rfl⟩
      have HZ1 := Hid.mk z1
      have HZ2 := Hid.mk z2
      have HZ3 := Hid.mk z3
      have HZ4 := Hid.mk z4
      have HZ5 := Hid.mk (z5 _ _ HI6.out)
      clear z1 z2 z3 z4 z5
      gi_wp2
      refine ⟨by simp, .inl ⟨_, _, rfl, run_takeDeferred HZ2.out, ?_⟩⟩
      exact ⟨_, results_cell2 rfl _ _ rfl rfl HZ3.out HZ4.out, ⟨pa, pn, pc, 0, told b k, rfl, .all k HGd.out HPo.out (by rw [Hpn.out]; omega), HZ5.out⟩, HZ1.out⟩
  case hstop =>
    rintro D c xs W hD ⟨rfl, h2, h3, k, h4, h5, h6, h7, h8⟩ hKD
    gi_wp2
    have hs5 := HS5.out
    have hb0 := Hq.out
    refine ⟨by simp, .inl ⟨_, _, rfl, run_takeDeferred hKD, ?_⟩⟩
    have hc := chg_put W D (.deferred none)
    refine ⟨_, results_cell2 rfl _ _ rfl rfl (load_22 (b := q + 1) (v := .slice none 0 0) (Boxed.cell (t := 22) ((World.putObj_heap_other (by omega)).trans h7))) (load_24 (b := q + 1 + 1) (v := .int .i64 (err b mo k)) (Boxed.cell (t := 24) ((World.putObj_heap_other (by omega)).trans h8))), ⟨none, 0, 0, _, [], rfl, .bad k h4 h5 h6, owny_nil _ _⟩, h2.trans (hc.below h2.size (by have := HB05.out.size; simp; omega))⟩
end
end Go.Proofs.Ytoneepoaodoijaa
