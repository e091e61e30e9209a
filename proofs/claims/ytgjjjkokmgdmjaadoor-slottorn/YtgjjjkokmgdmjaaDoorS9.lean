/- What a sector says. -/
import Derived.Test.YtgjjjkokmgdmjaaDoorS8
namespace Go.Proofs.YtgjjjkokmgdmjaaDoor
open Go.RowKit
theorem below_grown {B : Nat} {w0 w w1 : World} {g : Nat} (hb : Below B w0 w) (hg : w.grownBy w1 (some g)) (hB : B ≤ g) (hs : B ≤ w.heap.size) : Below B w0 w1 := hb.grown hg hs (fun k hk => by simp at hk; omega)
theorem bs_grown {w w1 : World} {base : Nat} {v : Value} {bs : List Int} {g : Nat} {cs : Array Value} (h : Oc.OwnB w base 5 v bs) (hx : w.heap[g]? = some (.cells cs 98 (0, 0))) (hg : w.grownBy w1 (some g)) : Oc.Bs w1 v bs := by
  obtain ⟨a, cap, rfl, h1, h2, h3, h4⟩ := h.bs
  refine ⟨a, cap, rfl, h1, h2, h3, fun x hxa i hi => ?_⟩
  have hc := h4 x hxa i hi
  rw [← hc]
  refine World.cell?_of_block (hg.block _ (World.block_lt_of_cell? _ _ hc) ?_)
  intro e
  rcases h.2 with ⟨hn, _⟩ | ⟨g', cap', cur, e', hb, hh, _⟩
  · simp only [Value.slice.injEq] at hn
    rw [hn.1] at hxa
    cases hxa
  · simp only [Value.slice.injEq] at e'
    rw [e'.1] at hxa
    cases hxa
    rw [Oc.add_plain] at e
    simp only [Option.some.injEq] at e
    subst e
    rw [hx] at hh
    simp at hh
/-- A load's yield, where its run is told. -/
theorem exec_load {P : Program} {ty : TypeId} {x : Operand} {a : Act} {v : Value} {w : World} {o : Oper} (ho : o.op = .load ty x) (b off : Nat) (hx : a.eval x = .pointer (some ⟨b, off, none⟩)) (h : (loadVar ty ⟨b, off, none⟩).run P w = .ok v w) : (execOp a.eval o).run P w = .ok (.value v) w := by
  unfold execOp
  simp only [ho, hx, Instr.loadAt, Instr.sureAddr, Sem.run_bind, Sem.run_pure, Result.andThen_ok, h]
theorem load59 {w : World} {b : Nat} {l : List Int} (h : w.heap[b]? = some (.cells (Dk.pa l) 59 (0, 0))) (hl : l.length = 128) : (loadVar 59 ⟨b, 0, none⟩).run Tryd.prog w = .ok (.agg (Dk.pa l)) w := by
  have hlc : (loadCells ⟨b, 0, none⟩ 128).run Tryd.prog w = .ok (Dk.pa l) w := by
    have := run_loadCells_list (P := Tryd.prog) w ⟨b, 0, none⟩ (Dk.pc l) (fun j v hv => by
      rw [Oc.add_plain, cell_of_row _ _ _ _ _ _ h, Nat.zero_add]
      simpa [Dk.pa] using hv)
    rwa [show (Dk.pc l).length = 128 by simp [Dk.pc, hl]] at this
  have ha : (isAgg 59).run Tryd.prog w = .ok true w := by kernel_rfl
  have hz : (sizeOf 59).run Tryd.prog w = .ok 128 w := by kernel_rfl
  simp only [loadVar, Sem.run_bind, ha, Result.andThen_ok, if_true, hz, hlc, Sem.run_pure]
theorem bs_cap {w : World} {x : Addr} {k c c' : Nat} {bs : List Int} (h : Oc.Bs w (.slice (some x) k c) bs) (hk : bs.length = k) (h1 : k ≤ c') (h2 : c' ≤ maxLen) : Oc.Bs w (.slice (some x) k c') bs := by
  obtain ⟨a, cap, e, _, _, _, h4⟩ := h
  simp only [Value.slice.injEq] at e
  obtain ⟨rfl, _, _⟩ := e
  exact ⟨some x, c', by rw [hk], by omega, h2, by simp, h4⟩
theorem own_setRow {w : World} {base base' : Nat} {v : Value} {bs : List Int} {r : Nat} (h : OwnB w base v bs) (hr : r < base) (hb : base' ≤ base) (cs : Array Value) : OwnB (w.setRow r cs) base' v bs := by
  refine Oc.OwnB.mono ⟨h.1, ?_⟩ hb
  rcases h.2 with hn | ⟨g, cap, cur, rfl, hb', hh, q⟩
  · exact .inl hn
  · exact .inr ⟨g, cap, cur, rfl, hb', by rw [setRow_other _ _ _ _ (by omega)]; exact hh, q⟩
theorem info64 : (Tryd.prog.info? 64).map (·.size) = some 2 := by kernel_rfl
set_option maxRecDepth 100000 in
theorem run_slice56 (w : World) (b n : Nat) (hn : n ≤ 100) : (Instr.sliceAt 56 (.pointer (some ⟨b, 0, none⟩)) (some (.int .i64 9)) (some (.int .i64 (9 + (n : Int)))) none).run Tryd.prog w = .ok (.slice (some ⟨b, 9, none⟩) n 107) w := by
  have hlen : Tryd.prog.arrayLen 56 = 116 := by kernel_rfl
  rw [run_sliceAt_array_lh (P := Tryd.prog) (t := 56) (h0 := by omega) (h1 := by omega) (h2 := by rw [hlen]; omega)]
  · have hs : (sizeOf (Tryd.prog.elem 56)).run Tryd.prog w = .ok 1 w := by kernel_rfl
    rw [hs, hlen]
    simp only [Result.andThen_ok, slicedAt]
    have e1 : (9 : Int).toNat = 9 := rfl
    have e2 : (9 + (n : Int)).toNat = 9 + n := by omega
    rw [e1, e2, if_neg (by decide), Oc.add_plain, Nat.add_sub_cancel_left]
  · rw [hlen]; exact under56
abbrev ent (m : Int) (v : Value) : Array Value := #[.int .i64 m, v]
section
variable {w : World}
set_option maxHeartbeats 8000000 in
set_option maxRecDepth 100000 in
theorem says_any (l : List Int) (hl : l.length = 128) (hby : Dk.Byt l) (hV : Vars w) : Calls Tryd.prog 36 #[.agg (Dk.pa l)] w fun e w' => ∃ v, e = .returned (.agg (ent ((Sl.sayB crB l).1 : Int) v)) ∧ OwnB w' w.heap.size v (Sl.sayB crB l).2 ∧ Below w.heap.size w w' := by
  have hbox := run_box59
  have Hl : Hid (l.length = 128) := ⟨hl⟩
  have Hby : Hid (Dk.Byt l) := ⟨hby⟩
  have HV : Hid (Vars w) := ⟨hV⟩
  obtain ⟨b, Hb⟩ : ∃ b, Hid (w.heap.size = b) := ⟨_, ⟨rfl⟩⟩
  obtain ⟨w1, Hw1⟩ : ∃ w1, Hid (w.alloc (.cells (Dk.pa l) 59) = w1) := ⟨_, ⟨rfl⟩⟩
  have HB1 : Hid (Below w.heap.size w w1) := ⟨by rw [← Hw1.out]; exact (Below.refl _ w).alloc (Nat.le_refl _) _⟩
  have HR1 : Hid (w1.heap[b]? = some (.cells (Dk.pa l) 59 (0, 0))) := ⟨by rw [← Hw1.out, ← Hb.out]; exact heap_alloc_new w _⟩
  have Hs1 : Hid (w1.heap.size = b + 1) := ⟨by rw [← Hw1.out, ← Hb.out]; simp⟩
  obtain ⟨r, Hr⟩ : ∃ r, Hid (w1.heap.size = r) := ⟨_, ⟨rfl⟩⟩
  obtain ⟨w2, Hw2⟩ : ∃ x, Hid (w1.alloc (.cells (ent 0 (.slice none 0 0)) 64) = x) := ⟨_, ⟨rfl⟩⟩
  have HB2 : Hid (Below w1.heap.size w1 w2) := ⟨by rw [← Hw2.out]; exact (Below.refl _ w1).alloc (Nat.le_refl _) _⟩
  have HE2 : Hid (w2.heap[r]? = some (.cells (ent 0 (.slice none 0 0)) 64 (0, 0))) := ⟨by rw [← Hw2.out, ← Hr.out]; exact heap_alloc_new w1 _⟩
  have HR2 : Hid (w2.heap[b]? = some (.cells (Dk.pa l) 59 (0, 0))) := ⟨(HB2.out.block b (Array.getElem?_eq_some_iff.1 HR1.out).1).trans HR1.out⟩
  have Hbr : Hid (r = b + 1 ∧ w2.heap.size = b + 2) := ⟨by have h1 := Hs1.out; have h2 := Hr.out; have h3 : w2.heap.size = w1.heap.size + 1 := (by rw [← Hw2.out]; simp); omega⟩
  have t0 := Oc.read_any (.slice (some ⟨b, 0, none⟩) 116 116) (l.take 116) w2 (by have := bs_row (o := 0) (k := 116) HR2.out (by rw [Hl.out]; decide) (by decide); rwa [List.drop_zero] at this) (by simp [hl])
  have HL116 : Hid ((l.take 116).length = 116) := ⟨by simp [Hl.out]⟩
  rw [HL116.out] at t0
  have Hby6 : Hid (∀ x ∈ l.take 116, 0 ≤ x ∧ x < 256) := ⟨fun x hx => Hby.out x (List.mem_of_mem_take hx)⟩
  clear hl hby hV
  obtain ⟨PL, HPL⟩ : ∃ P, Hid (Dk.pa l = P) := ⟨_, ⟨rfl⟩⟩
  rw [HPL.out] at Hw1 ⊢
  go_enter Tryd.func36, Tryd.ntmps36
  go_upto_region 1 with fail
  rw [Hw1.out]
  first | rw [Hb.out] | skip
  rw [Hw2.out]
  have er : b + 1 = r := Hbr.out.1.symm
  first | rw [er] | rw [Hr.out]
  clear er
  go_upto_region 3 with (first
    | (go_at_call 45; refine t0.mono ?_; rintro e w3 ⟨g, a, c, rfl, hg3, hx3, hO3, hB3⟩; have Hg3 : Hid (w2.heap.size ≤ g) := ⟨hg3⟩; have HX3 : Hid (w3.heap[g]? = some (Oc.XO 0 0 a 116 c)) := ⟨hx3⟩; have HO3 : Hid (Oc.OwnB w3 w2.heap.size 5 (.slice a 116 c) (l.take 116)) := ⟨hO3⟩; have HB3 : Hid (Below w2.heap.size w2 w3) := ⟨hB3⟩; clear hg3 hx3 hO3 hB3 t0; have t1 := Oc.xfix_any g a 116 c (l.take 116) 0 0 8 w3 HX3.out HO3.out.bs Hby6.out)
    | (go_at_call 46; refine t1.mono ?_; rintro e w4 ⟨rfl, hx4, hg4⟩; have HX4 : Hid (w4.heap[g]? = some (Oc.XO (rd1 l).2.2 (rd1 l).2.1 a 116 c)) := ⟨hx4⟩; have HG4 : Hid (w3.grownBy w4 (some g)) := ⟨hg4⟩; clear hx4 hg4 t1; have t2 := Oc.xfix_any g a 116 c (l.take 116) (rd1 l).2.2 (rd1 l).2.1 1 w4 HX4.out (bs_grown HO3.out HX3.out HG4.out) Hby6.out)
    | (go_at_call 46; refine t2.mono ?_; rintro e w5 ⟨rfl, hx5, hg5⟩; have HG5 : Hid (w4.grownBy w5 (some g)) := ⟨hg5⟩; clear hx5 hg5 t2))
  have HB05 : Hid (Below w2.heap.size w2 w5) := ⟨by
    have h4 := below_grown HB3.out HG4.out Hg3.out HB3.out.size
    exact below_grown h4 HG5.out Hg3.out h4.size⟩
  have HB5 : Hid (Below w.heap.size w w5) := ⟨HB1.out.trans ((HB2.out.trans (HB05.out.mono HB2.out.size)).mono HB1.out.size)⟩
  have HE5 : Hid (w5.heap[r]? = some (.cells (ent 0 (.slice none 0 0)) 64 (0, 0))) := ⟨(HB05.out.block r (Array.getElem?_eq_some_iff.1 HE2.out).1).trans HE2.out⟩
  have HR5 : Hid (w5.heap[b]? = some (.cells (Dk.pa l) 59 (0, 0))) := ⟨(HB05.out.block b (Array.getElem?_eq_some_iff.1 HR2.out).1).trans HR2.out⟩
  have HV5 : Hid (Vars w5) := ⟨Dg.NibsAt.below HV.out HB5.out⟩
  have e4 := rd1_mk Hl.out
  have e5 := rd2_sz Hl.out Hby.out
  have Hsay := Dk.Hid.mk (say_eq (cr := crB) l)
  have Hmk := Dk.Hid.mk (mk1_le l)
  obtain ⟨m, Hm⟩ : ∃ m, Hid (mk1 l = m) := ⟨_, ⟨rfl⟩⟩
  obtain ⟨n, Hn⟩ : ∃ n, Hid (sz1 l = n) := ⟨_, ⟨rfl⟩⟩
  rw [Hm.out] at e4 Hsay Hmk
  rw [Hn.out] at e5 Hsay
  unfold rd2 at e5
  rw [e5]
  unfold rd1 at e4
  rw [e4]
  clear e4 e5 HX4 HX3 HG4 HG5 HO3 HB3
  have hi64 : (Tryd.prog.info? 64).map (·.size) = some (ent 0 (.slice none 0 0)).size := info64
  have HEz : Hid ((w5.setRow r (ent 0 (.slice none 0 0))).heap[r]? = some (.cells (ent 0 (.slice none 0 0)) 64 (0, 0))) := ⟨setRow_heap _ _ _ _ 64 (0, 0) HE5.out⟩
  have Hrb : Hid (w.heap.size ≤ r) := ⟨by have := Hbr.out.1; have := Hb.out; omega⟩
  have HBz : Hid (Below w.heap.size w (w5.setRow r (ent 0 (.slice none 0 0)))) := ⟨Dk.below_setRow' HB5.out Hrb.out _⟩
  by_cases hbad : m < 1 ∨ 100 < n
  · have HZ : Hid (Sl.sayB crB l = (0, [])) := ⟨by rw [Hsay.out, if_neg (by omega)]⟩
    by_cases h1 : m < 1
    · have h1i : (m : Int) < 1 := by omega
      clear hbad
      go_wp2_with (refine wpList_store_row rfl 64 (.tmp 2) (.tmp 20) rfl r (ent 0 (.slice none 0 0)) rfl rfl 64 (ent 0 (.slice none 0 0)) HE5.out hi64 rfl (by kernel_rfl) ?_; refine wpList_nil ?_; rename_i hcont; refine hcont _ _ (wp_ret ?_); simp only [Exit.then]; refine bodyPost_ret (v := .agg (ent 0 (.slice none 0 0))) (results_cell_row (p := 2) Tryd.results36 _ _ r 64 _ (0, 0) _ (by kernel_rfl) HEz.out Tryd.underlying64 rfl hi64) rfl ?_; exact ⟨.slice none 0 0, by rw [HZ.out]; rfl, by rw [HZ.out]; exact Oc.OwnB.nil _ _ _, HBz.out⟩)
    · have h1i : ¬ (m : Int) < 1 := by omega
      have h2i : (100 : Int) < n := by omega
      clear hbad h1
      go_wp2_with (refine wpList_store_row rfl 64 (.tmp 2) (.tmp 20) rfl r (ent 0 (.slice none 0 0)) rfl rfl 64 (ent 0 (.slice none 0 0)) HE5.out hi64 rfl (by kernel_rfl) ?_; refine wpList_nil ?_; rename_i hcont; refine hcont _ _ (wp_ret ?_); simp only [Exit.then]; refine bodyPost_ret (v := .agg (ent 0 (.slice none 0 0))) (results_cell_row (p := 2) Tryd.results36 _ _ r 64 _ (0, 0) _ (by kernel_rfl) HEz.out Tryd.underlying64 rfl hi64) rfl ?_; exact ⟨.slice none 0 0, by rw [HZ.out]; rfl, by rw [HZ.out]; exact Oc.OwnB.nil _ _ _, HBz.out⟩)
  · have h1i : ¬ (m : Int) < 1 := by omega
    have h2i : ¬ (100 : Int) < n := by omega
    have hn : n ≤ 100 := by omega
    have hsl := run_slice56 w5 b n hn
    obtain ⟨T, HT⟩ : ∃ T, Hid ((l.drop 9).take n = T) := ⟨_, ⟨rfl⟩⟩
    have HTl : Hid (T.length = n) := ⟨by rw [← HT.out]; simp [Hl.out]; omega⟩
    have HTb : Hid (Dk.Byt T) := ⟨fun x hx => Hby.out x (by rw [← HT.out] at hx; exact List.mem_of_mem_drop (List.mem_of_mem_take hx))⟩
    rw [HT.out] at Hsay
    obtain ⟨w6, Hw6⟩ : ∃ x, Hid (w5.drew = x) := ⟨_, ⟨rfl⟩⟩
    have HB56 : Hid (Below w5.heap.size w5 w6) := ⟨by rw [← Hw6.out]; exact (Below.refl _ _).drew⟩
    have HR6 : Hid (w6.heap[b]? = some (.cells (Dk.pa l) 59 (0, 0))) := ⟨(HB56.out.block b (Array.getElem?_eq_some_iff.1 HR5.out).1).trans HR5.out⟩
    have HE6 : Hid (w6.heap[r]? = some (.cells (ent 0 (.slice none 0 0)) 64 (0, 0))) := ⟨(HB56.out.block r (Array.getElem?_eq_some_iff.1 HE5.out).1).trans HE5.out⟩
    have HB6 : Hid (Below w.heap.size w w6) := ⟨HB5.out.trans (HB56.out.mono HB5.out.size)⟩
    have HTs : Hid (∀ w', w'.heap[b]? = some (.cells (Dk.pa l) 59 (0, 0)) → Oc.Bs w' (.slice (some ⟨b, 9, none⟩) n 107) T) := ⟨fun w' h => by
      rw [← HT.out]
      exact bs_cap (bs_row h (by rw [Hl.out]; omega) (by have : (100 : Nat) ≤ maxLen := by decide
                                                         omega)) (by simp [Hl.out]; omega) (by omega) (by decide)⟩
    have t3 := sealed_any (w := w6) m _ T Hmk.out (HTs.out _ HR6.out) HTb.out (by rw [HTl.out]; exact hn) (Dg.NibsAt.below HV.out HB6.out)
    have HSl : Hid ((Sl.sealB crB m T).length = 128) := ⟨Sl.sealB_len (by rw [HTl.out]; omega)⟩
    have hgd := fun (w : World) (x y : Operand) (xs ys : Array Value) => guard59 w .neq x y xs ys
    have hne := fun (w : World) => ne59 w Hl.out HSl.out
    have hS0 : (loadVar 59 ⟨b, 0, none⟩).run Tryd.prog w5.drew = .ok (.agg PL) w5.drew := by
      have := load59 (w := w5.drew) (l := l) (by rw [Hw6.out]; exact HR6.out) Hl.out
      rwa [HPL.out] at this
    obtain ⟨PS, HPS⟩ : ∃ P, Hid (Dk.pa (Sl.sealB crB m T) = P) := ⟨_, ⟨rfl⟩⟩
    rw [HPL.out, HPS.out] at hne
    have HB07 : Hid (∀ w7, Below w6.heap.size w6 w7 → Below w.heap.size w w7) := ⟨fun w7 h => HB6.out.trans (h.mono HB6.out.size)⟩
    have HE07 : Hid (∀ w7, Below w6.heap.size w6 w7 → w7.heap[r]? = some (.cells (ent 0 (.slice none 0 0)) 64 (0, 0))) := ⟨fun w7 h => (h.block r (Array.getElem?_eq_some_iff.1 HE6.out).1).trans HE6.out⟩
    have HR07 : Hid (∀ w7, Below w6.heap.size w6 w7 → w7.heap[b]? = some (.cells (Dk.pa l) 59 (0, 0))) := ⟨fun w7 h => (h.block b (Array.getElem?_eq_some_iff.1 HR6.out).1).trans HR6.out⟩
    clear hbad
    by_cases hse : l = Sl.sealB crB m T
    · have HZ : Hid (Sl.sayB crB l = (m, T)) := ⟨by rw [Hsay.out, if_pos ⟨by omega, hn, hse⟩]⟩
      rw [decide_eq_true hse, Bool.not_true] at hne
      clear hse
      go_upto_region 6 with fail
      refine wp_region_held_drew (S := (fun w' => (loadVar 59 ⟨b, 0, none⟩).run Tryd.prog w' = .ok (.agg PL) w')) (by kernel_rfl) hS0 (fun hS => ?_)
      refine wpAnyH_take (i := 0) (v := .agg PL) rfl (by kernel_rfl) (by kernel_rfl) (by kernel_rfl) (fun _ _ _ h => h) (Or.inl ⟨by kernel_rfl, fun wx hx => exec_load rfl b 0 (by kernel_rfl) hx⟩) hS ?_
      refine wpAnyH_take (i := 1) (v := .int .i64 (m : Int)) rfl (by kernel_rfl) (by kernel_rfl) (by kernel_rfl) (fun _ _ _ h => h) (Or.inl ⟨by kernel_rfl, fun _ _ => by kernel_rfl⟩) hS ?_
      refine wpAnyH_take (i := 2) (v := .slice (some ⟨b, 9, none⟩) n 107) rfl (by kernel_rfl) (by kernel_rfl) (by kernel_rfl) (fun _ _ _ h => h) (Or.inl ⟨by kernel_rfl, fun _ _ => by kernel_rfl⟩) hS ?_
      refine wpAnyH_ready (rs := [3]) (by kernel_rfl) (by simp) (AllReadyH.cons rfl (fun Kc hK => ?_) AllReadyH.nil)
      go_simp
      rw [Hw6.out]
      refine t3.mono ?_
      rintro e w7 ⟨rfl, hB7⟩
      have HB7 : Hid (Below w6.heap.size w6 w7) := ⟨hB7⟩
      clear hB7 t3
      rw [HPS.out]
      refine hK.out _ _ (by have := load59 (w := w7) (l := l) ((HB7.out.block b (Array.getElem?_eq_some_iff.1 HR6.out).1).trans HR6.out) Hl.out; rwa [HPL.out] at this) (fun hS => ?_)
      clear hK
      refine wpAnyH_take (i := 4) (v := .bool false) rfl (by kernel_rfl) (by kernel_rfl) (by kernel_rfl) (fun _ _ _ h => h) (Or.inl ⟨by kernel_rfl, fun wx hx => by go_simp⟩) hS ?_
      refine wpAnyH_done (by kernel_rfl) ?_ _
      clear hS hS0
      go_simp
      have t8 := bclone_any (w := w7) _ T (HTs.out _ (HR07.out _ HB7.out)) (by rw [HTl.out]; omega)
      go_wp2_with (first
        | (go_at_call 47; refine t8.mono ?_; rintro e w8 ⟨v8, rfl, hO8, hB8⟩; obtain ⟨a8, c8, rfl⟩ := Oc.OwnB.slice hO8; have HO8 : Hid (OwnB w8 w7.heap.size (.slice a8 T.length c8) T) := ⟨hO8⟩; have HB8 : Hid (Below w7.heap.size w7 w8) := ⟨hB8⟩; clear hO8 hB8 t8; have HE8 : Hid (w8.heap[r]? = some (.cells (ent 0 (.slice none 0 0)) 64 (0, 0))) := ⟨by have h7 := HE07.out _ HB7.out; exact (HB8.out.block r (Array.getElem?_eq_some_iff.1 h7).1).trans h7⟩; have Hr7 : Hid (r < w7.heap.size) := ⟨(Array.getElem?_eq_some_iff.1 (HE07.out _ HB7.out)).1⟩; have HEz8 : Hid ((w8.setRow r (ent m (.slice a8 T.length c8))).heap[r]? = some (.cells (ent m (.slice a8 T.length c8)) 64 (0, 0))) := ⟨setRow_heap _ _ _ _ 64 (0, 0) HE8.out⟩; have hi8 : (Tryd.prog.info? 64).map (·.size) = some (ent m (.slice a8 T.length c8)).size := info64)
        | (refine wpList_store_row rfl 64 (.tmp 2) (.tmp 34) rfl r (ent m (.slice a8 T.length c8)) rfl rfl 64 (ent 0 (.slice none 0 0)) HE8.out hi8 rfl (by kernel_rfl) ?_; refine wpList_nil ?_; rename_i hcont; refine hcont _ _ (wp_ret ?_); show bodyPost Tryd.prog Tryd.f36 _ Exit.ret _ _; refine bodyPost_ret (v := .agg (ent m (.slice a8 T.length c8))) (results_cell_row (p := 2) Tryd.results36 _ _ r 64 _ (0, 0) _ (by kernel_rfl) HEz8.out Tryd.underlying64 rfl hi8) rfl ?_))
      refine ⟨.slice a8 T.length c8, by rw [HZ.out], ?_, ?_⟩
      · rw [HZ.out]
        exact own_setRow HO8.out Hr7.out (HB07.out _ HB7.out).size _
      · exact Dk.below_setRow' ((HB07.out _ HB7.out).trans (HB8.out.mono (HB07.out _ HB7.out).size)) Hrb.out _
    · have HZ : Hid (Sl.sayB crB l = (0, [])) := ⟨by rw [Hsay.out, if_neg (fun q => hse q.2.2)]⟩
      rw [decide_eq_false hse, Bool.not_false] at hne
      clear hse
      go_upto_region 6 with fail
      refine wp_region_held_drew (S := (fun w' => (loadVar 59 ⟨b, 0, none⟩).run Tryd.prog w' = .ok (.agg PL) w')) (by kernel_rfl) hS0 (fun hS => ?_)
      refine wpAnyH_take (i := 0) (v := .agg PL) rfl (by kernel_rfl) (by kernel_rfl) (by kernel_rfl) (fun _ _ _ h => h) (Or.inl ⟨by kernel_rfl, fun wx hx => exec_load rfl b 0 (by kernel_rfl) hx⟩) hS ?_
      refine wpAnyH_take (i := 1) (v := .int .i64 (m : Int)) rfl (by kernel_rfl) (by kernel_rfl) (by kernel_rfl) (fun _ _ _ h => h) (Or.inl ⟨by kernel_rfl, fun _ _ => by kernel_rfl⟩) hS ?_
      refine wpAnyH_take (i := 2) (v := .slice (some ⟨b, 9, none⟩) n 107) rfl (by kernel_rfl) (by kernel_rfl) (by kernel_rfl) (fun _ _ _ h => h) (Or.inl ⟨by kernel_rfl, fun _ _ => by kernel_rfl⟩) hS ?_
      refine wpAnyH_ready (rs := [3]) (by kernel_rfl) (by simp) (AllReadyH.cons rfl (fun Kc hK => ?_) AllReadyH.nil)
      go_simp
      rw [Hw6.out]
      refine t3.mono ?_
      rintro e w7 ⟨rfl, hB7⟩
      have HB7 : Hid (Below w6.heap.size w6 w7) := ⟨hB7⟩
      clear hB7 t3
      rw [HPS.out]
      refine hK.out _ _ (by have := load59 (w := w7) (l := l) ((HB7.out.block b (Array.getElem?_eq_some_iff.1 HR6.out).1).trans HR6.out) Hl.out; rwa [HPL.out] at this) (fun hS => ?_)
      clear hK
      refine wpAnyH_take (i := 4) (v := .bool true) rfl (by kernel_rfl) (by kernel_rfl) (by kernel_rfl) (fun _ _ _ h => h) (Or.inl ⟨by kernel_rfl, fun wx hx => by go_simp⟩) hS ?_
      refine wpAnyH_done (by kernel_rfl) ?_ _
      clear hS hS0
      go_simp
      have HE7 := Dk.Hid.mk (HE07.out _ HB7.out)
      have HEz7 : Hid ((w7.setRow r (ent 0 (.slice none 0 0))).heap[r]? = some (.cells (ent 0 (.slice none 0 0)) 64 (0, 0))) := ⟨setRow_heap _ _ _ _ 64 (0, 0) HE7.out⟩
      have HBz7 : Hid (Below w.heap.size w (w7.setRow r (ent 0 (.slice none 0 0)))) := ⟨Dk.below_setRow' (HB07.out _ HB7.out) Hrb.out _⟩
      go_wp2_with (refine wpList_store_row rfl 64 (.tmp 2) (.tmp 30) rfl r (ent 0 (.slice none 0 0)) rfl rfl 64 (ent 0 (.slice none 0 0)) HE7.out hi64 rfl (by kernel_rfl) ?_; refine wpList_nil ?_; rename_i hcont; refine hcont _ _ (wp_ret ?_); simp only [Exit.then]; refine bodyPost_ret (v := .agg (ent 0 (.slice none 0 0))) (results_cell_row (p := 2) Tryd.results36 _ _ r 64 _ (0, 0) _ (by kernel_rfl) HEz7.out Tryd.underlying64 rfl hi64) rfl ?_; exact ⟨.slice none 0 0, by rw [HZ.out]; rfl, by rw [HZ.out]; exact Oc.OwnB.nil _ _ _, HBz7.out⟩)
end
end Go.Proofs.YtgjjjkokmgdmjaaDoor
