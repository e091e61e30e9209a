/- slices.AppendSeq, slices.Collect over the program's places; its Places. -/
import Derived.Maps.AppendAt
import Derived.Test.YtiloclekhddkfabDoorB10
namespace Go.Proofs.YtiloclekhddkfabDoor
open Go.RowKit Go.Shelf Go.Sort
section
variable {w : World}
attribute [local go_sem] Oper.semAt_some
set_option maxHeartbeats 4000000 in
set_option maxRecDepth 100000 in
theorem appSeq_of {m N : Nat} {lb : Array Value} {PL : List Int} {Sp : List {x : Nat // x < m} → Prop} (q : Nat) (hq : q + 3 ≤ w.heap.size) (hwy : N ≤ 8)
    (hSq : SeqStopsK Fence.wide 9 Tryd.prog 38 lb (fun x : {x : Nat // x < m} => #[.int .i64 (x.1 : Int)]) (Kb q) (fun ys => ys.map (fun x => (x.1 : Int)) = PL) Sp N (w.alloc (.cells #[.slice none 0 0] 30))) :
    Calls Tryd.prog 37 #[.slice none 0 0, .func (.func 38) #[] lb] w fun e w' => ∃ v, e = .returned v ∧ OwnI w' w.heap.size v PL ∧ Below w.heap.size w w' := by
  refine (callsIn_wide (n := 10)).1 ?_
  obtain ⟨i0, hi, hz0, hz1, hz2⟩ := info_parts' infoInt
  have HSq := Hid.mk hSq
  clear hSq
  refine callsIn_of_wp_marks Tryd.func37 rfl trivial ?_ rfl
  simp only [Tryd.ntmps37, List.size_toArray, List.length_cons, List.length_nil, Nat.reduceAdd, Nat.reduceSub, Array.replicate_succ, Array.replicate_zero, List.push_toArray, List.append_toArray, List.nil_append, List.cons_append]
  gi_wp2
  have bO := Boxed.new w 30 (.slice none 0 0)
  have hB0 : Below w.heap.size w (w.alloc (.cells #[.slice none 0 0] 30)) := (Below.refl _ w).alloc (Nat.le_refl _) _
  refine wpIn_rangeFunc_ownG rfl (by decide) (gf := 38) (lb := lb) rfl trivial (enters_of Tryd.func38 (by kernel_rfl) rfl)
    HSq.out (fun h k => Kb.trans h k) (kb_put (by simp; omega)) (Below.refl _ _) (fun _ => rfl)
    (fun pre W => (∃ v, Boxed W w.heap.size 30 v ∧ W.ownsRow w.heap.size 3 1 v pre.length (iv (pre.map (fun x => (x.1 : Int)))) ∧ True) ∧ Below w.heap.size w W)
    (fun _ _ _ => False)
    (OwnFrom.and (Own.from (holdsRow_own w.heap.size w.heap.size 30 3 1 (fun (pre : List {x : Nat // x < m}) => pre.length) (fun pre => iv (pre.map (fun x => (x.1 : Int)))) (fun _ _ => True)) _) (ownFrom_below (Nat.le_refl _) (by simp)))
    (fun _ _ _ _ _ hs _ _ => hs)
    ⟨⟨_, bO, World.ownsRow_nil _ _ _ _, trivial⟩, hB0⟩
    (fun x => { tmps := #[.slice none 0 0, .func (.func 38) #[] lb, .pointer (some ⟨w.heap.size, 0, none⟩), undef, .slice none 0 0, .int .i64 (x.1 : Int), .func (.func 38) #[] lb, .int .i64 (x.1 : Int), undef, undef, undef, undef, undef], defers := [] }) ?assign ?body ?done ?stop
  case assign =>
    intro l x W K hK
    gi_wp2
    exact hK
  case body =>
    rintro l pre x W ⟨⟨v, hv, hrow, _⟩, hB⟩ hlt
    have hc := hv.cell
    gi_wp2_with (gi_at_builtin; refine wpListIn_append_own _ rfl _ _ 30 rfl w.heap.size 3 i0 (.int .i64 0) 1 8 Tryd.underlying30 hi hz0 hz1 hz2 rfl (by decide) _ _ _ rfl (hrow.alloc _) ⟨W.heap.size, 0, none⟩ 1 1 [.int .i64 (x.1 : Int)] rfl rfl (cell_one_new _ _ _) (by simp [Value.oneCell']) (by unfold maxLen; omega) (by omega) (by have := hB.size; simp; omega) ?_; intro v' w1 hown' hgrow _; obtain ⟨g', cap', rfl⟩ := ownsRow_succ hown'; obtain ⟨hv1, hv2, hr2, hk2, hb2⟩ := hv.appended (by decide) hrow hB.size (Nat.le_refl _) hown' hgrow; have hc1 := hv1.cell; have hf1 := hv1.frozen)
    exact ⟨hk2.from _, ⟨hb2.size, fun k _ h2 _ => hb2.block k (by omega)⟩, ⟨_, hv2, by simpa [iv] using hr2, trivial⟩, hB.trans hb2⟩
  case done =>
    rintro D ys W hD hys ⟨⟨v, hv, hrow, _⟩, hB⟩ hK
    have hc := hv.cell
    gi_wp2
    refine ⟨by simp, .inl ⟨_, _, rfl, run_takeDeferred hK, ?_⟩⟩
    exact ⟨_, results_tmp rfl _ _ _, v, rfl, by unfold OwnI; rw [← hys, List.length_map]; exact ownsRow_putObj hrow _ hK rfl, hB.trans (belowK_b (w := w) (Nat.le_refl _) W D _ _ (by simp at hD; omega) hK rfl rfl)⟩
  case stop =>
    rintro D c pre W _ _ h _
    exact h.elim
theorem wp_loadC {ops : Array Oper} {rest : List Oper} {o : Oper} {a : Act} {Q : Exit → Act → World → Prop} {cs : Array Value} (hgd : o.guard = none) (x : Operand) (ho : o.op = .load 22 x)
    (b off : Nat) (hx : a.eval x = .pointer (some ⟨b, off, none⟩)) (h0 : (loadVar 22 ⟨b, off, none⟩).run Tryd.prog w = .ok (.agg cs) w)
    (h : wpList Tryd.prog ops Q rest (a.put o.dst (.agg cs)) w) : wpList Tryd.prog ops Q (o :: rest) a w := by
  refine wpList_plain hgd fun K hK => ?_
  unfold Oper.wp execOp
  simp only [ho, hx, Instr.loadAt, Instr.sureAddr, Sem.run_bind, Sem.run_pure, Result.andThen_ok, h0]
  exact hK _ _ h
theorem app_lay {s : List Int} {size ways : Int} {q : Nat} (hA : At w q 0 (sc s)) (h1 : w.cell? ⟨q + 1, 0, none⟩ = some (.int .i64 size)) (h2 : w.cell? ⟨q + 2, 0, none⟩ = some (.int .i64 ways)) (o : Obj) : At (w.alloc o) q 0 (sc s) ∧ (w.alloc o).cell? ⟨q + 1, 0, none⟩ = some (.int .i64 size) ∧ (w.alloc o).cell? ⟨q + 2, 0, none⟩ = some (.int .i64 ways) := by
  have hc : Chg [] w (w.alloc o) := Chg.ofBelow ((Below.refl _ w).alloc (Nat.le_refl _) _)
  exact ⟨hA.far hc (by simp), (hc.cell (a := ⟨q + 1, 0, none⟩) (World.block_lt_of_cell? _ _ h1) (by simp)).trans h1, (hc.cell (a := ⟨q + 2, 0, none⟩) (World.block_lt_of_cell? _ _ h2) (by simp)).trans h2⟩
set_option maxHeartbeats 4000000 in
set_option maxRecDepth 100000 in
/-- Of what may not be, nothing is told. -/
theorem places_none (s : List Int) (size ways : Int) (hft : ft size ways = false) (q : Nat) (h1 : w.cell? ⟨q + 1, 0, none⟩ = some (.int .i64 size)) (h2 : w.cell? ⟨q + 2, 0, none⟩ = some (.int .i64 ways)) :
    SeqStopsK Fence.wide 9 Tryd.prog 38 #[.pointer (some ⟨q + 1, 0, none⟩), .pointer (some ⟨q + 2, 0, none⟩), .pointer (some ⟨q, 0, none⟩)] (fun x : {x : Nat // x < 0} => #[.int .i64 (x.1 : Int)]) (Kb q) (fun ys => ys.map (fun x => (x.1 : Int)) = plc s size ways) (fun _ => False) 0 w := by
  intro l J Jx W hW hJ _ hY h0
  have HP : Hid (plc s size ways = []) := ⟨by unfold plc; rw [hft]; rfl⟩
  have hc : Chg [] w W := Chg.ofBelow hW
  have h15 := (hc.cell (a := ⟨q + 1, 0, none⟩) (World.block_lt_of_cell? _ _ h1) (by simp)).trans h1
  have h25 := (hc.cell (a := ⟨q + 2, 0, none⟩) (World.block_lt_of_cell? _ _ h2) (by simp)).trans h2
  have t1 := fits_any (w := W) size ways
  rw [hft] at t1
  rw [HP.out]
  clear hY hJ hW hc h1 h2
  refine callsIn_of_wp Tryd.func38 rfl trivial ?_ rfl
  simp only [Tryd.ntmps38, List.size_toArray, List.length_cons, List.length_nil, Nat.reduceAdd, Nat.reduceSub, Array.replicate_succ, Array.replicate_zero, List.push_toArray, List.append_toArray, List.nil_append, List.cons_append]
  gi_wp2_with (refine ⟨trivial, ?_⟩; gi_at_call 26; refine (callsIn_wide.2 t1).mono ?_; rintro e wx ⟨rfl, ex⟩; subst ex)
  refine bodyPost_ret (results_none rfl _ _ _) rfl ?_
  exact ⟨⟨_, rfl⟩, .inl ⟨[], rfl, h0⟩⟩
/-- AppendSeq over the places, whatever the size and the ways. -/
theorem appSeq_any (s : List Int) (hs : Sum32 s) (size ways : Int) (q : Nat) (hq : q + 3 ≤ w.heap.size) (hA : At w q 0 (sc s)) (h1 : w.cell? ⟨q + 1, 0, none⟩ = some (.int .i64 size)) (h2 : w.cell? ⟨q + 2, 0, none⟩ = some (.int .i64 ways)) :
    Calls Tryd.prog 37 #[.slice none 0 0, .func (.func 38) #[] #[.pointer (some ⟨q + 1, 0, none⟩), .pointer (some ⟨q + 2, 0, none⟩), .pointer (some ⟨q, 0, none⟩)]] w fun e w' => ∃ v, e = .returned v ∧ OwnI w' w.heap.size v (plc s size ways) ∧ Below w.heap.size w w' := by
  obtain ⟨a1, a2, a3⟩ := app_lay hA h1 h2 (.cells #[.slice none 0 0] 30)
  by_cases hft : ft size ways = true
  · have hfb : 1 ≤ size ∧ size ≤ 65536 ∧ 1 ≤ ways ∧ ways ≤ 8 := of_decide_eq_true hft
    obtain ⟨n, rfl⟩ := Int.eq_ofNat_of_zero_le (show 0 ≤ size by omega)
    obtain ⟨m, rfl⟩ := Int.eq_ofNat_of_zero_le (show 0 ≤ ways by omega)
    exact appSeq_of q hq (by omega) (places_stops s hs n m hft q a1 a2 a3)
  · rw [Bool.not_eq_true] at hft
    exact appSeq_of q hq (by omega) (places_none s size ways hft q a2 a3)
theorem collect_any (s : List Int) (hs : Sum32 s) (size ways : Int) (q : Nat) (hq : q + 3 ≤ w.heap.size) (hA : At w q 0 (sc s)) (h1 : w.cell? ⟨q + 1, 0, none⟩ = some (.int .i64 size)) (h2 : w.cell? ⟨q + 2, 0, none⟩ = some (.int .i64 ways)) :
    Calls Tryd.prog 27 #[.func (.func 38) #[] #[.pointer (some ⟨q + 1, 0, none⟩), .pointer (some ⟨q + 2, 0, none⟩), .pointer (some ⟨q, 0, none⟩)]] w fun e w' => ∃ v, e = .returned v ∧ OwnI w' w.heap.size v (plc s size ways) ∧ Below w.heap.size w w' := by
  have t1 := appSeq_any s hs size ways q hq hA h1 h2
  generalize plc s size ways = PL at t1 ⊢
  clear hA h1 h2
  go_enter Tryd.func27, Tryd.ntmps27
  go_wp2_with (go_at_call 37; refine t1.mono ?_; rintro e wx ⟨v, rfl, hO, hB⟩)
  go_ret
  exact ⟨_, rfl, hO, hB⟩
set_option maxHeartbeats 4000000 in
set_option maxRecDepth 100000 in
/-- The program's Places. -/
theorem cplaces_any (s : List Int) (hs : Sum32 s) (size ways : Int) : Calls Tryd.prog 10 #[.agg (sc s).toArray, .int .i64 size, .int .i64 ways] w fun e w' => ∃ v, e = .returned v ∧ OwnI w' w.heap.size v (plc s size ways) ∧ Below w.heap.size w w' := by
  have hbox := run_boxS
  obtain ⟨W, HW⟩ : ∃ W, Hid (w.alloc (.cells (sc s).toArray 22) = W) := ⟨_, ⟨rfl⟩⟩
  have HB : Hid (Below w.heap.size w W) := ⟨by rw [← HW.out]; exact (Below.refl _ w).alloc (Nat.le_refl _) _⟩
  have Hat : Hid (At W w.heap.size 0 (sc s)) := ⟨At.row (fr := (0, 0)) (t := 22) (by rw [← HW.out]; exact heap_alloc_new w _)⟩
  have hld := run_loadS Hat.out hs
  have t1 := places_any (w := W) s size ways
  obtain ⟨W4, HW4⟩ : ∃ W4, Hid (((W.alloc (.cells (sc s).toArray 22)).alloc (.cells #[.int .i64 size] 3)).alloc (.cells #[.int .i64 ways] 3) = W4) := ⟨_, ⟨rfl⟩⟩
  have HB4 : Hid (Below W.heap.size W W4) := ⟨by rw [← HW4.out]; exact (((Below.refl _ W).alloc (Nat.le_refl _) _).alloc (by simp) _).alloc (by simp; omega) _⟩
  have t2 := collect_any (w := W4) s hs size ways W.heap.size (by rw [← HW4.out]; simp) (At.row (fr := (0, 0)) (t := 22) (by rw [← HW4.out, Below.heap_alloc _ _ _ (by simp; omega), Below.heap_alloc _ _ _ (by simp)]; exact heap_alloc_new W _))
    (by rw [← HW4.out]; refine Go.Lib.cell?_alloc_some _ ?_; simp)
    (by rw [← HW4.out]; simpa using (Boxed.new ((W.alloc (.cells (sc s).toArray 22)).alloc (.cells #[.int .i64 size] 3)) 3 (.int .i64 ways)).cell)
  rw [HW4.out] at t1
  generalize plc s size ways = PL at t2 ⊢
  generalize (sc s).toArray = cs at HW t1 hld ⊢
  clear HW4 Hat
  go_enter Tryd.func10, Tryd.ntmps10
  go_upto_region 1 with fail
  rw [HW.out]
  go_wp2_with (first
    | (refine wp_loadC rfl (.tmp 3) rfl w.heap.size 0 (by kernel_rfl) hld ?_)
    | (go_at_call 28; refine t1.mono ?_; rintro e wx ⟨rfl, ex⟩; subst ex)
    | (go_at_call 27; refine t2.mono ?_; rintro e wx ⟨v, rfl, hO, hB⟩; have HO := Hid.mk hO; have HB9 := Hid.mk hB; clear hO hB))
  go_ret
  exact ⟨_, rfl, own_base HO.out (fun g hg => Nat.le_trans HB.out.size (Nat.le_trans HB4.out.size (HO.out.lt g hg).1)), (HB.out.trans (HB4.out.mono HB.out.size)).trans (HB9.out.mono (Nat.le_trans HB.out.size HB4.out.size))⟩
end
end Go.Proofs.YtiloclekhddkfabDoor
