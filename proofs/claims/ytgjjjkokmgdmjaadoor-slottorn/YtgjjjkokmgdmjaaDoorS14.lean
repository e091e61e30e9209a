/- Get and Mark of a cell that is ready. -/
import Derived.Test.YtgjjjkokmgdmjaaDoorS13
namespace Go.Proofs.YtgjjjkokmgdmjaaDoor
open Go.RowKit
theorem eqIn59' (w : World) {s t : List Int} (hs : s.length = 128) (ht : t.length = 128) : (Op.equalIn 9999 59 (.agg (Dk.pa s)) (.agg (Dk.pa t))).run Tryd.prog w = .ok (decide (s = t)) w := by
  rw [run_equalIn_struct w 9998 59 _ _ under59 stood59]
  exact eqF3 w 9996 hs ht _ f59a
theorem eqIn60 (w : World) {s t : List Int} (hs : s.length = 256) (ht : t.length = 256) : (Op.equalIn 10000 60 (.agg (Dk.pa s)) (.agg (Dk.pa t))).run Tryd.prog w = .ok (decide (s = t)) w := by
  have p1 := fun (w : World) (l : List Int) => partA w 59 0 128 l (agg59 w) (size59 w)
  have p2 := fun (w : World) (l : List Int) => partA w 59 128 128 l (agg59 w) (size59 w)
  have q1 := fun (w : World) => eqIn59' w (s := (s.drop 0).take 128) (t := (t.drop 0).take 128) (by simp [hs]) (by simp [ht])
  have q2 := fun (w : World) => eqIn59' w (s := (s.drop 128).take 128) (t := (t.drop 128).take 128) (by simp [hs]) (by simp [ht])
  have e : ∀ l : List Int, l.length = 256 → l = (l.drop 0).take 128 ++ (l.drop 128).take 128 := fun l hl => by
    have : (l.drop 128).take 128 = l.drop 128 := List.take_of_length_le (by simp [hl])
    rw [this, List.drop_zero, List.take_append_drop]
  have E : decide (s = t) = (decide ((s.drop 0).take 128 = (t.drop 0).take 128) && decide ((s.drop 128).take 128 = (t.drop 128).take 128)) := by
    rw [Bool.eq_iff_iff, Bool.and_eq_true, decide_eq_true_iff, decide_eq_true_iff, decide_eq_true_iff]
    exact ⟨fun q => by rw [q]; exact ⟨rfl, rfl⟩, fun q => by rw [e s hs, e t ht, q.1, q.2]⟩
  rw [E, Op.equalIn]
  simp only [Sem.run_bind, run_underlying under60, Result.andThen_ok, size59]
  rw [Std.Legacy.Range.forIn_eq_forIn_range']
  have : List.range' (Std.Legacy.Range.mk 0 2 1 (by decide)).start (Std.Legacy.Range.mk 0 2 1 (by decide)).size (Std.Legacy.Range.mk 0 2 1 (by decide)).step = [0, 1] := rfl
  rw [this]
  simp only [List.forIn_cons, List.forIn_nil, Sem.run_bind, Nat.zero_mul, Nat.one_mul, p1, Result.andThen_ok, q1]
  generalize decide ((s.drop 0).take 128 = (t.drop 0).take 128) = b1
  cases b1
  · simp
  · simp only [Bool.not_true, Bool.false_eq_true, if_false, Sem.run_pure, Sem.run_bind, Result.andThen_ok, Bool.true_and, p2, q2]
    generalize decide ((s.drop 128).take 128 = (t.drop 128).take 128) = b2
    cases b2
    · simp
    · simp
theorem eq60 (w : World) {s t : List Int} (hs : s.length = 256) (ht : t.length = 256) : (binOp .eql 60 (.agg (Dk.pa s)) (.agg (Dk.pa t))).run Tryd.prog w = .ok (.bool (decide (s = t))) w := by
  rw [run_eql_struct, eqIn60 w hs ht]
  rfl
theorem guard60 (w : World) (op : BinOp) (x y : Operand) (xs ys : Array Value) : (eqGuard op 60 x y (.agg xs) (.agg ys)).run Tryd.prog w = .ok () w := run_eqGuard_agg w op 60 x y xs ys (by kernel_rfl)
theorem zv60 (w : World) : (zeroValue 60).run Tryd.prog w = .ok (.agg (Dk.pa zz)) w := by rw [← zc60]; exact Tryd.zeroValue60 w
theorem zz_ne : ¬ Dk.pa zz = #[] := fun h => by have := congrArg Array.size h; rw [Dk.pa_size, zz_len] at this; simp at this
/-- What Get tells: its error, its bytes. -/
def gt (l0 l1 : List Int) : Int × List Int := if l0 ++ l1 = zz then (9, []) else if (cn2 l0 l1).1 < 0 then (13, []) else (0, (cn2 l0 l1).2.2)
section
variable {w : World} {q p g bm base b : Nat} {d : Dk.Dk}
set_option maxHeartbeats 8000000 in
set_option maxRecDepth 100000 in
theorem mark_any (h : Dk.At w p g bm base d) (hc : CellAt w q p (b : Int) d.life) (hd : d.down = false) (hbl : b + 2 ≤ d.S.length) (hV : Vars w) :
    Calls Tryd.prog 17 #[.pointer (some ⟨q, 0, none⟩)] w fun e w' => e = .returned (.int .i64 ((cn2 (sc0 d b) (sc0 d (b + 1))).2.1 : Int)) ∧ Below w.heap.size w w' := by
  have t1 := look_any h hc hd hbl
  have HV : Hid (Vars w) := ⟨hV⟩
  have P0 := pg_sc0 h b
  have P1 := pg_sc0 h (b + 1)
  obtain ⟨l0, Hl0⟩ : ∃ l, Hid (sc0 d b = l) := ⟨_, ⟨rfl⟩⟩
  obtain ⟨l1, Hl1⟩ : ∃ l, Hid (sc0 d (b + 1) = l) := ⟨_, ⟨rfl⟩⟩
  rw [Hl0.out] at P0
  rw [Hl1.out] at P1
  rw [Hl0.out, Hl1.out] at t1 ⊢
  have H0 : Hid (Dk.Pg l0) := ⟨P0⟩
  have H1 : Hid (Dk.Pg l1) := ⟨P1⟩
  have t2 : ∀ w5, Below w.heap.size w w5 → _ := fun w5 hB => counting_any (w := w5) l0 l1 P0.1 P1.1 P0.2 P1.2 (Dg.NibsAt.below HV.out hB)
  have hq : ∀ w, (binOp .eql 60 (.agg (Dk.pa (l0 ++ l1))) (.agg (Dk.pa zz))).run Tryd.prog w = .ok (.bool (decide (l0 ++ l1 = zz))) w := fun w => eq60 w (by simp [P0.1, P1.1]) zz_len
  obtain ⟨PL, HPL⟩ : ∃ P, Hid (Dk.pa (l0 ++ l1) = P) := ⟨_, ⟨rfl⟩⟩
  have Hsz : Hid (PL.size = 256) := ⟨by rw [← HPL.out, Dk.pa_size, List.length_append, P0.1, P1.1]⟩
  have HP1 : Hid (PL.all (·.oneCell') = true) := ⟨by rw [← HPL.out]; exact Dk.pa_one _⟩
  have HPZ : Hid ((Dk.pa zz).size = PL.size) := ⟨by rw [Hsz.out, Dk.pa_size, zz_len]⟩
  have hiPL : (Tryd.prog.info? 60).map (·.size) = some PL.size := by rw [Hsz.out]; exact info60
  have hi64 : ∀ m v, (Tryd.prog.info? 64).map (·.size) = some (ent m v).size := fun _ _ => info64
  simp only [HPL.out] at t1 t2 hq
  clear h hc hV P0 P1 hbl hd
  obtain ⟨X, HX⟩ : ∃ X, Hid (cn2 l0 l1 = X) := ⟨_, ⟨rfl⟩⟩
  simp only [HX.out] at t2 ⊢
  obtain ⟨ac, m, T⟩ := X
  clear hq
  go_enter Tryd.func17, Tryd.ntmps17
  go_upto_region 5 with (first
    | (go_at_call 21; refine t1.mono ?_; rintro e w3 ⟨rfl, hB3⟩; have HB3 : Hid (Below w.heap.size w w3) := ⟨hB3⟩; clear hB3 t1)
    | (refine wpl_alloc60 rfl rfl ?_; obtain ⟨b1, Hb1⟩ : ∃ b, Hid (w3.heap.size = b) := ⟨_, ⟨rfl⟩⟩; obtain ⟨w4, Hw4⟩ : ∃ w4, Hid (w3.alloc (.cells (Dk.pa zz) 60) = w4) := ⟨_, ⟨rfl⟩⟩; have HR4 : Hid (w4.heap[b1]? = some (.cells (Dk.pa zz) 60 (0, 0))) := ⟨by rw [← Hw4.out, ← Hb1.out]; exact heap_alloc_new w3 _⟩; have HB4 : Hid (Below w3.heap.size w3 w4) := ⟨by rw [← Hw4.out]; exact (Below.refl _ w3).alloc (Nat.le_refl _) _⟩; rw [Hw4.out, Hb1.out])
    | (refine wpList_store_row rfl 60 (.tmp 3) (.tmp 10) rfl b1 PL rfl rfl 60 (Dk.pa zz) HR4.out hiPL HPZ.out HP1.out ?_; obtain ⟨w5, Hw5⟩ : ∃ x, Hid (w4.setRow b1 PL = x) := ⟨_, ⟨rfl⟩⟩; have HR5 : Hid (w5.heap[b1]? = some (.cells PL 60 (0, 0))) := ⟨by rw [← Hw5.out]; exact setRow_heap _ _ _ _ 60 (0, 0) HR4.out⟩; have HB5 : Hid (Below w.heap.size w w5) := ⟨by rw [← Hw5.out]; exact Dk.below_setRow' (HB3.out.trans (HB4.out.mono HB3.out.size)) (by rw [← Hb1.out]; exact HB3.out.size) _⟩; rw [Hw5.out])
    | (refine wpList_load_row rfl 60 (.tmp 3) rfl b1 rfl 60 PL (0, 0) _ HR5.out Tryd.underlying60 rfl hiPL ?_)
    | (go_at_call 22; refine (t2 w5 HB5.out).mono ?_; rintro e w6 ⟨v6, rfl, hO6, hB6⟩; obtain ⟨a6, c6, rfl⟩ := Oc.OwnB.slice hO6; have HO6 : Hid (OwnB w6 w5.heap.size (.slice a6 T.length c6) T) := ⟨hO6⟩; have HB6 : Hid (Below w5.heap.size w5 w6) := ⟨hB6⟩; clear hO6 hB6 t2; obtain ⟨f, Hf⟩ : ∃ f, Hid (w6.heap.size = f) := ⟨_, ⟨rfl⟩⟩; obtain ⟨w7, Hw7⟩ : ∃ x, Hid (w6.alloc (.cells (ent 0 (.slice none 0 0)) 64) = x) := ⟨_, ⟨rfl⟩⟩; have HF7 : Hid (w7.heap[f]? = some (.cells (ent 0 (.slice none 0 0)) 64 (0, 0))) := ⟨by rw [← Hw7.out, ← Hf.out]; exact heap_alloc_new w6 _⟩; have HB7 : Hid (Below w6.heap.size w6 w7) := ⟨by rw [← Hw7.out]; exact (Below.refl _ w6).alloc (Nat.le_refl _) _⟩; obtain ⟨w8, Hw8⟩ : ∃ x, Hid (w7.setRow f (ent (m : Int) (.slice a6 T.length c6)) = x) := ⟨_, ⟨rfl⟩⟩)
    | (rw [Hw7.out, Hf.out]; refine wpList_store_row rfl 64 (.tmp 6) (.tmp 18) rfl f (ent (m : Int) (.slice a6 T.length c6)) rfl rfl 64 (ent 0 (.slice none 0 0)) HF7.out (hi64 _ _) rfl (by kernel_rfl) ?_; rw [Hw8.out]))
  have HF8 : Hid (w8.heap[f]? = some (.cells (ent (m : Int) (.slice a6 T.length c6)) 64 (0, 0))) := ⟨by rw [← Hw8.out]; exact setRow_heap _ _ _ _ 64 (0, 0) HF7.out⟩
  have HB68 : Hid (Below w6.heap.size w6 w8) := ⟨by rw [← Hw8.out]; exact Dk.below_setRow' HB7.out (by rw [Hf.out]; exact Nat.le_refl _) _⟩
  have HB8 : Hid (Below w.heap.size w w8) := ⟨HB5.out.trans ((HB6.out.trans (HB68.out.mono HB6.out.size)).mono HB5.out.size)⟩
  have HO8 : Hid (OwnB w8 w.heap.size (.slice a6 T.length c6) T) := ⟨Oc.OwnB.mono (Oc.OwnB.below HO6.out HB68.out) HB5.out.size⟩
  have hcf0 : w8.cell? ⟨f, 0, none⟩ = some (.int .i64 (m : Int)) := by rw [cell_of_row _ _ _ _ _ _ HF8.out]; rfl
  have hcf1 : w8.cell? ⟨f, 1, none⟩ = some (.slice a6 T.length c6) := by rw [cell_of_row _ _ _ _ _ _ HF8.out]; rfl
  go_wp2_with fail
  go_ret
  exact ⟨rfl, HB8.out⟩
set_option maxHeartbeats 8000000 in
set_option maxRecDepth 100000 in
theorem get_any (h : Dk.At w p g bm base d) (hc : CellAt w q p (b : Int) d.life) (hd : d.down = false) (hbl : b + 2 ≤ d.S.length) (hV : Vars w) :
    Calls Tryd.prog 16 #[.pointer (some ⟨q, 0, none⟩)] w fun e w' => ∃ v, e = .returned (.tuple #[v, .int .i64 (gt (sc0 d b) (sc0 d (b + 1))).1]) ∧ OwnB w' w.heap.size v (gt (sc0 d b) (sc0 d (b + 1))).2 ∧ Below w.heap.size w w' := by
  unfold gt
  have t1 := look_any h hc hd hbl
  have HV : Hid (Vars w) := ⟨hV⟩
  have P0 := pg_sc0 h b
  have P1 := pg_sc0 h (b + 1)
  obtain ⟨l0, Hl0⟩ : ∃ l, Hid (sc0 d b = l) := ⟨_, ⟨rfl⟩⟩
  obtain ⟨l1, Hl1⟩ : ∃ l, Hid (sc0 d (b + 1) = l) := ⟨_, ⟨rfl⟩⟩
  rw [Hl0.out] at P0
  rw [Hl1.out] at P1
  rw [Hl0.out, Hl1.out] at t1 ⊢
  have H0 : Hid (Dk.Pg l0) := ⟨P0⟩
  have H1 : Hid (Dk.Pg l1) := ⟨P1⟩
  have t2 : ∀ w5, Below w.heap.size w w5 → _ := fun w5 hB => counting_any (w := w5) l0 l1 P0.1 P1.1 P0.2 P1.2 (Dg.NibsAt.below HV.out hB)
  have hq : ∀ w, (binOp .eql 60 (.agg (Dk.pa (l0 ++ l1))) (.agg (Dk.pa zz))).run Tryd.prog w = .ok (.bool (decide (l0 ++ l1 = zz))) w := fun w => eq60 w (by simp [P0.1, P1.1]) zz_len
  obtain ⟨PL, HPL⟩ : ∃ P, Hid (Dk.pa (l0 ++ l1) = P) := ⟨_, ⟨rfl⟩⟩
  have Hsz : Hid (PL.size = 256) := ⟨by rw [← HPL.out, Dk.pa_size, List.length_append, P0.1, P1.1]⟩
  have HP1 : Hid (PL.all (·.oneCell') = true) := ⟨by rw [← HPL.out]; exact Dk.pa_one _⟩
  have HPZ : Hid ((Dk.pa zz).size = PL.size) := ⟨by rw [Hsz.out, Dk.pa_size, zz_len]⟩
  have hiPL : (Tryd.prog.info? 60).map (·.size) = some PL.size := by rw [Hsz.out]; exact info60
  have hi64 : ∀ m v, (Tryd.prog.info? 64).map (·.size) = some (ent m v).size := fun _ _ => info64
  simp only [HPL.out] at t1 t2 hq
  clear h hc hV P0 P1 hbl hd
  obtain ⟨X, HX⟩ : ∃ X, Hid (cn2 l0 l1 = X) := ⟨_, ⟨rfl⟩⟩
  simp only [HX.out] at t2 ⊢
  obtain ⟨ac, m, T⟩ := X
  have hgd := fun (w : World) (x y : Operand) (xs ys : Array Value) => guard60 w .eql x y xs ys
  obtain ⟨ZZ, HZ⟩ : ∃ Z, Hid (Dk.pa zz = Z) := ⟨_, ⟨rfl⟩⟩
  have hzv := zv60
  have hzn := zz_ne
  simp only [HZ.out] at hzv hzn hq
  by_cases hz : l0 ++ l1 = zz
  · simp only [if_pos hz]
    simp only [hz, decide_true] at hq
    go_enter Tryd.func16, Tryd.ntmps16
    go_wp2_with (first
      | (go_at_call 21; refine t1.mono ?_; rintro e w3 ⟨rfl, hB3⟩; have HB3 : Hid (Below w.heap.size w w3) := ⟨hB3⟩; clear hB3 t1)
      | (refine wpl_alloc60 rfl rfl ?_; obtain ⟨b1, Hb1⟩ : ∃ b, Hid (w3.heap.size = b) := ⟨_, ⟨rfl⟩⟩; obtain ⟨w4, Hw4⟩ : ∃ w4, Hid (w3.alloc (.cells (Dk.pa zz) 60) = w4) := ⟨_, ⟨rfl⟩⟩; have HR4 : Hid (w4.heap[b1]? = some (.cells (Dk.pa zz) 60 (0, 0))) := ⟨by rw [← Hw4.out, ← Hb1.out]; exact heap_alloc_new w3 _⟩; have HB4 : Hid (Below w3.heap.size w3 w4) := ⟨by rw [← Hw4.out]; exact (Below.refl _ w3).alloc (Nat.le_refl _) _⟩; rw [Hw4.out, Hb1.out])
      | (refine wpList_store_row rfl 60 (.tmp 4) (.tmp 11) rfl b1 PL rfl rfl 60 (Dk.pa zz) HR4.out hiPL HPZ.out HP1.out ?_; obtain ⟨w5, Hw5⟩ : ∃ x, Hid (w4.setRow b1 PL = x) := ⟨_, ⟨rfl⟩⟩; have HR5 : Hid (w5.heap[b1]? = some (.cells PL 60 (0, 0))) := ⟨by rw [← Hw5.out]; exact setRow_heap _ _ _ _ 60 (0, 0) HR4.out⟩; have HB5 : Hid (Below w.heap.size w w5) := ⟨by rw [← Hw5.out]; exact Dk.below_setRow' (HB3.out.trans (HB4.out.mono HB3.out.size)) (by rw [← Hb1.out]; exact HB3.out.size) _⟩; rw [Hw5.out])
      | (refine wpList_load_row rfl 60 (.tmp 4) rfl b1 rfl 60 PL (0, 0) _ HR5.out Tryd.underlying60 rfl hiPL ?_))
    go_ret2
    exact ⟨_, rfl, Oc.OwnB.nil _ _ _, HB5.out⟩
  simp only [if_neg hz]
  simp only [decide_eq_false hz] at hq
  by_cases ha : ac < 0
  · simp only [if_pos ha]
    go_enter Tryd.func16, Tryd.ntmps16
    go_upto_region 7 with (first
      | (go_at_call 21; refine t1.mono ?_; rintro e w3 ⟨rfl, hB3⟩; have HB3 : Hid (Below w.heap.size w w3) := ⟨hB3⟩; clear hB3 t1)
      | (refine wpl_alloc60 rfl rfl ?_; obtain ⟨b1, Hb1⟩ : ∃ b, Hid (w3.heap.size = b) := ⟨_, ⟨rfl⟩⟩; obtain ⟨w4, Hw4⟩ : ∃ w4, Hid (w3.alloc (.cells (Dk.pa zz) 60) = w4) := ⟨_, ⟨rfl⟩⟩; have HR4 : Hid (w4.heap[b1]? = some (.cells (Dk.pa zz) 60 (0, 0))) := ⟨by rw [← Hw4.out, ← Hb1.out]; exact heap_alloc_new w3 _⟩; have HB4 : Hid (Below w3.heap.size w3 w4) := ⟨by rw [← Hw4.out]; exact (Below.refl _ w3).alloc (Nat.le_refl _) _⟩; rw [Hw4.out, Hb1.out])
      | (refine wpList_store_row rfl 60 (.tmp 4) (.tmp 11) rfl b1 PL rfl rfl 60 (Dk.pa zz) HR4.out hiPL HPZ.out HP1.out ?_; obtain ⟨w5, Hw5⟩ : ∃ x, Hid (w4.setRow b1 PL = x) := ⟨_, ⟨rfl⟩⟩; have HR5 : Hid (w5.heap[b1]? = some (.cells PL 60 (0, 0))) := ⟨by rw [← Hw5.out]; exact setRow_heap _ _ _ _ 60 (0, 0) HR4.out⟩; have HB5 : Hid (Below w.heap.size w w5) := ⟨by rw [← Hw5.out]; exact Dk.below_setRow' (HB3.out.trans (HB4.out.mono HB3.out.size)) (by rw [← Hb1.out]; exact HB3.out.size) _⟩; rw [Hw5.out])
      | (refine wpList_load_row rfl 60 (.tmp 4) rfl b1 rfl 60 PL (0, 0) _ HR5.out Tryd.underlying60 rfl hiPL ?_)
      | (go_at_call 22; refine (t2 w5 HB5.out).mono ?_; rintro e w6 ⟨v6, rfl, hO6, hB6⟩; obtain ⟨a6, c6, rfl⟩ := Oc.OwnB.slice hO6; have HO6 : Hid (OwnB w6 w5.heap.size (.slice a6 T.length c6) T) := ⟨hO6⟩; have HB6 : Hid (Below w5.heap.size w5 w6) := ⟨hB6⟩; clear hO6 hB6 t2; obtain ⟨f, Hf⟩ : ∃ f, Hid (w6.heap.size = f) := ⟨_, ⟨rfl⟩⟩; obtain ⟨w7, Hw7⟩ : ∃ x, Hid (w6.alloc (.cells (ent 0 (.slice none 0 0)) 64) = x) := ⟨_, ⟨rfl⟩⟩; have HF7 : Hid (w7.heap[f]? = some (.cells (ent 0 (.slice none 0 0)) 64 (0, 0))) := ⟨by rw [← Hw7.out, ← Hf.out]; exact heap_alloc_new w6 _⟩; have HB7 : Hid (Below w6.heap.size w6 w7) := ⟨by rw [← Hw7.out]; exact (Below.refl _ w6).alloc (Nat.le_refl _) _⟩; obtain ⟨w8, Hw8⟩ : ∃ x, Hid (w7.setRow f (ent (m : Int) (.slice a6 T.length c6)) = x) := ⟨_, ⟨rfl⟩⟩)
      | (rw [Hw7.out, Hf.out]; refine wpList_store_row rfl 64 (.tmp 7) (.tmp 23) rfl f (ent (m : Int) (.slice a6 T.length c6)) rfl rfl 64 (ent 0 (.slice none 0 0)) HF7.out (hi64 _ _) rfl (by kernel_rfl) ?_; rw [Hw8.out]))
    have HF8 : Hid (w8.heap[f]? = some (.cells (ent (m : Int) (.slice a6 T.length c6)) 64 (0, 0))) := ⟨by rw [← Hw8.out]; exact setRow_heap _ _ _ _ 64 (0, 0) HF7.out⟩
    have HB68 : Hid (Below w6.heap.size w6 w8) := ⟨by rw [← Hw8.out]; exact Dk.below_setRow' HB7.out (by rw [Hf.out]; exact Nat.le_refl _) _⟩
    have HB8 : Hid (Below w.heap.size w w8) := ⟨HB5.out.trans ((HB6.out.trans (HB68.out.mono HB6.out.size)).mono HB5.out.size)⟩
    have HO8 : Hid (OwnB w8 w.heap.size (.slice a6 T.length c6) T) := ⟨Oc.OwnB.mono (Oc.OwnB.below HO6.out HB68.out) HB5.out.size⟩
    have hcf0 : w8.cell? ⟨f, 0, none⟩ = some (.int .i64 (m : Int)) := by rw [cell_of_row _ _ _ _ _ _ HF8.out]; rfl
    have hcf1 : w8.cell? ⟨f, 1, none⟩ = some (.slice a6 T.length c6) := by rw [cell_of_row _ _ _ _ _ _ HF8.out]; rfl
    go_wp2_with fail
    go_ret2
    exact ⟨_, rfl, Oc.OwnB.nil _ _ _, HB8.out⟩
  · simp only [if_neg ha]
    go_enter Tryd.func16, Tryd.ntmps16
    go_upto_region 7 with (first
      | (go_at_call 21; refine t1.mono ?_; rintro e w3 ⟨rfl, hB3⟩; have HB3 : Hid (Below w.heap.size w w3) := ⟨hB3⟩; clear hB3 t1)
      | (refine wpl_alloc60 rfl rfl ?_; obtain ⟨b1, Hb1⟩ : ∃ b, Hid (w3.heap.size = b) := ⟨_, ⟨rfl⟩⟩; obtain ⟨w4, Hw4⟩ : ∃ w4, Hid (w3.alloc (.cells (Dk.pa zz) 60) = w4) := ⟨_, ⟨rfl⟩⟩; have HR4 : Hid (w4.heap[b1]? = some (.cells (Dk.pa zz) 60 (0, 0))) := ⟨by rw [← Hw4.out, ← Hb1.out]; exact heap_alloc_new w3 _⟩; have HB4 : Hid (Below w3.heap.size w3 w4) := ⟨by rw [← Hw4.out]; exact (Below.refl _ w3).alloc (Nat.le_refl _) _⟩; rw [Hw4.out, Hb1.out])
      | (refine wpList_store_row rfl 60 (.tmp 4) (.tmp 11) rfl b1 PL rfl rfl 60 (Dk.pa zz) HR4.out hiPL HPZ.out HP1.out ?_; obtain ⟨w5, Hw5⟩ : ∃ x, Hid (w4.setRow b1 PL = x) := ⟨_, ⟨rfl⟩⟩; have HR5 : Hid (w5.heap[b1]? = some (.cells PL 60 (0, 0))) := ⟨by rw [← Hw5.out]; exact setRow_heap _ _ _ _ 60 (0, 0) HR4.out⟩; have HB5 : Hid (Below w.heap.size w w5) := ⟨by rw [← Hw5.out]; exact Dk.below_setRow' (HB3.out.trans (HB4.out.mono HB3.out.size)) (by rw [← Hb1.out]; exact HB3.out.size) _⟩; rw [Hw5.out])
      | (refine wpList_load_row rfl 60 (.tmp 4) rfl b1 rfl 60 PL (0, 0) _ HR5.out Tryd.underlying60 rfl hiPL ?_)
      | (go_at_call 22; refine (t2 w5 HB5.out).mono ?_; rintro e w6 ⟨v6, rfl, hO6, hB6⟩; obtain ⟨a6, c6, rfl⟩ := Oc.OwnB.slice hO6; have HO6 : Hid (OwnB w6 w5.heap.size (.slice a6 T.length c6) T) := ⟨hO6⟩; have HB6 : Hid (Below w5.heap.size w5 w6) := ⟨hB6⟩; clear hO6 hB6 t2; obtain ⟨f, Hf⟩ : ∃ f, Hid (w6.heap.size = f) := ⟨_, ⟨rfl⟩⟩; obtain ⟨w7, Hw7⟩ : ∃ x, Hid (w6.alloc (.cells (ent 0 (.slice none 0 0)) 64) = x) := ⟨_, ⟨rfl⟩⟩; have HF7 : Hid (w7.heap[f]? = some (.cells (ent 0 (.slice none 0 0)) 64 (0, 0))) := ⟨by rw [← Hw7.out, ← Hf.out]; exact heap_alloc_new w6 _⟩; have HB7 : Hid (Below w6.heap.size w6 w7) := ⟨by rw [← Hw7.out]; exact (Below.refl _ w6).alloc (Nat.le_refl _) _⟩; obtain ⟨w8, Hw8⟩ : ∃ x, Hid (w7.setRow f (ent (m : Int) (.slice a6 T.length c6)) = x) := ⟨_, ⟨rfl⟩⟩)
      | (rw [Hw7.out, Hf.out]; refine wpList_store_row rfl 64 (.tmp 7) (.tmp 23) rfl f (ent (m : Int) (.slice a6 T.length c6)) rfl rfl 64 (ent 0 (.slice none 0 0)) HF7.out (hi64 _ _) rfl (by kernel_rfl) ?_; rw [Hw8.out]))
    have HF8 : Hid (w8.heap[f]? = some (.cells (ent (m : Int) (.slice a6 T.length c6)) 64 (0, 0))) := ⟨by rw [← Hw8.out]; exact setRow_heap _ _ _ _ 64 (0, 0) HF7.out⟩
    have HB68 : Hid (Below w6.heap.size w6 w8) := ⟨by rw [← Hw8.out]; exact Dk.below_setRow' HB7.out (by rw [Hf.out]; exact Nat.le_refl _) _⟩
    have HB8 : Hid (Below w.heap.size w w8) := ⟨HB5.out.trans ((HB6.out.trans (HB68.out.mono HB6.out.size)).mono HB5.out.size)⟩
    have HO8 : Hid (OwnB w8 w.heap.size (.slice a6 T.length c6) T) := ⟨Oc.OwnB.mono (Oc.OwnB.below HO6.out HB68.out) HB5.out.size⟩
    have hcf0 : w8.cell? ⟨f, 0, none⟩ = some (.int .i64 (m : Int)) := by rw [cell_of_row _ _ _ _ _ _ HF8.out]; rfl
    have hcf1 : w8.cell? ⟨f, 1, none⟩ = some (.slice a6 T.length c6) := by rw [cell_of_row _ _ _ _ _ _ HF8.out]; rfl
    go_wp2_with fail
    go_ret2
    exact ⟨_, rfl, HO8.out, HB8.out⟩
end
end Go.Proofs.YtgjjjkokmgdmjaaDoor
