/- The program's Add. -/
import Derived.Test.YtiloclekhddkfabDoorB11
namespace Go.Proofs.YtiloclekhddkfabDoor
open Go.RowKit Go.Shelf Go.Sort
/-- Bits are turned on. -/
def orL (cs : List Nat) (L : List Nat) : List Nat := L.foldl (fun cs x => cs.set (x / 64) (cs.getD (x / 64) 0 ||| 2 ^ (x % 64))) cs
theorem orL_snoc (cs L : List Nat) (x : Nat) : orL cs (L ++ [x]) = (orL cs L).set (x / 64) ((orL cs L).getD (x / 64) 0 ||| 2 ^ (x % 64)) := by simp [orL, List.foldl_append]
theorem orL_len : ∀ (L cs : List Nat), (orL cs L).length = cs.length
  | [], _ => rfl
  | x :: L, cs => by
    show (orL (cs.set _ _) L).length = _
    rw [orL_len L, List.length_set]
theorem getD_lt {cs : List Nat} (h : ∀ n ∈ cs, n < 18446744073709551616) (i : Nat) : cs.getD i 0 < 18446744073709551616 := by
  rcases Nat.lt_or_ge i cs.length with hi | hi
  · simp only [List.getD, List.getElem?_eq_getElem hi, Option.getD_some]; exact h _ (List.getElem_mem hi)
  · simp [List.getD, List.getElem?_eq_none hi]
theorem orL_lt : ∀ (L cs : List Nat), (∀ n ∈ cs, n < 18446744073709551616) → ∀ n ∈ orL cs L, n < 18446744073709551616
  | [], _, h => h
  | x :: L, cs, h => orL_lt L _ (fun n hn => by
    rcases List.mem_or_eq_of_mem_set hn with z | z
    · exact h n z
    · rw [z]
      exact Nat.or_lt_two_pow (n := 64) (getD_lt h _) (Nat.pow_lt_pow_right (by decide) (Nat.mod_lt _ (by decide))))
/-- What ends plainly, or not at all. -/
def only (K : Act → World → Prop) : Exit → Act → World → Prop
  | .normal, a, w => K a w
  | _, _, _ => False
theorem wp_only {P : Program} {c : Code} {K : Act → World → Prop} {Q : Exit → Act → World → Prop} {a : Act} {w : World} (h : c.wp P (only K) a w) : c.wp P (Exit.then K Q) a w := wp_mono h (fun e a w hq => by cases e <;> first | exact hq | exact hq.elim)
theorem chg_row {W W' : World} {row : Option Nat} (hg : W.grownBy W' row) : Chg row.toList W W' := ⟨hg.os, hg.tape, hg.output, hg.size, fun k hk hx => hg.block k hk (fun e => hx (by rw [← e]; simp))⟩
theorem fl_own {β : Type} {B p c cap : Nat} {size ways : Int} (f : β → List Nat) : OwnFrom B (fun s W => FlAt W p c cap size ways (f s)) := by
  intro s W W' row h hg hr
  obtain ⟨cur, hh, _⟩ := h.blk
  refine h.far (chg_row hg) (fun hm => ?_) (fun hm => ?_)
  · obtain ⟨_, o, ho, hc⟩ := hr p (by simpa using hm)
    rw [h.row] at ho; cases ho; cases hc
  · obtain ⟨_, o, ho, hc⟩ := hr c (by simpa using hm)
    rw [hh] at ho; cases ho; cases hc
theorem chg_own {β : Type} {B : Nat} {X : List Nat} {w : World} (hB : w.heap.size ≤ B) : OwnFrom B (fun (_ : β) W => Chg X w W) := by
  intro s W W' row h hg hr
  exact ⟨hg.os.trans h.os, hg.tape.trans h.tape, hg.output.trans h.output, Nat.le_trans h.size hg.size, fun k hk hx => (hg.block k (Nat.lt_of_lt_of_le hk h.size) (fun e => by have := (hr k e.symm).1; omega)).trans (h.block k hk hx)⟩
section
variable {w : World}
attribute [local go_sem] Oper.semAt_some
set_option maxHeartbeats 8000000 in
set_option maxRecDepth 100000 in
theorem add_any {p c cap : Nat} {size ways : Nat} {cs : List Nat} (s : List Int) (hs : Sum32 s) (hft : ft size ways = true) (h : FlAt w p c cap size ways cs) (hn : cs.length = (size + 63) / 64) (hm : ∀ n ∈ cs, n < 18446744073709551616) :
    Calls Tryd.prog 17 #[.pointer (some ⟨p, 0, none⟩), .agg (sc s).toArray] w fun e w' => e = .returned (.int .i64 0) ∧ FlAt w' p c cap size ways (orL cs ((plc s size ways).map Int.toNat)) ∧ Chg [c] w w' := by
  refine (callsIn_wide (n := 10)).1 ?_
  have hbox := run_boxS
  have hfb : 1 ≤ (size : Int) ∧ (size : Int) ≤ 65536 ∧ 1 ≤ (ways : Int) ∧ (ways : Int) ≤ 8 := of_decide_eq_true hft
  have Hpl : Hid (p < w.heap.size ∧ c < w.heap.size) := ⟨⟨h.lt, h.clt⟩⟩
  obtain ⟨b, Hb⟩ : ∃ b, Hid (w.heap.size = b) := ⟨_, ⟨rfl⟩⟩
  obtain ⟨W, HW⟩ : ∃ W, Hid ((w.alloc (.cells #[.pointer (some ⟨p, 0, none⟩)] 23)).alloc (.cells (sc s).toArray 22) = W) := ⟨_, ⟨rfl⟩⟩
  have HBW : Hid (Below w.heap.size w W) := ⟨by rw [← HW.out]; exact ((Below.refl _ w).alloc (Nat.le_refl _) _).alloc (by simp) _⟩
  have HWs : Hid (W.heap.size = b + 2) := ⟨by rw [← HW.out, ← Hb.out]; simp⟩
  have hBx : Boxed W b 23 (.pointer (some ⟨p, 0, none⟩)) := by rw [← HW.out, ← Hb.out]; exact (Boxed.new w 23 _).alloc _
  have HAt : Hid (At W (b + 1) 0 (sc s)) := ⟨At.row (fr := (0, 0)) (t := 22) (by rw [← HW.out, ← Hb.out]; simpa using heap_alloc_new (w.alloc (.cells #[.pointer (some ⟨p, 0, none⟩)] 23)) (.cells (sc s).toArray 22))⟩
  have HF : Hid (FlAt W p c cap size ways cs) := ⟨h.far (X := []) (Chg.ofBelow HBW.out) (by simp) (by simp)⟩
  have hcb := hBx.cell
  obtain ⟨W0, Hwd⟩ : ∃ x, Hid (W.drew = x) := ⟨_, ⟨rfl⟩⟩
  have HC0 : Hid (Chg [] W W0) := ⟨by rw [← Hwd.out]; exact (Chg.refl [] W).drew⟩
  have HW0s : Hid (W0.heap.size = b + 2) := ⟨by rw [← Hwd.out]; exact HWs.out⟩
  have t1 := places_any (w := W0) s size ways
  obtain ⟨W4, HW4⟩ : ∃ x, Hid (((W0.alloc (.cells (sc s).toArray 22)).alloc (.cells #[.int .i64 (size : Int)] 3)).alloc (.cells #[.int .i64 (ways : Int)] 3) = x) := ⟨_, ⟨rfl⟩⟩
  have HC4 : Hid (Chg [] W W4) := ⟨by rw [← HW4.out]; exact HC0.out.trans (Chg.ofBelow ((((Below.refl _ W0).alloc (Nat.le_refl _) _).alloc (by simp) _).alloc (by simp; omega) _))⟩
  have HSS : Hid (∀ w', Chg [] W w' → (loadVar 22 ⟨b + 1, 0, none⟩).run Tryd.prog w' = .ok (.agg (sc s).toArray) w' ∧ w'.cell? ⟨b, 0, none⟩ = some (.pointer (some ⟨p, 0, none⟩)) ∧ w'.cell? ⟨p, 0, none⟩ = some (.int .i64 (size : Int)) ∧ w'.cell? ⟨p, 1, none⟩ = some (.int .i64 (ways : Int))) := ⟨fun w' hc => by
    have hf := HF.out.far hc (by simp) (by simp)
    exact ⟨run_loadS (HAt.out.far hc (by simp)) hs, (hc.cell (a := ⟨b, 0, none⟩) (World.block_lt_of_cell? _ _ hcb) (by simp)).trans hcb, hf.c0, hf.c1⟩⟩
  have hS0 := HSS.out _ (Chg.refl [] W).drew
  have HS4 := Hid.mk (HSS.out _ HC4.out)
  have HSq := Hid.mk (places_stops (w := W4) s hs size ways hft (b + 2) (At.row (fr := (0, 0)) (t := 22) (by rw [← HW4.out, ← HW0s.out, Below.heap_alloc _ _ _ (by simp; omega), Below.heap_alloc _ _ _ (by simp)]; exact heap_alloc_new W0 _))
    (by rw [← HW4.out, ← HW0s.out]; refine Go.Lib.cell?_alloc_some _ ?_; simp)
    (by rw [← HW4.out, ← HW0s.out]; simpa using (Boxed.new ((W0.alloc (.cells (sc s).toArray 22)).alloc (.cells #[.int .i64 (size : Int)] 3)) 3 (.int .i64 (ways : Int))).cell))
  have HW4s : Hid (W4.heap.size = b + 5) := ⟨by rw [← HW4.out]; simp [HW0s.out]⟩
  have HF4 : Hid (FlAt W4 p c cap size ways cs) := ⟨HF.out.far HC4.out (by simp) (by simp)⟩
  have HB4 : Hid (Boxed W4 b 23 (.pointer (some ⟨p, 0, none⟩))) := ⟨(HC4.out.block b hBx.lt (by simp)).trans hBx⟩
  have HG4 : Hid (Chg [c] w W4) := ⟨(Chg.ofBelow HBW.out).trans (HC4.out.mono (by simp))⟩
  rw [HW0s.out] at t1
  generalize plc s size ways = PL at HSq ⊢
  generalize (sc s).toArray = es at HW HW4 t1 hS0 HS4 ⊢
  obtain ⟨q, Hq⟩ : ∃ q, b + 2 = q := ⟨_, rfl⟩
  rw [Hq] at t1
  rw [Hq] at HSq
  clear h hBx HSS HAt HF
  refine callsIn_of_wp_marks Tryd.func17 rfl trivial ?_ rfl
  simp only [Tryd.ntmps17, List.size_toArray, List.length_cons, List.length_nil, Nat.reduceAdd, Nat.reduceSub, Array.replicate_succ, Array.replicate_zero, List.push_toArray, List.append_toArray, List.nil_append, List.cons_append]
  gi_wp2
  rw [HW.out, Hb.out]
  refine wpIn_wide.2 (wp_only ?_)
  refine wp_region_held_drew (S := (fun w' => (loadVar 22 ⟨b + 1, 0, none⟩).run Tryd.prog w' = .ok (.agg es) w' ∧ w'.cell? ⟨b, 0, none⟩ = some (.pointer (some ⟨p, 0, none⟩)) ∧ w'.cell? ⟨p, 0, none⟩ = some (.int .i64 (size : Int)) ∧ w'.cell? ⟨p, 1, none⟩ = some (.int .i64 (ways : Int)))) (by kernel_rfl) hS0 (fun hS => ?_)
  refine wpAnyH_take (i := 0) (v := .agg es) rfl (by kernel_rfl) (by kernel_rfl) (by kernel_rfl) (fun _ _ _ h => h) (Or.inl ⟨by kernel_rfl, fun wx hx => exec_load rfl (b + 1) 0 (by kernel_rfl) hx.1⟩) hS ?_
  refine wpAnyH_take (i := 1) (v := .pointer (some ⟨p, 0, none⟩)) rfl (by kernel_rfl) (by kernel_rfl) (by kernel_rfl) (fun _ _ _ h => h) (Or.inl ⟨by kernel_rfl, fun wx hx => by have h1 := hx.2.1; have h2 := hx.2.2.1; have h3 := hx.2.2.2; go_simp⟩) hS ?_
  refine wpAnyH_take (i := 2) (v := .pointer (some ⟨p, 0, none⟩)) rfl (by kernel_rfl) (by kernel_rfl) (by kernel_rfl) (fun _ _ _ h => h) (Or.inl ⟨by kernel_rfl, fun wx hx => by go_simp⟩) hS ?_
  refine wpAnyH_take (i := 3) (v := .pointer (some ⟨p, 0, none⟩)) rfl (by kernel_rfl) (by kernel_rfl) (by kernel_rfl) (fun _ _ _ h => h) (Or.inl ⟨by kernel_rfl, fun wx hx => by go_simp⟩) hS ?_
  refine wpAnyH_take (i := 4) (v := .int .i64 (size : Int)) rfl (by kernel_rfl) (by kernel_rfl) (by kernel_rfl) (fun _ _ _ h => h) (Or.inl ⟨by kernel_rfl, fun wx hx => by have h1 := hx.2.1; have h2 := hx.2.2.1; have h3 := hx.2.2.2; go_simp⟩) hS ?_
  refine wpAnyH_take (i := 5) (v := .pointer (some ⟨p, 0, none⟩)) rfl (by kernel_rfl) (by kernel_rfl) (by kernel_rfl) (fun _ _ _ h => h) (Or.inl ⟨by kernel_rfl, fun wx hx => by have h1 := hx.2.1; have h2 := hx.2.2.1; have h3 := hx.2.2.2; go_simp⟩) hS ?_
  refine wpAnyH_take (i := 6) (v := .pointer (some ⟨p, 0, none⟩)) rfl (by kernel_rfl) (by kernel_rfl) (by kernel_rfl) (fun _ _ _ h => h) (Or.inl ⟨by kernel_rfl, fun wx hx => by go_simp⟩) hS ?_
  refine wpAnyH_take (i := 7) (v := .pointer (some ⟨p, 1, none⟩)) rfl (by kernel_rfl) (by kernel_rfl) (by kernel_rfl) (fun _ _ _ h => h) (Or.inl ⟨by kernel_rfl, fun wx hx => by go_simp⟩) hS ?_
  refine wpAnyH_take (i := 8) (v := .int .i64 (ways : Int)) rfl (by kernel_rfl) (by kernel_rfl) (by kernel_rfl) (fun _ _ _ h => h) (Or.inl ⟨by kernel_rfl, fun wx hx => by have h1 := hx.2.1; have h2 := hx.2.2.1; have h3 := hx.2.2.2; go_simp⟩) hS ?_
  refine wpAnyH_ready (rs := [9]) (by kernel_rfl) (by simp) (AllReadyH.cons rfl (fun Kc hK => ?_) AllReadyH.nil)
  go_simp
  rw [Hwd.out]
  refine t1.mono ?_
  rintro e w4 ⟨rfl, ex⟩
  rw [HW4.out] at ex
  subst ex
  refine hK.out _ _ HS4.out (fun hS => ?_)
  clear hK
  refine wpAnyH_done (by kernel_rfl) ?_ _
  clear hS hS0 HS4
  unfold only
  go_simp
  gi_wp2
  refine wpIn_rangeFunc_ownG rfl (by decide) (gf := 38) (lb := #[.pointer (some ⟨q + 1, 0, none⟩), .pointer (some ⟨q + 2, 0, none⟩), .pointer (some ⟨q, 0, none⟩)]) rfl trivial (enters_of Tryd.func38 (by kernel_rfl) rfl)
    HSq.out (fun h k => Kb.trans h k) (kb_put (by rw [HW4s.out]; omega)) (Below.refl _ _) (fun _ => rfl)
    (fun pre W' => (Boxed W' b 23 (.pointer (some ⟨p, 0, none⟩)) ∧ FlAt W' p c cap size ways (orL cs (pre.map (fun x => x.1)))) ∧ Chg [c] w W')
    (fun _ _ _ => False)
    (OwnFrom.and (OwnFrom.and (Own.from (boxed_own b 23 (fun _ => .pointer (some ⟨p, 0, none⟩))) _) (fl_own (fun (pre : List {x : Nat // x < size}) => orL cs (pre.map (fun x => x.1))))) (chg_own (by rw [HW4s.out, Hb.out]; omega)))
    (fun _ _ _ _ _ hs _ _ => hs)
    ⟨⟨HB4.out, HF4.out⟩, HG4.out⟩
    (fun x => { tmps := #[.pointer (some ⟨p, 0, none⟩), .agg es, .pointer (some ⟨b, 0, none⟩), .pointer (some ⟨b + 1, 0, none⟩), .int .i64 0, .int .i64 (x.1 : Int), .pointer (some ⟨p, 0, none⟩), .bool false, .agg es, .pointer (some ⟨p, 0, none⟩), .pointer (some ⟨p, 0, none⟩), .pointer (some ⟨p, 0, none⟩), .int .i64 (size : Int), .pointer (some ⟨p, 0, none⟩), .pointer (some ⟨p, 0, none⟩), .pointer (some ⟨p, 1, none⟩), .int .i64 (ways : Int), .func (.func 38) #[] #[.pointer (some ⟨q + 1, 0, none⟩), .pointer (some ⟨q + 2, 0, none⟩), .pointer (some ⟨q, 0, none⟩)], .int .i64 (x.1 : Int), undef, undef, undef], defers := [] }) ?assign ?body ?done ?stop
  case assign =>
    intro l x W K hK
    gi_wp2
    exact hK
  case body =>
    rintro l pre x W' ⟨⟨hbx, hfl⟩, hg⟩ hlt
    have hcb := hbx.cell
    have HT := turnOn_any (w := W') x.1 (by rw [orL_len, hn]; have := x.2; omega) hfl (orL_lt _ _ hm) (by rw [orL_len, hn]; omega)
    have Hcb : Hid (c < b) := ⟨by have := Hpl.out; have := Hb.out; omega⟩
    gi_wp2_with (refine ⟨trivial, ?_⟩; gi_at_call 32; refine (CallsIn.inRound l (callsIn_wide.2 HT)).mono ?_; rintro e w6 ⟨rfl, hf6, hc6⟩)
    have z1 := Hcb.out
    have z2 := HW4s.out
    exact ⟨⟨hc6.size, fun k o hB hk ho => (hc6.block k (Array.getElem?_eq_some_iff.1 hk).1 (by simp; omega)).trans hk⟩, Kb.of hc6 (by simp; omega), ⟨(hc6.block b hbx.lt (by simp; omega)).trans hbx, by rw [List.map_append, List.map_cons, List.map_nil, orL_snoc]; exact hf6⟩, hg.trans hc6⟩
  case done =>
    rintro D ys W' hD hys ⟨⟨hbx, hfl⟩, hg⟩ hK
    have Hys : Hid (orL cs (PL.map Int.toNat) = orL cs (ys.map (fun x => x.1))) := ⟨by rw [← hys, List.map_map]; congr 1⟩
    have Hfl := Hid.mk hfl
    have HDs : Hid (w.heap.size ≤ D) := ⟨by rw [HW4s.out] at hD; have := Hb.out; omega⟩
    gi_wp2
    refine ⟨by simp, .inl ⟨_, _, rfl, run_takeDeferred hK, ?_⟩⟩
    exact ⟨_, results_tmp rfl _ _ _, rfl, by rw [Hys.out]; exact fl_own (B := 0) (fun (_ : Unit) => orL cs (ys.map (fun x => x.1))) () W' _ (some D) Hfl.out (grownBy_putObj' W' D _) (fun r e => by cases e; exact ⟨Nat.zero_le _, _, hK, rfl⟩), chg_own (β := Unit) (Nat.le_refl _) () W' _ (some D) hg (grownBy_putObj' W' D _) (fun r e => by cases e; exact ⟨HDs.out, _, hK, rfl⟩)⟩
  case stop =>
    rintro D c pre W _ _ h _
    exact h.elim
end
end Go.Proofs.YtiloclekhddkfabDoor
