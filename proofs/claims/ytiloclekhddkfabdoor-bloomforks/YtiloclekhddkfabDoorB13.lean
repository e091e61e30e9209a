/- The program's Has. -/
import Derived.Test.YtiloclekhddkfabDoorB12
namespace Go.Proofs.YtiloclekhddkfabDoor
open Go.RowKit Go.Shelf Go.Sort
/-- Is a bit on? -/
def onB (cs : List Nat) (x : Nat) : Bool := Nat.testBit (cs.getD (x / 64) 0) (x % 64)
section
variable {w : World}
attribute [local go_sem] Oper.semAt_some
set_option maxHeartbeats 8000000 in
set_option maxRecDepth 100000 in
theorem has_any {p c cap : Nat} {size ways : Nat} {cs : List Nat} (s : List Int) (hs : Sum32 s) (hft : ft size ways = true) (h : FlAt w p c cap size ways cs) (hn : cs.length = (size + 63) / 64) (hm : ∀ n ∈ cs, n < 18446744073709551616) :
    Calls Tryd.prog 14 #[.pointer (some ⟨p, 0, none⟩), .agg (sc s).toArray] w fun e w' => e = .returned (.bool (decide (∀ x ∈ (plc s size ways).map Int.toNat, onB cs x = true))) ∧ Below w.heap.size w w' := by
  refine (callsIn_wide (n := 10)).1 ?_
  have hbox := run_boxS
  have hfb : 1 ≤ (size : Int) ∧ (size : Int) ≤ 65536 ∧ 1 ≤ (ways : Int) ∧ (ways : Int) ≤ 8 := of_decide_eq_true hft
  have Hpl : Hid (p < w.heap.size ∧ c < w.heap.size) := ⟨⟨h.lt, h.clt⟩⟩
  obtain ⟨b, Hb⟩ : ∃ b, Hid (w.heap.size = b) := ⟨_, ⟨rfl⟩⟩
  obtain ⟨W, HW⟩ : ∃ W, Hid (((w.alloc (.cells #[.pointer (some ⟨p, 0, none⟩)] 23)).alloc (.cells (sc s).toArray 22)).alloc (.cells #[.bool false] 4) = W) := ⟨_, ⟨rfl⟩⟩
  have HBW : Hid (Below w.heap.size w W) := ⟨by rw [← HW.out]; exact (((Below.refl _ w).alloc (Nat.le_refl _) _).alloc (by simp) _).alloc (by simp; omega) _⟩
  have HWs : Hid (W.heap.size = b + 3) := ⟨by rw [← HW.out, ← Hb.out]; simp⟩
  have hBx : Boxed W b 23 (.pointer (some ⟨p, 0, none⟩)) := by rw [← HW.out, ← Hb.out]; exact ((Boxed.new w 23 _).alloc _).alloc _
  have hBr : Boxed W (b + 2) 4 (.bool false) := by rw [← HW.out, ← Hb.out]; simpa using Boxed.new ((w.alloc (.cells #[.pointer (some ⟨p, 0, none⟩)] 23)).alloc (.cells (sc s).toArray 22)) 4 (.bool false)
  have HAt : Hid (At W (b + 1) 0 (sc s)) := ⟨At.row (fr := (0, 0)) (t := 22) (by rw [← HW.out, ← Hb.out, Below.heap_alloc _ _ _ (by simp)]; simpa using heap_alloc_new (w.alloc (.cells #[.pointer (some ⟨p, 0, none⟩)] 23)) (.cells (sc s).toArray 22))⟩
  have HF : Hid (FlAt W p c cap size ways cs) := ⟨h.far (X := []) (Chg.ofBelow HBW.out) (by simp) (by simp)⟩
  have hcb := hBx.cell
  obtain ⟨W0, Hwd⟩ : ∃ x, Hid (W.drew = x) := ⟨_, ⟨rfl⟩⟩
  have HC0 : Hid (Chg [] W W0) := ⟨by rw [← Hwd.out]; exact (Chg.refl [] W).drew⟩
  have HW0s : Hid (W0.heap.size = b + 3) := ⟨by rw [← Hwd.out]; exact HWs.out⟩
  have t1 := places_any (w := W0) s size ways
  obtain ⟨W4, HW4⟩ : ∃ x, Hid (((W0.alloc (.cells (sc s).toArray 22)).alloc (.cells #[.int .i64 (size : Int)] 3)).alloc (.cells #[.int .i64 (ways : Int)] 3) = x) := ⟨_, ⟨rfl⟩⟩
  have HC4 : Hid (Chg [] W W4) := ⟨by rw [← HW4.out]; exact HC0.out.trans (Chg.ofBelow ((((Below.refl _ W0).alloc (Nat.le_refl _) _).alloc (by simp) _).alloc (by simp; omega) _))⟩
  have HSS : Hid (∀ w', Chg [] W w' → (loadVar 22 ⟨b + 1, 0, none⟩).run Tryd.prog w' = .ok (.agg (sc s).toArray) w' ∧ w'.cell? ⟨b, 0, none⟩ = some (.pointer (some ⟨p, 0, none⟩)) ∧ w'.cell? ⟨p, 0, none⟩ = some (.int .i64 (size : Int)) ∧ w'.cell? ⟨p, 1, none⟩ = some (.int .i64 (ways : Int))) := ⟨fun w' hc => by
    have hf := HF.out.far hc (by simp) (by simp)
    exact ⟨run_loadS (HAt.out.far hc (by simp)) hs, (hc.cell (a := ⟨b, 0, none⟩) (World.block_lt_of_cell? _ _ hcb) (by simp)).trans hcb, hf.c0, hf.c1⟩⟩
  have hS0 := HSS.out _ (Chg.refl [] W).drew
  have HS4 := Hid.mk (HSS.out _ HC4.out)
  have HSq := Hid.mk (places_stops (w := W4) s hs size ways hft (b + 3) (At.row (fr := (0, 0)) (t := 22) (by rw [← HW4.out, ← HW0s.out, Below.heap_alloc _ _ _ (by simp; omega), Below.heap_alloc _ _ _ (by simp)]; exact heap_alloc_new W0 _))
    (by rw [← HW4.out, ← HW0s.out]; refine Go.Lib.cell?_alloc_some _ ?_; simp)
    (by rw [← HW4.out, ← HW0s.out]; simpa using (Boxed.new ((W0.alloc (.cells (sc s).toArray 22)).alloc (.cells #[.int .i64 (size : Int)] 3)) 3 (.int .i64 (ways : Int))).cell))
  have HW4s : Hid (W4.heap.size = b + 6) := ⟨by rw [← HW4.out]; simp [HW0s.out]⟩
  have HF4 : Hid (FlAt W4 p c cap size ways cs) := ⟨HF.out.far HC4.out (by simp) (by simp)⟩
  have HB4 : Hid (Boxed W4 b 23 (.pointer (some ⟨p, 0, none⟩))) := ⟨(HC4.out.block b hBx.lt (by simp)).trans hBx⟩
  have HG4 : Hid (Below w.heap.size w W4) := ⟨HBW.out.trans (HC4.out.below HBW.out.size (by simp))⟩
  have HR4 : Hid (Boxed W4 (b + 2) 4 (.bool false)) := ⟨(HC4.out.block (b + 2) hBr.lt (by simp)).trans hBr⟩
  rw [HW0s.out] at t1
  generalize plc s size ways = PL at HSq ⊢
  generalize (sc s).toArray = es at HW HW4 t1 hS0 HS4 ⊢
  obtain ⟨q, Hq⟩ : ∃ q, b + 3 = q := ⟨_, rfl⟩
  rw [Hq] at t1
  rw [Hq] at HSq
  clear h hBx hBr HSS HAt HF
  refine callsIn_of_wp_marks Tryd.func14 rfl trivial ?_ rfl
  simp only [Tryd.ntmps14, List.size_toArray, List.length_cons, List.length_nil, Nat.reduceAdd, Nat.reduceSub, Array.replicate_succ, Array.replicate_zero, List.push_toArray, List.append_toArray, List.nil_append, List.cons_append]
  gi_wp2
  rw [HW.out, Hb.out]
  refine wpIn_wide.2 (wp_only ?_)
  refine wp_region_held_drew (S := (fun w' => (loadVar 22 ⟨b + 1, 0, none⟩).run Tryd.prog w' = .ok (.agg es) w' ∧ w'.cell? ⟨b, 0, none⟩ = some (.pointer (some ⟨p, 0, none⟩)) ∧ w'.cell? ⟨p, 0, none⟩ = some (.int .i64 (size : Int)) ∧ w'.cell? ⟨p, 1, none⟩ = some (.int .i64 (ways : Int)))) (by kernel_rfl) hS0 (fun hS => ?_)
  refine wpAnyH_take (i := 0) (v := .agg es) rfl (by kernel_rfl) (by kernel_rfl) (by kernel_rfl) (fun _ _ _ h => h) (Or.inl ⟨by kernel_rfl, fun wx hx => exec_load rfl (b + 1) 0 (by kernel_rfl) hx.1⟩) hS ?_
  refine wpAnyH_take (i := 1) (v := .pointer (some ⟨p, 0, none⟩)) rfl (by kernel_rfl) (by kernel_rfl) (by kernel_rfl) (fun _ _ _ h => h) (Or.inl ⟨by kernel_rfl, fun wx hx => by have h1 := hx.2.1; have h2 := hx.2.2.1; have h3 := hx.2.2.2; go_simp⟩) hS ?_
  refine wpAnyH_take (i := 2) (v := .pointer (some ⟨p, 0, none⟩)) rfl (by kernel_rfl) (by kernel_rfl) (by kernel_rfl) (fun _ _ _ h => h) (Or.inl ⟨by kernel_rfl, fun wx hx => by go_simp⟩) hS ?_
  refine wpAnyH_take (i := 3) (v := .pointer (some ⟨p, 0, none⟩)) rfl (by kernel_rfl) (by kernel_rfl) (by kernel_rfl) (fun _ _ _ h => h) (Or.inl ⟨by kernel_rfl, fun wx hx => by go_simp⟩) hS ?_
  refine wpAnyH_take (i := 4) (v := .int .i64 (size : Int)) rfl (by kernel_rfl) (by kernel_rfl) (by kernel_rfl) (fun _ _ _ h => h) (Or.inl ⟨by kernel_rfl, fun wx hx => by have h1 := hx.2.1; have h2 := hx.2.2.1; have h3 := hx.2.2.2; go_simp⟩) hS ?_
  refine wpAnyH_take (i := 5) (v := .pointer (some ⟨p, 0, none⟩)) rfl (by kernel_rfl) (by kernel_rfl) (by kernel_rfl) (fun _ _ _ h => h) (Or.inl ⟨by kernel_rfl, fun wx hx => by have h1 := hx.2.1; have h2 := hx.2.2.1; have h3 := hx.2.2.2; go_simp⟩) hS ?_
  refine wpAnyH_take (i := 6) (v := .pointer (some ⟨p, 0, none⟩)) rfl (by kernel_rfl) (by kernel_rfl) (by kernel_rfl) (fun _ _ _ h => h) (Or.inl ⟨by kernel_rfl, fun wx hx => by go_simp⟩) hS ?_
  refine wpAnyH_take (i := 7) (v := .pointer (some ⟨p, 1, none⟩)) rfl (by kernel_rfl) (by kernel_rfl) (by kernel_rfl) (fun _ _ _ h => h) (Or.inl ⟨by kernel_rfl, fun wx hx => by go_simp⟩) hS ?_
  refine wpAnyH_take (i := 8) (v := .int .i64 (ways : Int)) rfl (by kernel_rfl) (by kernel_rfl) (by kernel_rfl) (fun _ _ _ h => h) (Or.inl ⟨by kernel_rfl, fun wx hx => by have h1 := hx.2.1; have h2 := hx.2.2.1; have h3 := hx.2.2.2; go_simp⟩) hS ?_
  refine wpAnyH_ready (rs := [9]) (by kernel_rfl) (by simp) (AllReadyH.cons rfl (fun Kc hK => ?_) AllReadyH.nil)
  go_simp
  rw [Hwd.out]
  refine t1.mono ?_
  rintro e w4 ⟨rfl, ex⟩
  rw [HW4.out] at ex
  subst ex
  refine hK.out _ _ HS4.out (fun hS => ?_)
  clear hK
  refine wpAnyH_done (by kernel_rfl) ?_ _
  clear hS hS0 HS4
  unfold only
  go_simp
  gi_wp2
  refine wpIn_rangeFunc_ownG rfl (by decide) (gf := 38) (lb := #[.pointer (some ⟨q + 1, 0, none⟩), .pointer (some ⟨q + 2, 0, none⟩), .pointer (some ⟨q, 0, none⟩)]) rfl trivial (enters_of Tryd.func38 (by kernel_rfl) rfl)
    HSq.out (fun h k => Kb.trans h k) (kb_put (by rw [HW4s.out]; omega)) (Below.refl _ _) (fun _ => rfl)
    (fun pre W' => ((Boxed W' b 23 (.pointer (some ⟨p, 0, none⟩)) ∧ FlAt W' p c cap size ways cs) ∧ Boxed W' (b + 2) 4 (.bool false)) ∧ Below w.heap.size w W' ∧ ∀ x ∈ pre, onB cs x.1 = true)
    (fun k pre W' => Boxed W' (b + 2) 4 (.bool false) ∧ Below w.heap.size w W' ∧ k = .ret ∧ ∃ x ∈ pre, onB cs x.1 = false)
    (OwnFrom.and (OwnFrom.and (OwnFrom.and (Own.from (boxed_own b 23 (fun _ => .pointer (some ⟨p, 0, none⟩))) _) (fl_own (fun (_ : List {x : Nat // x < size}) => cs))) (Own.from (boxed_own (b + 2) 4 (fun _ => .bool false)) _)) (OwnFrom.and (ownFrom_below (Nat.le_refl _) (by rw [HW4s.out, Hb.out]; omega)) (ownFrom_pure _ _)))
    (fun k => OwnFrom.and (Own.from (boxed_own (b + 2) 4 (fun _ => .bool false)) _) (OwnFrom.and (ownFrom_below (Nat.le_refl _) (by rw [HW4s.out, Hb.out]; omega)) (ownFrom_pure _ _)))
    ⟨⟨⟨HB4.out, HF4.out⟩, HR4.out⟩, HG4.out, by simp⟩
    (fun x => { tmps := #[.pointer (some ⟨p, 0, none⟩), .agg es, .pointer (some ⟨b, 0, none⟩), .pointer (some ⟨b + 1, 0, none⟩), .pointer (some ⟨b + 2, 0, none⟩), .int .i64 (x.1 : Int), .pointer (some ⟨p, 0, none⟩), .bool false, .agg es, .pointer (some ⟨p, 0, none⟩), .pointer (some ⟨p, 0, none⟩), .pointer (some ⟨p, 0, none⟩), .int .i64 (size : Int), .pointer (some ⟨p, 0, none⟩), .pointer (some ⟨p, 0, none⟩), .pointer (some ⟨p, 1, none⟩), .int .i64 (ways : Int), .func (.func 38) #[] #[.pointer (some ⟨q + 1, 0, none⟩), .pointer (some ⟨q + 2, 0, none⟩), .pointer (some ⟨q, 0, none⟩)], .int .i64 (x.1 : Int), undef, undef, undef, undef], defers := [] }) ?assign ?body ?done ?stop
  case assign =>
    intro l x W K hK
    gi_wp2
    exact hK
  case body =>
    rintro l pre x W' ⟨⟨⟨hbx, hfl⟩, hbr⟩, hg, hal⟩ hlt
    have hcb := hbx.cell
    have hcr := hbr.cell
    have hfr := hbr.frozen
    have HT := isOn_any (w := W') x.1 (by rw [hn]; have := x.2; omega) hfl hm (by rw [hn]; omega)
    have HE : Hid (onB cs x.1 = Nat.testBit (cs.getD (x.1 / 64) 0) (x.1 % 64)) := ⟨rfl⟩
    by_cases hon : onB cs x.1 = true
    · rw [HE.out] at hon
      rw [hon] at HT HE
      gi_wp2_with (refine ⟨trivial, ?_⟩; gi_at_call 30; refine (CallsIn.inRound l (callsIn_wide.2 HT)).mono ?_; rintro e w6 ⟨rfl, ex⟩; subst ex)
      exact ⟨KeepsFrom.refl _ _, Kb.refl _ _, ⟨⟨hbx, hfl⟩, hbr⟩, hg, fun y hy => (List.mem_append.1 hy).elim (hal y) (fun e => by rw [List.mem_singleton.1 e]; exact HE.out)⟩
    · rw [Bool.not_eq_true, HE.out] at hon
      rw [hon] at HT HE
      gi_wp2_with (refine ⟨trivial, ?_⟩; gi_at_call 30; refine (CallsIn.inRound l (callsIn_wide.2 HT)).mono ?_; rintro e w6 ⟨rfl, ex⟩; subst ex)
      exact ⟨(KeepsOthers.setCell _ _ _).from _, hbr.set _, hg.setCell (p := ⟨b + 2, 0, none⟩) (by have := Hb.out; simp; omega) _, rfl, x, by simp, HE.out⟩
  case done =>
    rintro D ys W' hD hys ⟨⟨⟨hbx, hfl⟩, hbr⟩, hg, hal⟩ hK
    have hcr := hbr.cell
    have hfr := hbr.frozen
    have Hys : Hid (decide (∀ x ∈ PL.map Int.toNat, onB cs x = true) = true) := ⟨decide_eq_true (by rw [← hys, List.map_map]; intro x hx; obtain ⟨y, hy, rfl⟩ := List.mem_map.1 hx; exact hal y hy)⟩
    have HDs : Hid (w.heap.size ≤ D) := ⟨by rw [HW4s.out] at hD; have := Hb.out; omega⟩
    gi_wp2
    have hK' := (KeepsOthers.setCell W' ⟨b + 2, 0, none⟩ (.bool true)).same D _ hK rfl
    refine ⟨by simp, .inl ⟨_, _, rfl, run_takeDeferred hK', ?_⟩⟩
    have hc5 := cell_kept (hbr.set (.bool true)).cell (grownBy_putObj' _ D (.deferred none)) (fun r e => by cases e; exact ⟨_, hK', rfl⟩)
    refine ⟨.bool true, ?_, by rw [Hys.out], (hg.setCell (p := ⟨b + 2, 0, none⟩) (by have := Hb.out; simp; omega) _).trans (belowK_b (w := w) (Nat.le_refl _) _ D _ _ HDs.out hK' rfl rfl)⟩
    simp [results, Tryd.f14, go_sem, hc5]
  case stop =>
    rintro D k pre W' hD hpre ⟨hbr, hg, rfl, x, hx, hxo⟩ hK
    have Hys : Hid (decide (∀ x ∈ PL.map Int.toNat, onB cs x = true) = false) := ⟨decide_eq_false (fun hal => by
      have z := hal x.1 (List.mem_map.2 ⟨(x.1 : Int), hpre.subset (List.mem_map.2 ⟨x, hx, rfl⟩), by simp⟩)
      rw [hxo] at z; cases z)⟩
    have HDs : Hid (w.heap.size ≤ D) := ⟨by rw [HW4s.out] at hD; have := Hb.out; omega⟩
    gi_wp2
    refine ⟨by simp, .inl ⟨_, _, rfl, run_takeDeferred hK, ?_⟩⟩
    have hc5 := cell_kept hbr.cell (grownBy_putObj' _ D (.deferred none)) (fun r e => by cases e; exact ⟨_, hK, rfl⟩)
    refine ⟨.bool false, ?_, by rw [Hys.out], hg.trans (belowK_b (w := w) (Nat.le_refl _) _ D _ _ HDs.out hK rfl rfl)⟩
    simp [results, Tryd.f14, go_sem, hc5]
end
end Go.Proofs.YtiloclekhddkfabDoor
