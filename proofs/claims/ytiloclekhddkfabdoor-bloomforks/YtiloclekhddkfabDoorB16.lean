/- The program's Ones. -/
import Derived.Test.YtiloclekhddkfabDoorB15
namespace Go.Proofs.YtiloclekhddkfabDoor
open Go.RowKit Go.Shelf Go.Sort
section
variable {w : World}
attribute [local go_sem] Oper.semAt_some
theorem onesNil_any : Calls Tryd.prog 21 #[.pointer none] w fun e w' => e = .returned (.int .i64 0) ∧ w = w' := by
  go_enter Tryd.func21, Tryd.ntmps21
  go_wp2_with fail
  go_ret
  exact ⟨rfl, rfl⟩
theorem addNil_any (s : List Int) : Calls Tryd.prog 17 #[.pointer none, .agg (sc s).toArray] w fun e w' => e = .returned (.int .i64 1) ∧ Below w.heap.size w w' := by
  have hbox := run_boxS
  generalize (sc s).toArray = cs
  go_enter Tryd.func17, Tryd.ntmps17
  go_wp2_with fail
  go_ret
  exact ⟨rfl, ((Below.refl _ w).alloc (Nat.le_refl _) _).alloc (by simp) _⟩
theorem hasNil_any (s : List Int) : Calls Tryd.prog 14 #[.pointer none, .agg (sc s).toArray] w fun e w' => e = .returned (.bool false) ∧ Below w.heap.size w w' := by
  have hbox := run_boxS
  generalize (sc s).toArray = cs
  go_enter Tryd.func14, Tryd.ntmps14
  go_wp2_with fail
  refine bodyPost_ret (v := .bool false) ?_ rfl ?_
  · simp [results, Tryd.f14, go_sem]
  · exact ⟨rfl, by first | exact (((Below.refl _ w).alloc (Nat.le_refl _) _).alloc (by simp) _).alloc (by simp; omega) _ | exact ((((Below.refl _ w).alloc (Nat.le_refl _) _).alloc (by simp) _).alloc (by simp; omega) _).setCell (by simp; omega) _⟩
set_option maxHeartbeats 8000000 in
set_option maxRecDepth 100000 in
theorem ones_any {p c cap : Nat} {size : Nat} {ways : Int} {cs : List Nat} (h : FlAt w p c cap size ways cs) (hm : ∀ n ∈ cs, n < 18446744073709551616) (hl : cs.length ≤ 1024) (hV : Vars w) (hbd : ∀ x ∈ onFrom 0 cs, x < size) (hN : (onFrom 0 cs).length ≤ 65536) :
    Calls Tryd.prog 21 #[.pointer (some ⟨p, 0, none⟩)] w fun e w' => e = .returned (.int .i64 ((onFrom 0 cs).length : Nat)) ∧ Below w.heap.size w w' := by
  refine (callsIn_wide (n := 10)).1 ?_
  obtain ⟨b, Hb⟩ : ∃ b, Hid (w.heap.size = b) := ⟨_, ⟨rfl⟩⟩
  obtain ⟨W, HW⟩ : ∃ W, Hid (w.alloc (.cells #[.int .i64 0] 3) = W) := ⟨_, ⟨rfl⟩⟩
  have HBW : Hid (Below w.heap.size w W) := ⟨by rw [← HW.out]; exact (Below.refl _ w).alloc (Nat.le_refl _) _⟩
  have HWs : Hid (W.heap.size = b + 1) := ⟨by rw [← HW.out, ← Hb.out]; simp⟩
  have HBx : Hid (Boxed W b 3 (.int .i64 0)) := ⟨by rw [← HW.out, ← Hb.out]; exact Boxed.new w 3 _⟩
  have t1 := on_any (w := W) p
  obtain ⟨W4, HW4⟩ : ∃ x, Hid (W.alloc (.cells #[.pointer (some ⟨p, 0, none⟩)] 23) = x) := ⟨_, ⟨rfl⟩⟩
  have HC4 : Hid (Below W.heap.size W W4) := ⟨by rw [← HW4.out]; exact (Below.refl _ W).alloc (Nat.le_refl _) _⟩
  have HG4 : Hid (Below w.heap.size w W4) := ⟨HBW.out.trans (HC4.out.mono HBW.out.size)⟩
  have HW4s : Hid (W4.heap.size = b + 2) := ⟨by rw [← HW4.out]; simp [HWs.out]⟩
  have HB4 : Hid (Boxed W4 b 3 (.int .i64 0)) := ⟨by rw [← HW4.out]; exact HBx.out.alloc _⟩
  have Hcb : Hid (c < b ∧ 0 < b) := ⟨by rw [← Hb.out]; exact ⟨h.clt, vars_pos hV⟩⟩
  have HSq := Hid.mk (on_stops (w := W4) (b + 1) (by rw [← HW4.out, ← HWs.out]; exact (Boxed.new W 23 _).cell) (h.far (X := []) (Chg.ofBelow HG4.out) (by simp) (by simp)) hm hl (vars_far (X := []) hV (Chg.ofBelow HG4.out) (by simp)) hbd)
  rw [HWs.out] at t1
  obtain ⟨T, HT⟩ : ∃ T, onFrom 0 cs = T := ⟨_, rfl⟩
  rw [HT] at HSq hN ⊢
  rw [HW4.out] at t1
  clear h hV hbd HT
  refine callsIn_of_wp_marks Tryd.func21 rfl trivial ?_ rfl
  simp only [Tryd.ntmps21, List.size_toArray, List.length_cons, List.length_nil, Nat.reduceAdd, Nat.reduceSub, Array.replicate_succ, Array.replicate_zero, List.push_toArray, List.append_toArray, List.nil_append, List.cons_append]
  gi_wp2
  rw [HW.out, Hb.out]
  refine ⟨trivial, ?_⟩
  refine (callsIn_wide.2 t1).mono ?_
  rintro e wx ⟨rfl, ex⟩
  subst ex
  gi_wp2
  refine wpIn_rangeFunc_ownG rfl (by decide) (gf := 40) (lb := #[.pointer (some ⟨b + 1, 0, none⟩)]) rfl trivial (enters_of Tryd.func40 (by kernel_rfl) rfl)
    HSq.out (fun h k => Kc.trans h k) (kc_put (by have := Hcb.out; rw [HW4s.out]; omega)) (Below.refl _ _) (fun _ => rfl)
    (fun pre W' => Boxed W' b 3 (.int .i64 ((pre.length : Nat) : Int)) ∧ Below w.heap.size w W')
    (fun _ _ _ => False)
    (OwnFrom.and (Own.from (boxed_own b 3 (fun (pre : List {x : Nat // x < size}) => .int .i64 ((pre.length : Nat) : Int))) _) (ownFrom_below (Nat.le_refl _) (by rw [HW4s.out, Hb.out]; omega)))
    (fun _ _ _ _ _ hs _ _ => hs)
    ⟨HB4.out, HG4.out⟩
    (fun x => { tmps := #[.pointer (some ⟨p, 0, none⟩), undef, .int .i64 0, .pointer (some ⟨b, 0, none⟩), .pointer (some ⟨p, 0, none⟩), .bool false, .pointer (some ⟨p, 0, none⟩), .func (.func 40) #[] #[.pointer (some ⟨b + 1, 0, none⟩)], .int .i64 (x.1 : Int), undef, undef, undef], defers := [] }) ?assign ?body ?done ?stop
  case assign =>
    intro l x W K hK
    refine wpIn_skip ?_
    show K _ _
    simpa using hK
  case body =>
    rintro l pre x W' ⟨hbx, hg⟩ hlt
    have hcb := hbx.cell
    have hfr := hbx.frozen
    have hpl : pre.length ≤ 65536 := by omega
    have HL : Hid ((pre ++ [x]).length = pre.length + 1) := ⟨by simp⟩
    generalize pre.length = k at hcb hpl HL hbx
    gi_wp2
    have z1 := Hcb.out
    have z2 := HW4s.out
    exact ⟨(KeepsOthers.setCell _ _ _).from _, Kc.of ((Chg.refl [b] W').setCell (.inl (by simp)) _) (by simp; omega) (by simp; omega), by rw [HL.out]; exact hbx.set _, hg.setCell (p := ⟨b, 0, none⟩) (by have := Hb.out; simp; omega) _⟩
  case done =>
    rintro D ys W' hD hys ⟨hbx, hg⟩ hK
    have hcb := hbx.cell
    have Hys : Hid (ys.length = T.length) := ⟨by rw [← hys, List.length_map]⟩
    have HDs : Hid (w.heap.size ≤ D) := ⟨by rw [HW4s.out] at hD; have := Hb.out; omega⟩
    gi_wp2
    refine ⟨by simp, .inl ⟨_, _, rfl, run_takeDeferred hK, ?_⟩⟩
    exact ⟨_, results_tmp rfl _ _ _, by rw [Hys.out]; rfl, hg.trans (belowK_b (w := w) (Nat.le_refl _) _ D _ _ HDs.out hK rfl rfl)⟩
  case stop =>
    rintro D c pre W _ _ h _
    exact h.elim
end
end Go.Proofs.YtiloclekhddkfabDoor
