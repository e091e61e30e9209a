/- The laws' live. -/
import Derived.Test.YtiloclekhddkfaaS16
namespace Go.Proofs.Ytiloclekhddkfaa
open Go.RowKit Go.Lib

def s6 : List Int := [0, 0, 0, 6, 0, 0, 0, 0, 0, 0, 0, 0, 0, 0, 0, 0, 0, 0, 0, 0, 0, 0, 0, 0, 0, 0, 0, 0, 0, 0, 0, 0]
def s0 : List Int := List.replicate 32 0
theorem sm6 : Sm s6 := ⟨rfl, by decide⟩
theorem sm0 : Sm s0 := ⟨rfl, by decide⟩
theorem hk63 : hk s6 3 = true := by decide
theorem hk64 : hk s6 4 = false := by decide
def rB : Rf := ⟨s0, 1, 0, 0⟩
def rC : Rf := ⟨s0, 0, 0, 0⟩
theorem run_build25 (w : World) : (Instr.build 25 #[(3, .int .u8 6)]).run Try.prog w = .ok (.agg (sa s6)) w := by kernel_rfl
theorem run_buildB (w : World) : (Instr.build 28 #[(1, .int .i64 1)]).run Try.prog w = .ok (.agg (rc rB).toArray) w := by kernel_rfl
theorem run_buildC (w : World) : (Instr.build 28 #[]).run Try.prog w = .ok (.agg (rc rC).toArray) w := by kernel_rfl
theorem run_sliceB (w : World) : (Instr.buildSlice 22 1 #[(0, .agg (rc rB).toArray)]).run Try.prog w = .ok (.slice (some ⟨w.heap.size, 0, none⟩) 1 1) (w.alloc (.cells (rc rB).toArray 28)) := by kernel_rfl
theorem run_sliceC (w : World) : (Instr.buildSlice 22 1 #[(0, .agg (rc rC).toArray)]).run Try.prog w = .ok (.slice (some ⟨w.heap.size, 0, none⟩) 1 1) (w.alloc (.cells (rc rC).toArray 28)) := by kernel_rfl
theorem rdr_one (w : World) (r : Rf) (hs : Sm r.s) : RdR (w.alloc (.cells (rc r).toArray 28)) (.slice (some ⟨w.heap.size, 0, none⟩) 1 1) [r] := by
  refine ⟨⟨_, _, rfl, Nat.le_refl _, by unfold maxLen; omega, by simp⟩, fun i hi => ?_, by simpa using hs⟩
  simp at hi
  subst hi
  refine ⟨_, _, _, rfl, fun j hj => ?_⟩
  rw [cell_of_row _ _ _ _ _ _ (heap_alloc_new w _)]
  simp
theorem putR_B : (putR [rB]).2 = 0 ∧ (putR [rB]).1.length = 36 := by
  have e : putR [rB] = (Oct.numB 1 ++ refsB [rB], 0) := by
    unfold putR
    rw [if_neg (by simp), if_pos (by decide)]
    rfl
  rw [e]
  refine ⟨rfl, ?_⟩
  have h1 : Oct.numB 1 = [1] := Oct.numB_small 1 (by decide)
  have h0 : Oct.numB 0 = [0] := Oct.numB_small 0 (by decide)
  simp [refsB, refB, rB, nums, s0, h1, h0]
theorem ends_C : ends [rC] 1 = true := by decide
/-- A sum in a block of its own. -/
def SumAt (w : World) (p : Nat) (s : List Int) : Prop := w.heap[p]? = some (.cells (sa s) 25 (0, 0))
theorem SumAt.lt {w : World} {p : Nat} {s : List Int} (h : SumAt w p s) : p < w.heap.size := (Array.getElem?_eq_some_iff.1 h).1
theorem SumAt.far {w w' : World} {p : Nat} {s : List Int} {X : List Nat} (h : SumAt w p s) (hc : Chg X w w') (hx : p ∉ X) : SumAt w' p s := (hc.block p h.lt hx).trans h
theorem SumAt.load {w : World} {p : Nat} {s : List Int} (h : SumAt w p s) (hs : Sm s) : (loadVar 25 ⟨p, 0, none⟩).run Try.prog w = .ok (.agg (sa s)) w :=
  run_loadVar_row w p 25 25 (sa s) (0, 0) _ h Try.underlying25 rfl (by rw [sa_size hs]; exact info25)
/-- An operation whose guard says yes is carried out as if it had none. -/
theorem wpList_unguard {P : Program} {ops : Array Oper} {Q : Exit → Act → World → Prop} {a : Act} {w : World} {rest : List Oper} {o : Oper}
    (hw : Region.wanted o (yielded ops a.tmps) = true) (h : wpList P ops Q ({ o with guard := none } :: rest) a w) : wpList P ops Q (o :: rest) a w := by
  unfold wpList at h ⊢
  rw [if_pos hw]
  rw [if_pos (by simp [Region.wanted])] at h
  obtain ⟨dst, op, ty, pos, after, guard⟩ := o
  exact h
section
variable {ops : Array Oper} {rest : List Oper} {o : Oper} {a : Act} {w : World} {Q : Exit → Act → World → Prop}
/-- A sum is stored into a block. -/
theorem wp_storeS (hgd : o.guard = none) (x y : Operand) (ho : o.op = .store 25 x y) (g : Nat) (s : List Int) (hs : Sm s) (hx : a.eval x = .pointer (some ⟨g, 0, none⟩)) (hy : a.eval y = .agg (sa s))
    (old : Array Value) (hg : w.heap[g]? = some (.cells old 25 (0, 0))) (hold : old.size = 32)
    (h : ∀ w', SumAt w' g s → Chg [g] w w' → wpList Try.prog ops Q rest (a.put o.dst undef) w') : wpList Try.prog ops Q (o :: rest) a w := by
  refine wpList_store_row hgd 25 x y ho g (sa s) hx hy 25 old hg (by rw [sa_size hs]; exact info25) (by rw [hold, sa_size hs]) (sa_one s) ?_
  exact h _ (setRow_heap _ _ _ _ 25 (0, 0) hg) ⟨rfl, rfl, rfl, by simp, fun k hk hx => setRow_other _ _ k _ (by simpa using hx)⟩
end
theorem argL_live (w : World) : ArgL ((((w.alloc (.cells #[.int .i64 1, .int .i64 2] 3)).alloc (.cells #[.int .i64 2, .int .i64 3] 3)).alloc (.cells #[.int .i64 3] 3)).alloc (.cells #[.slice (some ⟨w.heap.size, 0, none⟩) 2 2, .slice (some ⟨w.heap.size + 1, 0, none⟩) 2 2, .slice (some ⟨w.heap.size + 1 + 1, 0, none⟩) 1 1] 39)) (.slice (some ⟨w.heap.size + 1 + 1 + 1, 0, none⟩) 3 3) liveL := by
  have r1 : Rd (w.alloc (.cells #[.int .i64 1, .int .i64 2] 3)) (.slice (some ⟨w.heap.size, 0, none⟩) 2 2) (iv [1, 2]) := by
    refine ⟨_, _, rfl, by simp [iv], by unfold maxLen; omega, by simp, fun x hx i hi => ?_⟩
    cases hx
    simp [iv] at hi
    match i, hi with
    | 0, _ => simp [Addr.add, iv]
    | 1, _ => simp [Addr.add, iv]
  have r2 : ∀ wx : World, Rd (wx.alloc (.cells #[.int .i64 2, .int .i64 3] 3)) (.slice (some ⟨wx.heap.size, 0, none⟩) 2 2) (iv [2, 3]) := fun wx => by
    refine ⟨_, _, rfl, by simp [iv], by unfold maxLen; omega, by simp, fun x hx i hi => ?_⟩
    cases hx
    simp [iv] at hi
    match i, hi with
    | 0, _ => simp [Addr.add, iv]
    | 1, _ => simp [Addr.add, iv]
  have r3 : ∀ wx : World, Rd (wx.alloc (.cells #[.int .i64 3] 3)) (.slice (some ⟨wx.heap.size, 0, none⟩) 1 1) (iv [3]) := fun wx => by
    refine ⟨_, _, rfl, by simp [iv], by unfold maxLen; omega, by simp, fun x hx i hi => ?_⟩
    cases hx
    simp [iv] at hi
    subst hi
    simp [Addr.add, iv]
  have al : ∀ (wx : World) (o : Obj), Chg [] wx (wx.alloc o) := fun wx o => Chg.ofBelow ((Below.refl _ wx).alloc (Nat.le_refl _) o)
  refine ⟨⟨_, _, rfl, Nat.le_refl _⟩, fun i hi => ?_⟩
  have q1 := ((r1.far (al _ (.cells #[.int .i64 2, .int .i64 3] 3)) (by simp)).far (al _ (.cells #[.int .i64 3] 3)) (by simp)).far (al _ (.cells #[.slice (some ⟨w.heap.size, 0, none⟩) 2 2, .slice (some ⟨w.heap.size + 1, 0, none⟩) 2 2, .slice (some ⟨w.heap.size + 1 + 1, 0, none⟩) 1 1] 39)) (by simp)
  have q2 := ((r2 (w.alloc (.cells #[.int .i64 1, .int .i64 2] 3))).far (al _ (.cells #[.int .i64 3] 3)) (by simp)).far (al _ (.cells #[.slice (some ⟨w.heap.size, 0, none⟩) 2 2, .slice (some ⟨w.heap.size + 1, 0, none⟩) 2 2, .slice (some ⟨w.heap.size + 1 + 1, 0, none⟩) 1 1] 39)) (by simp)
  have q3 := (r3 ((w.alloc (.cells #[.int .i64 1, .int .i64 2] 3)).alloc (.cells #[.int .i64 2, .int .i64 3] 3))).far (al _ (.cells #[.slice (some ⟨w.heap.size, 0, none⟩) 2 2, .slice (some ⟨w.heap.size + 1, 0, none⟩) 2 2, .slice (some ⟨w.heap.size + 1 + 1, 0, none⟩) 1 1] 39)) (by simp)
  simp at q2 q3
  generalize hW : ((w.alloc (.cells #[.int .i64 1, .int .i64 2] 3)).alloc (.cells #[.int .i64 2, .int .i64 3] 3)).alloc (.cells #[.int .i64 3] 3) = w3 at q1 q2 q3 ⊢
  have hz : w3.heap.size = w.heap.size + 1 + 1 + 1 := by rw [← hW]; simp
  refine ⟨w.heap.size + 1 + 1 + 1, 0, 3, ?_⟩
  match i, hi with
  | 0, _ => exact ⟨_, _, _, rfl, by rw [← hz]; simp, q1⟩
  | 1, _ => exact ⟨_, _, _, rfl, by rw [← hz]; simp, q2⟩
  | 2, _ => exact ⟨_, _, _, rfl, by rw [← hz]; simp, q3⟩
section
variable {w : World}
set_option maxHeartbeats 4000000 in
set_option maxRecDepth 100000 in
theorem live_any : Calls Try.prog 13 #[] w fun e w' => e = .returned (.bool true) ∧ Below w.heap.size w w' := by
  have h1 := run_build25
  go_enter Try.func13, Try.ntmps13
  go_upto_region 1 with fail
  go_upto_region 2 with (refine wp_storeS rfl (.tmp 1) (.tmp 5) rfl w.heap.size s6 sm6 rfl rfl _ (heap_alloc_new w _) rfl ?_; intro w1 hA1 hG1; have HA1 := Hid.mk hA1; have HB1 : Hid (Below w.heap.size w w1) := ⟨((Chg.ofBelow (X := []) ((Below.refl _ w).alloc (Nat.le_refl _) _)).thenNew hG1 (by simp)).below (Nat.le_refl _) (by simp)⟩; clear hA1 hG1)
  obtain ⟨p, Hp⟩ : ∃ p, Hid (w.heap.size = p) := ⟨_, ⟨rfl⟩⟩
  rw [Hp.out] at HA1 HB1 ⊢
  clear h1
  have t2 : ∀ (wx : World) v, ArgL wx v liveL → Calls Try.prog 20 #[v, .int .i64 2] wx (fun e w' => ∃ v', e = .returned v' ∧ OwnI w' wx.heap.size v' [3, 2] ∧ Below wx.heap.size wx w') := fun wx v h => (champs_any v liveL 2 h live_small).mono (by
    rintro e w' ⟨v', rfl, N, C, hN, hC, hO, hb⟩
    have := live_champ hN hC
    subst this
    exact ⟨v', rfl, hO, hb⟩)
  have t3 := fun (wx : World) => put_any (w := wx.alloc (.cells (rc rB).toArray 28)) _ [rB] (rdr_one wx rB sm0) (by simp)
  have t4 : ∀ (wx : World), Calls Try.prog 11 #[.agg (sa s6), .int .i64 3] wx (fun e w' => e = .returned (.bool true) ∧ Below wx.heap.size wx w') := fun wx => by have := hook_any (w := wx) s6 sm6 3; rw [hk63] at this; exact this
  have t5 : ∀ (wx : World), Calls Try.prog 11 #[.agg (sa s6), .int .i64 4] wx (fun e w' => e = .returned (.bool false) ∧ Below wx.heap.size wx w') := fun wx => by have := hook_any (w := wx) s6 sm6 4; rw [hk64] at this; exact this
  have t6 := fun (wx : World) => ends_any (w := wx.alloc (.cells (rc rC).toArray 28)) _ [rC] 1 (rdr_one wx rC sm0) (by simp) (by decide)
  rw [ends_C] at t6
  have HL := Hid.mk putR_B
  generalize putR [rB] = RB at t3 HL
  go_wp2_with fail
  refine (t2 _ _ (argL_live w1)).mono ?_
  rintro e w2 ⟨v2, rfl, hO2, hb2⟩
  have HB2 : Hid (Below p w w2) := ⟨HB1.out.trans ((((((Below.refl _ w1).alloc (Nat.le_refl _) _).alloc (by simp) _).alloc (by simp; omega) _).alloc (by simp; omega) _).mono (Nat.le_of_lt HA1.out.lt) |>.trans (hb2.mono (by simp; have := HA1.out.lt; omega)))⟩
  have HA2 : Hid (SumAt w2 p s6) := ⟨HA1.out.far (Chg.ofBelow (X := []) ((((((Below.refl _ w1).alloc (Nat.le_refl _) _).alloc (by simp) _).alloc (by simp; omega) _).alloc (by simp; omega) _).trans (hb2.mono (by simp; omega)))) (by simp)⟩
  have HO2 : Hid (OwnI w2 0 v2 [3, 2]) := ⟨OwnI.base hO2 (Nat.zero_le _)⟩
  clear hO2 hb2 t2 HA1 HB1
  obtain ⟨a2, c2, e2, hc2, _⟩ := HO2.out.shape
  subst e2
  simp at hc2
  simp only [List.length_cons, List.length_nil, Nat.zero_add, Nat.reduceAdd] at HO2 ⊢
  obtain ⟨lB, cB⟩ := RB
  obtain ⟨hB1, hB2⟩ := HL.out
  simp only at hB1 hB2
  subst hB1
  simp only at t3
  go_wp2_with fail
  refine (t3 w2).mono ?_
  rintro e w3 ⟨v3, rfl, hO3, hb3⟩
  have HB23 : Hid (Below w2.heap.size w2 w3) := ⟨((Below.refl _ w2).alloc (Nat.le_refl _) _).trans (hb3.mono (by simp))⟩
  obtain ⟨a3, c3, e3, _⟩ := hO3.shape
  subst e3
  rw [hB2]
  have HA3 : Hid (SumAt w3 p s6) := ⟨HA2.out.far (Chg.ofBelow (X := []) HB23.out) (by simp)⟩
  have HO3 : Hid (OwnI w3 0 (.slice a2 2 c2) [3, 2]) := ⟨own_far HO2.out (Chg.ofBelow (X := []) HB23.out) (by simp)⟩
  have HB3 : Hid (Below p w w3) := ⟨HB2.out.trans (HB23.out.mono (Nat.le_of_lt HA2.out.lt))⟩
  have hi25 : (Try.prog.info? 25).map (·.size) = some (sa s6).size := by rw [sa_size sm6]; exact info25
  clear hO3 hb3 hB2 HL t3
  go_upto_region 4 with fail
  go_wp2_with (refine wpList_load_row rfl 25 (.tmp 1) rfl p rfl 25 (sa s6) (0, 0) _ HA3.out Try.underlying25 rfl hi25 ?_)
  refine (t4 w3).mono ?_
  rintro e w4 ⟨rfl, hb4⟩
  have HA4 : Hid (SumAt w4 p s6) := ⟨HA3.out.far (Chg.ofBelow (X := []) hb4) (by simp)⟩
  go_wp2_with (refine wpList_unguard (by kernel_rfl) ?_; refine wpList_load_row rfl 25 (.tmp 1) rfl p rfl 25 (sa s6) (0, 0) _ HA4.out Try.underlying25 rfl hi25 ?_)
  refine (t5 w4).mono ?_
  rintro e w5 ⟨rfl, hb5⟩
  have HO5 : Hid (OwnI w5 0 (.slice a2 2 c2) [3, 2]) := ⟨own_far (own_far HO3.out (Chg.ofBelow (X := []) hb4) (by simp)) (Chg.ofBelow (X := []) hb5) (by simp)⟩
  have HB5 : Hid (Below p w w5) := ⟨HB3.out.trans ((hb4.mono (Nat.le_of_lt HA3.out.lt)).trans (hb5.mono (Nat.le_of_lt HA4.out.lt)))⟩
  have Hp5 : Hid (p ≤ w5.heap.size) := ⟨Nat.le_trans (Nat.le_of_lt HA4.out.lt) hb5.size⟩
  obtain ⟨b, off, cap, e, _, hcell⟩ := HO5.out.rd.at (i := 0) (by decide)
  simp at e
  obtain ⟨rfl, rfl⟩ := e
  have c0 := hcell 0 (by decide)
  have c1 := hcell 1 (by decide)
  simp at c0 c1
  clear hcell hb4 hb5 t4 t5
  go_wp2_with fail
  refine (t6 w5).mono ?_
  rintro e w6 ⟨rfl, hb6⟩
  go_wp2_with fail
  go_ret
  exact ⟨rfl, by rw [Hp.out]; exact HB5.out.trans (((Below.refl _ w5).alloc (Nat.le_refl _) _).mono Hp5.out |>.trans (hb6.mono (by simp; have := Hp5.out; omega)))⟩
end
end Go.Proofs.Ytiloclekhddkfaa
