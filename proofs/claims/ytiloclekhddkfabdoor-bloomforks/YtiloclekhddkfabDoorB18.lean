/- The laws' live, size. -/
import Derived.Test.YtiloclekhddkfabDoorB17
namespace Go.Proofs.YtiloclekhddkfabDoor
open Go.RowKit Go.Lib

def s53 : List Int := [0, 0, 0, 0, 0, 5, 0, 0, 0, 0, 0, 3, 0, 0, 0, 0, 0, 0, 0, 0, 0, 0, 0, 0, 0, 0, 0, 0, 0, 0, 0, 0]
def s00 : List Int := [0, 0, 0, 0, 0, 0, 0, 0, 0, 0, 0, 0, 0, 0, 0, 0, 0, 0, 0, 0, 0, 0, 0, 0, 0, 0, 0, 0, 0, 0, 0, 0]
def s58 : List Int := [0, 0, 0, 0, 0, 8, 0, 0, 0, 0, 0, 0, 0, 0, 0, 0, 0, 0, 0, 0, 0, 0, 0, 0, 0, 0, 0, 0, 0, 0, 0, 0]
theorem sm53 : Sum32 s53 := ⟨rfl, by decide⟩
theorem sm00 : Sum32 s00 := ⟨rfl, by decide⟩
theorem sm58 : Sum32 s58 := ⟨rfl, by decide⟩
theorem run_b53 (w : World) : (Instr.build 22 #[(5, .int .u8 5), (11, .int .u8 3)]).run Tryd.prog w = .ok (.agg (sc s53).toArray) w := by kernel_rfl
theorem run_b00 (w : World) : (Instr.build 22 #[]).run Tryd.prog w = .ok (.agg (sc s00).toArray) w := by kernel_rfl
theorem run_b58 (w : World) : (Instr.build 22 #[(5, .int .u8 8)]).run Tryd.prog w = .ok (.agg (sc s58).toArray) w := by kernel_rfl
theorem plc53 : plc s53 8 3 = [5, 0, 3] := by decide
theorem plc00 : plc s00 8 3 = [0, 0, 0] := by decide
theorem plc58 : plc s58 8 3 = [0, 0, 0] := by decide
/-- A sum in a block of its own. -/
def SumAt (w : World) (p : Nat) (s : List Int) : Prop := w.heap[p]? = some (.cells (sc s).toArray 22 (0, 0))
theorem SumAt.lt {w : World} {p : Nat} {s : List Int} (h : SumAt w p s) : p < w.heap.size := (Array.getElem?_eq_some_iff.1 h).1
theorem SumAt.far {w w' : World} {p : Nat} {s : List Int} {X : List Nat} (h : SumAt w p s) (hc : Chg X w w') (hx : p ∉ X) : SumAt w' p s := (hc.block p h.lt hx).trans h
/-- An operation whose guard says yes is carried out as if it had none. -/
theorem wpList_unguard {P : Program} {ops : Array Oper} {Q : Exit → Act → World → Prop} {a : Act} {w : World} {rest : List Oper} {o : Oper}
    (hw : Region.wanted o (yielded ops a.tmps) = true) (h : wpList P ops Q ({ o with guard := none } :: rest) a w) : wpList P ops Q (o :: rest) a w := by
  unfold wpList at h ⊢
  rw [if_pos hw]
  rw [if_pos (by simp [Region.wanted])] at h
  obtain ⟨dst, op, ty, pos, after, guard⟩ := o
  exact h
section
variable {ops : Array Oper} {rest : List Oper} {o : Oper} {a : Act} {w : World} {Q : Exit → Act → World → Prop}
/-- A sum is stored into a block. -/
theorem wp_storeS (hgd : o.guard = none) (x y : Operand) (ho : o.op = .store 22 x y) (g : Nat) (s : List Int) (hs : Sum32 s) (hx : a.eval x = .pointer (some ⟨g, 0, none⟩)) (hy : a.eval y = .agg (sc s).toArray)
    (old : Array Value) (hg : w.heap[g]? = some (.cells old 22 (0, 0))) (hold : old.size = 32)
    (h : ∀ w', SumAt w' g s → Chg [g] w w' → wpList Tryd.prog ops Q rest (a.put o.dst undef) w') : wpList Tryd.prog ops Q (o :: rest) a w := by
  have hz : (sc s).toArray.size = 32 := by simp [sc_len, hs.len]
  refine wpList_store_row hgd 22 x y ho g (sc s).toArray hx hy 22 old hg (by rw [hz]; exact infoS) (by rw [hold, hz]) (by rw [Array.all_eq_true_iff_forall_mem]; intro u hu; exact sc_one s u (by simpa using hu)) ?_
  exact h _ (setRow_heap _ _ _ _ 22 (0, 0) hg) ⟨rfl, rfl, rfl, by simp, fun k hk hx => setRow_other _ _ k _ (by simpa using hx)⟩
end
section
variable {w : World}
set_option maxHeartbeats 2000000 in
set_option maxRecDepth 100000 in
theorem sizes_any (a b : Nat) (ha : a < 65536) (hb : b < 256) : Calls Tryd.prog 20 #[.int .u16 (a : Int), .int .u8 (b : Int)] w fun e w' => e = .returned (.tuple #[.int .i64 ((1 + a % 300 : Nat) : Int), .int .i64 ((1 + b % 8 : Nat) : Int)]) ∧ w = w' := by
  have h1 : (a : Int).tmod 300 = ((a % 300 : Nat) : Int) := by rw [Int.tmod_eq_emod_of_nonneg (by omega)]; omega
  have h2 : (b : Int).tmod 8 = ((b % 8 : Nat) : Int) := by rw [Int.tmod_eq_emod_of_nonneg (by omega)]; omega
  have h3 : a % 300 < 300 := Nat.mod_lt _ (by decide)
  have h4 : b % 8 < 8 := Nat.mod_lt _ (by decide)
  obtain ⟨A, HA⟩ : ∃ A, Hid (1 + a % 300 = A) := ⟨_, ⟨rfl⟩⟩
  obtain ⟨B, HB⟩ : ∃ B, Hid (1 + b % 8 = B) := ⟨_, ⟨rfl⟩⟩
  have h5 : (1 : Int) + ((a % 300 : Nat) : Int) = (A : Int) := by rw [← HA.out]; omega
  have h6 : (1 : Int) + ((b % 8 : Nat) : Int) = (B : Int) := by rw [← HB.out]; omega
  have h7 : A ≤ 300 := by rw [← HA.out]; omega
  have h8 : B ≤ 8 := by rw [← HB.out]; omega
  rw [HA.out, HB.out]
  generalize a % 300 = a' at h1 h3 h5
  generalize b % 8 = b' at h2 h4 h6
  go_enter Tryd.func20, Tryd.ntmps20
  go_wp2_with fail
  go_ret2
  exact ⟨rfl, rfl⟩
theorem new83 : Calls Tryd.prog 8 #[.int .i64 8, .int .i64 3] w fun e w' => ∃ p, w.heap.size < p ∧ e = .returned (.tuple #[.pointer (some ⟨p, 0, none⟩), .int .i64 0]) ∧ FlAt w' p w.heap.size 1 8 3 [0] ∧ Below w.heap.size w w' := by
  refine (new_any (w := w) 8 3).mono ?_
  rintro e w' ⟨h, hb⟩
  rw [if_pos (by decide)] at h
  obtain ⟨p, hp, rfl, hF⟩ := h
  exact ⟨p, hp, rfl, hF, hb⟩
theorem add83 {p c cap : Nat} (h : FlAt w p c cap 8 3 [0]) : Calls Tryd.prog 17 #[.pointer (some ⟨p, 0, none⟩), .agg (sc s53).toArray] w fun e w' => e = .returned (.int .i64 0) ∧ FlAt w' p c cap 8 3 [41] ∧ Chg [c] w w' := by
  refine (add_any (w := w) (size := 8) (ways := 3) s53 sm53 (by decide) h rfl (by decide)).mono ?_
  rintro e w' ⟨rfl, hF, hc⟩
  exact ⟨rfl, by rw [show orL [0] ((plc s53 ((8 : Nat) : Int) ((3 : Nat) : Int)).map Int.toNat) = [41] by decide] at hF; exact hF, hc⟩
theorem has83 {p c cap : Nat} (h : FlAt w p c cap 8 3 [41]) (s : List Int) (hs : Sum32 s) (hp : decide (∀ x ∈ (plc s ((8 : Nat) : Int) ((3 : Nat) : Int)).map Int.toNat, onB [41] x = true) = true) : Calls Tryd.prog 14 #[.pointer (some ⟨p, 0, none⟩), .agg (sc s).toArray] w fun e w' => e = .returned (.bool true) ∧ Below w.heap.size w w' := by
  refine (has_any (w := w) (size := 8) (ways := 3) s hs (by decide) h rfl (by decide)).mono ?_
  rintro e w' ⟨rfl, hb⟩
  exact ⟨by rw [hp], hb⟩
theorem ones83 {p c cap : Nat} (h : FlAt w p c cap 8 3 [41]) (hV : Vars w) : Calls Tryd.prog 21 #[.pointer (some ⟨p, 0, none⟩)] w fun e w' => e = .returned (.int .i64 3) ∧ Below w.heap.size w w' :=
  ones_any (w := w) (size := 8) h (by decide) (by decide) hV (by decide) (by decide)
set_option maxHeartbeats 8000000 in
set_option maxRecDepth 100000 in
theorem live_any (hV : Vars w) : Calls Tryd.prog 12 #[] w fun e w' => e = .returned (.bool true) ∧ Below w.heap.size w w' := by
  have h1 := run_b53
  have HV := Hid.mk hV
  clear hV
  go_enter Tryd.func12, Tryd.ntmps12
  go_upto_region 1 with fail
  go_upto_region 2 with (refine wp_storeS rfl (.tmp 1) (.tmp 5) rfl w.heap.size s53 sm53 rfl rfl _ (heap_alloc_new w _) rfl ?_; intro w1 hA1 hG1; have HA1 := Hid.mk hA1; have HB1 : Hid (Below w.heap.size w w1) := ⟨((Chg.ofBelow (X := []) ((Below.refl _ w).alloc (Nat.le_refl _) _)).thenNew hG1 (by simp)).below (Nat.le_refl _) (by simp)⟩; clear hA1 hG1)
  obtain ⟨g, Hg⟩ : ∃ p, Hid (w.heap.size = p) := ⟨_, ⟨rfl⟩⟩
  rw [Hg.out] at HA1 HB1 ⊢
  have HV1 : Hid (Vars w1) := ⟨vars_far (X := []) HV.out (Chg.ofBelow (by rw [Hg.out]; exact HB1.out)) (by simp)⟩
  clear h1
  have t2 := cplaces_any (w := w1) s53 sm53 8 3
  rw [plc53] at t2
  go_upto_region 4 with (first
    | (refine wp_loadS rfl (.tmp 1) rfl g 0 (by kernel_rfl) s53 (At.row HA1.out) sm53 ?_)
    | (go_at_call 10; refine t2.mono ?_; rintro e w2 ⟨v2, rfl, hO2, hb2⟩; have HO2 := Hid.mk hO2; have HB2 := Hid.mk hb2; clear hO2 hb2; obtain ⟨a2, c2, e2, _⟩ := HO2.out.shape; subst e2; have t3 := new83 (w := w2))
    | (go_at_call 8; refine t3.mono ?_; rintro e w3 ⟨p, hp3, rfl, hF3, hb3⟩; have HF3 := Hid.mk hF3; have HB3 := Hid.mk hb3; clear hF3 hb3))
  simp only [List.length_cons, List.length_nil, Nat.zero_add, Nat.reduceAdd] at HO2 ⊢
  have HC13 : Hid (Chg [] w1 w3) := ⟨(Chg.ofBelow HB2.out).trans (Chg.ofBelow HB3.out)⟩
  have HA3 : Hid (SumAt w3 g s53) := ⟨HA1.out.far HC13.out (by simp)⟩
  have HV3 : Hid (Vars w3) := ⟨vars_far HV1.out HC13.out (by simp)⟩
  have HO3 : Hid (OwnI w3 0 (.slice a2 3 c2) [5, 0, 3]) := ⟨own_base (own_far HO2.out (Chg.ofBelow (X := []) HB3.out) (by simp)) (fun _ _ => Nat.zero_le _)⟩
  obtain ⟨b, off, cap, e, _, hcell⟩ := HO3.out.rd.at (i := 0) (by decide)
  simp at e
  obtain ⟨rfl, rfl⟩ := e
  have c0 := hcell 0 (by decide)
  have c1 := hcell 1 (by decide)
  have c2 := hcell 2 (by decide)
  simp at c0 c1 c2
  obtain ⟨c, Hc⟩ : ∃ c, Hid (w2.heap.size = c) := ⟨_, ⟨rfl⟩⟩
  rw [Hc.out] at HF3 hp3
  have Hgc : Hid (g < c) := ⟨by rw [← Hc.out]; exact Nat.lt_of_lt_of_le HA1.out.lt HB2.out.size⟩
  have HBw3 : Hid (Below g w w3) := ⟨HB1.out.trans (HC13.out.below (Nat.le_of_lt HA1.out.lt) (by simp))⟩
  have t4 := add83 HF3.out
  clear hcell hp3 t2 HO2 HO3 HB1 HB2 HB3 HC13 HA1 HV1
  have q0 := run_b00
  have q8 := run_b58
  go_wp2_with (first
    | (refine wpList_unguard (by kernel_rfl) ?_; refine wp_loadS rfl (.tmp 1) rfl g 0 (by kernel_rfl) s53 (At.row HA4.out) sm53 ?_)
    | (refine wpList_unguard (by kernel_rfl) ?_; refine wp_loadS rfl (.tmp 1) rfl g 0 (by kernel_rfl) s53 (At.row HA3.out) sm53 ?_)
    | (go_at_call 17; refine t4.mono ?_; rintro e w4 ⟨rfl, hF4, hc4⟩; have HF4 := Hid.mk hF4; have HC4 := Hid.mk hc4; have t5 := has83 hF4 s53 sm53 (by decide); have HA4 : Hid (SumAt w4 g s53) := ⟨HA3.out.far hc4 (by have := Hgc.out; simp; omega)⟩; clear hF4 hc4)
    | (go_at_call 14; refine t5.mono ?_; rintro e w5 ⟨rfl, hb5⟩; have HF5 : Hid (FlAt w5 p c 1 8 3 [41]) := ⟨HF4.out.far (X := []) (Chg.ofBelow hb5) (by simp) (by simp)⟩; have HC5 : Hid (Chg [c] w3 w5) := ⟨HC4.out.trans (Chg.ofBelow hb5)⟩; clear hb5 t5; have t6 := has83 HF5.out s00 sm00 (by decide))
    | (go_at_call 14; refine t6.mono ?_; rintro e w6 ⟨rfl, hb6⟩; have HF6 : Hid (FlAt w6 p c 1 8 3 [41]) := ⟨HF5.out.far (X := []) (Chg.ofBelow hb6) (by simp) (by simp)⟩; have HC6 : Hid (Chg [c] w3 w6) := ⟨HC5.out.trans (Chg.ofBelow hb6)⟩; clear hb6 t6; have t7 := has83 HF6.out s58 sm58 (by decide))
    | (go_at_call 14; refine t7.mono ?_; rintro e w7 ⟨rfl, hb7⟩; have HF7 : Hid (FlAt w7 p c 1 8 3 [41]) := ⟨HF6.out.far (X := []) (Chg.ofBelow hb7) (by simp) (by simp)⟩; have HC7 : Hid (Chg [c] w3 w7) := ⟨HC6.out.trans (Chg.ofBelow hb7)⟩; clear hb7 t7; have t8 := ones83 HF7.out (vars_far HV3.out HC7.out (by have := Hgc.out; simp; omega)))
    | (go_at_call 21; refine t8.mono ?_; rintro e w8 ⟨rfl, hb8⟩; have HF8 : Hid (FlAt w8 p c 1 8 3 [41]) := ⟨HF7.out.far (X := []) (Chg.ofBelow hb8) (by simp) (by simp)⟩; have HC8 : Hid (Chg [c] w3 w8) := ⟨HC7.out.trans (Chg.ofBelow hb8)⟩; clear hb8 t8; have t9 := size_any HF8.out)
    | (go_at_call 16; refine t9.mono ?_; rintro e w9 ⟨rfl, ex⟩; subst ex))
  go_ret
  exact ⟨rfl, by rw [Hg.out]; exact HBw3.out.trans (HC8.out.below (Nat.le_of_lt HA3.out.lt) (by have := Hgc.out; simp; omega))⟩
end
end Go.Proofs.YtiloclekhddkfabDoor
