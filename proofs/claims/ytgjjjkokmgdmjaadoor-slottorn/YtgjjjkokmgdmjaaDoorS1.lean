/- slices.Clone, Grow, Concat of bytes. -/
import Derived.Test.YtgjjjkokmgdmjaaDoorMoc
import Derived.Test.YtgjjjkokmgdmjaaDoorMdkb
import Derived.Test.YtgjjjkokmgdmjaaDoorMdg
import Derived.Deep.RegionHeld3
import Derived.Deep.LoopGhost
import Derived.Lib.SliceRun
namespace Go.Proofs.YtgjjjkokmgdmjaaDoor
open Go.RowKit
abbrev Bs := @Oc.Bs
abbrev OwnB (w : World) (base : Nat) (v : Value) (l : List Int) : Prop := Oc.OwnB w base 5 v l
theorem Tryd.bt : Oc.ByteT Tryd.prog 23 5 := Oc.Tryd.bt
abbrev Hid := Dk.Hid
section
variable {w : World}
theorem infoB5 : (Tryd.prog.info? 5).map (fun i => (i.zero, i.size, i.bytes)) = some (some (.int .u8 0), 1, 1) := by kernel_rfl
set_option maxHeartbeats 2000000 in
set_option maxRecDepth 100000 in
theorem bclone_any (v : Value) (bs : List Int) (h : Oc.Bs w v bs) (hl : bs.length ≤ 100000) : Calls Tryd.prog 47 #[v] w fun e w' => ∃ v', e = .returned v' ∧ OwnB w' w.heap.size v' bs ∧ Below w.heap.size w w' := by
  have H : Hid (Oc.Bs w v bs) := ⟨h⟩
  obtain ⟨a, cap, rfl, h1, h2, h3, h4⟩ := h
  cases a with
  | none =>
    have hc := h3 rfl
    have e : bs = [] := List.length_eq_zero_iff.1 (by omega)
    subst hc e
    clear h4 H
    have heq : (binOp .eql 23 (.slice none 0 0) (.slice none 0 0)).run Tryd.prog w = .ok (.bool true) w := Go.Lib.run_eql_slice_nil w 23 5 none 0 0 0 0 Tryd.underlying23
    go_enter Tryd.func47, Tryd.ntmps47
    go_wp2_with fail
    go_ret
    exact ⟨_, rfl, Oc.OwnB.nil w _ 5, Below.refl _ _⟩
  | some x =>
    obtain ⟨n, Hn⟩ : ∃ n, Hid (bs.length = n) := ⟨_, ⟨rfl⟩⟩
    rw [Hn.out] at H
    clear h1 h2 h3 h4
    have HB : Hid (Below w.heap.size w (w.alloc (.cells #[] 5))) := ⟨(Below.refl _ w).alloc (Nat.le_refl _) _⟩
    have HO : Hid (Oc.OwnB (w.alloc (.cells #[] 5)) w.heap.size 5 (.slice (some ⟨w.heap.size, 0, none⟩) 0 0) []) := ⟨Oc.own_lit w 5 w.heap.size [] #[] rfl (Nat.le_refl _) (by decide)⟩
    have Hs : Hid (Oc.Bs (w.alloc (.cells #[] 5)) (.slice (some x) n cap) bs) := ⟨H.out.alloc _⟩
    rw [Hn.out]
    have heq : (binOp .eql 23 (.slice (some x) n cap) (.slice none 0 0)).run Tryd.prog w = .ok (.bool false) w := Go.Lib.run_eql_slice_nil w 23 5 (some x) n cap 0 0 Tryd.underlying23
    go_enter Tryd.func47, Tryd.ntmps47
    go_wp2_with (refine Oc.wp_appS Tryd.bt rfl (.tmp 5) (.tmp 6) rfl rfl HO.out rfl Hs.out (by have := Hn.out; simp; omega) (by simp) ?_; intro v' w' hO hB; have HO2 : Hid (Oc.OwnB w' w.heap.size 5 v' ([] ++ bs)) := ⟨hO⟩; have HB2 : Hid (Below w.heap.size (w.alloc (.cells #[] 5)) w') := ⟨hB⟩; clear hO hB)
    go_ret
    exact ⟨_, rfl, HO2.out, HB.out.trans HB2.out⟩
/-- 'append(nil, make([]byte, k)...)'. -/
theorem run_appendZ (w : World) (ty k : Nat) (hk : k ≤ 1000000) (hk0 : 0 < k) :
    ∃ cap' w', (Builtin.append_ #[23, 3] ty #[.slice none 0 0, .int .i64 (k : Int)]).run Tryd.prog w = .ok (.slice (some ⟨w.heap.size, 0, none⟩) k cap') w' ∧
      (∃ C, w'.heap[w.heap.size]? = some (.cells C 5 (0, 0)) ∧ C.size = cap') ∧ k ≤ cap' ∧ cap' ≤ maxLen ∧ Below w.heap.size w w' := by
  obtain ⟨i, hi, hz, hi2, hi3⟩ := info_parts infoB5
  have h63' : ¬ (9223372036854775807 < (k : Int)) := by omega
  have hfit : Builtin.nextslicecap k 0 * i.bytes ≤ 281474976710656 := growslice_fits (by omega) (by rw [hi3]; omega)
  have h48' : ¬ (281474976710656 < Builtin.nextslicecap k 0) := by rw [hi3] at hfit; omega
  have hkw : IntKind.i64.wrap (k : Int) = k := by rw [IntKind.wrap_i64]; omega
  have hk1 : ¬ ((k : Int) < 0) := by omega
  have hk2 : ¬ (281474976710656 < (k : Int)) := by omega
  have ha : ∀ W, (asInt (.int .i64 (k : Int))).run Tryd.prog W = .ok (k : Int) W := fun _ => rfl
  have hk3 : ¬ (k = 0) := by omega
  have hge := grownCap_ge w k 0 5
  have hcm : grownCap w k 0 5 ≤ maxLen := grownCap_le_maxLen w k 0 5 (by unfold maxLen; omega)
  refine ⟨grownCap w k 0 5, w.drew.alloc (.cells (Builtin.zeroCells (Value.int .u8 0).cells k ++ Builtin.zeroCells (Value.int .u8 0).cells (grownCap w k 0 5 - k)) 5), ?_, ⟨_, heap_alloc_new w.drew _, ?_⟩, hge, hcm, ((Below.refl _ w).drew.alloc (Nat.le_refl _) _)⟩
  · simp [Builtin.append_, run_underlying Tryd.underlying23, run_underlying Tryd.underlying3, sizeOf, typeInfo, zeroValue, hi, hz, hi2, hi3, hk3, h63', h48', ha, hkw, hk1, hk2, Question.forced, newRow, grownCap, Builtin.firstCells]
  · clear hkw
    simp [Builtin.zeroCells, Value.cells]
    omega
theorem wpl_app {ops : Array Oper} {rest : List Oper} {o : Oper} {a : Act} {Q : Exit → Act → World → Prop} (hgd : o.guard = none) (s x : Operand) (t1 t2 : TypeId) (ho : o.op = .call { callee := .builtin .append, args := #[s, x], argTypes := #[t1, t2] })
    {v1 v2 v' : Value} {w' : World} (hs : a.eval s = v1) (hx : a.eval x = v2) (hr : (Builtin.append_ #[t1, t2] o.type #[v1, v2]).run Tryd.prog w = .ok v' w') (h : wpList Tryd.prog ops Q rest (a.put o.dst v') w') : wpList Tryd.prog ops Q (o :: rest) a w := by
  refine wpList_plain hgd fun K hK => ?_
  unfold Oper.wp execOp
  simp only [ho, resolve, invoke, builtin, Sem.run_bind, Sem.run_pure, Result.andThen_ok, List.map_toArray, List.map_cons, List.map_nil, hs, hx, hr]
  exact hK _ _ h
theorem own_zero {w' : World} {g cap : Nat} {C : Array Value} (hg : w'.heap[g]? = some (.cells C 5 (0, 0))) (hC : C.size = cap) (hm : cap ≤ maxLen) {base : Nat} (hb : base ≤ g) : OwnB w' base (.slice (some ⟨g, 0, none⟩) 0 cap) [] :=
  ⟨rfl, .inr ⟨g, cap, C, rfl, hb, hg, Nat.zero_le _, hm, by omega, by simp⟩⟩
set_option maxHeartbeats 2000000 in
set_option maxRecDepth 100000 in
theorem grow_any (k : Nat) (hk0 : 0 < k) (hk : k ≤ 1000000) : Calls Tryd.prog 49 #[.slice none 0 0, .int .i64 (k : Int)] w fun e w' => ∃ v, e = .returned v ∧ OwnB w' w.heap.size v [] ∧ Below w.heap.size w w' := by
  obtain ⟨cap', w1, hr, ⟨C, hg, hC⟩, hc1, hc2, hb⟩ := run_appendZ w 23 k hk hk0
  have HO : Hid (OwnB w1 w.heap.size (.slice (some ⟨w.heap.size, 0, none⟩) 0 cap') []) := ⟨own_zero hg hC hc2 (Nat.le_refl _)⟩
  have HB : Hid (Below w.heap.size w w1) := ⟨hb⟩
  have hkz : (0 : Int) < (k : Int) := by omega
  have Hr : Hid ((Builtin.append_ #[23, 3] 23 #[.slice none 0 0, .int .i64 (k : Int)]).run Tryd.prog w = .ok (.slice (some ⟨w.heap.size, 0, none⟩) k cap') w1) := ⟨hr⟩
  clear hg hC hb hr
  go_enter Tryd.func49, Tryd.ntmps49
  go_wp2_with (refine wpl_app rfl (.tmp 20) (.tmp 21) 23 3 rfl rfl rfl Hr.out ?_)
  go_ret
  exact ⟨_, rfl, HO.out, HB.out⟩
end
end Go.Proofs.YtgjjjkokmgdmjaaDoor
