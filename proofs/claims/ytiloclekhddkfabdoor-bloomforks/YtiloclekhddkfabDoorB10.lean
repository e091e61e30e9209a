/- The program's places: a function that tells them. -/
import Derived.RangeFuncNested
import Derived.RangeFuncBound
import Derived.RangeFuncCalls
import Derived.RangeFuncLeaves
import Derived.Shelf.Abstract
import Derived.Shelf.RegionOpen
import Derived.WalkKit
import Derived.OwnWalkIn
import Derived.TacticsInMore
import Derived.LoopNIn
import Derived.LoopIn
import Derived.Lib.QuietBelowIn
import Derived.Test.YtiloclekhddkfabDoorB9
namespace Go.Proofs.YtiloclekhddkfabDoor
open Go.RowKit Go.Shelf Go.Sort
section
variable {w : World}
set_option maxHeartbeats 2000000 in
set_option maxRecDepth 100000 in
/-- places: the sum, the size and the ways lie in three new blocks, and a function is told over them. -/
theorem places_any (s : List Int) (size ways : Int) : Calls Tryd.prog 28 #[.agg (sc s).toArray, .int .i64 size, .int .i64 ways] w fun e w' => e = .returned (.func (.func 38) #[] #[.pointer (some ⟨w.heap.size + 1, 0, none⟩), .pointer (some ⟨w.heap.size + 2, 0, none⟩), .pointer (some ⟨w.heap.size, 0, none⟩)]) ∧ w' = ((w.alloc (.cells (sc s).toArray 22)).alloc (.cells #[.int .i64 size] 3)).alloc (.cells #[.int .i64 ways] 3) := by
  have hbox := run_boxS
  generalize (sc s).toArray = cs
  go_enter Tryd.func28, Tryd.ntmps28
  go_wp2_with fail
  go_ret
  exact ⟨rfl, rfl⟩
end
/-- What a round must keep: three blocks. -/
def Kb (q : Nat) (A B : World) : Prop := A.heap.size ≤ B.heap.size ∧ ∀ k, q ≤ k → k < q + 3 → k < A.heap.size → B.heap[k]? = A.heap[k]?
theorem Kb.trans {q : Nat} {A B C : World} (h : Kb q A B) (k : Kb q B C) : Kb q A C := ⟨Nat.le_trans h.1 k.1, fun j h1 h2 h3 => (k.2 j h1 h2 (Nat.lt_of_lt_of_le h3 h.1)).trans (h.2 j h1 h2 h3)⟩
theorem Kb.refl (q : Nat) (A : World) : Kb q A A := ⟨Nat.le_refl _, fun _ _ _ _ => rfl⟩
theorem Kb.of {q : Nat} {X : List Nat} {A B : World} (h : Chg X A B) (hx : ∀ k ∈ X, k < q ∨ q + 3 ≤ k) : Kb q A B := ⟨h.size, fun k h1 h2 h3 => h.block k h3 (fun hm => by have := hx k hm; omega)⟩
theorem Kb.cell {q j : Nat} {A B : World} {v : Value} (h : Kb q A B) (h1 : q ≤ j) (h2 : j < q + 3) (hc : A.cell? ⟨j, 0, none⟩ = some v) : B.cell? ⟨j, 0, none⟩ = some v := by
  have hl : j < A.heap.size := World.block_lt_of_cell? _ _ hc
  have := h.2 j h1 h2 hl
  simp only [World.cell?] at hc ⊢
  rw [this]
  exact hc
/-- The place of a number. -/
def pl (s : List Int) (size : Nat) (h : 0 < size) (k : Nat) : {x : Nat // x < size} := ⟨(n6 s 0 + k * n6 s 6) % size, Nat.mod_lt _ h⟩
/-- The first places. -/
def upl (s : List Int) (size : Nat) (h : 0 < size) (k : Nat) : List {x : Nat // x < size} := (List.range k).map (pl s size h)
theorem upl_succ (s : List Int) (size : Nat) (h : 0 < size) (k : Nat) : upl s size h (k + 1) = upl s size h k ++ [pl s size h k] := by simp [upl, List.range_succ]
theorem upl_len (s : List Int) (size : Nat) (h : 0 < size) (k : Nat) : (upl s size h k).length = k := by simp [upl]
theorem upl_pre (s : List Int) (size : Nat) (h : 0 < size) (k : Nat) : (upl s size h k).map (fun x => (x.1 : Int)) = pre s size k := by
  simp only [upl, pre, List.map_map]
  apply List.map_congr_left
  intro i _
  simp [pl, plc1]
theorem pre_pre (s : List Int) (bits : Int) {k n : Nat} (h : k ≤ n) : pre s bits k <+: pre s bits n := by
  obtain ⟨d, rfl⟩ := Nat.le.dest h
  refine ⟨((List.range d).map (k + ·)).map (plc1 s bits), ?_⟩
  simp [pre, List.range_add]
section
attribute [local go_sem] Oper.semAt_some
set_option maxHeartbeats 4000000 in
set_option maxRecDepth 100000 in
theorem places1_in (s : List Int) (hs : Sum32 s) (size ways : Nat) (hft : ft size ways = true) (l q : Nat) (J Jx : List {x : Nat // x < size} → World → Prop) (W : World)
    (hA : At W q 0 (sc s)) (h1 : W.cell? ⟨q + 1, 0, none⟩ = some (.int .i64 (size : Int))) (h2 : W.cell? ⟨q + 2, 0, none⟩ = some (.int .i64 (ways : Int)))
    (hJ : AbidesFrom W.heap.size J)
    (hY : ∀ pre x W1, J pre W1 → pre.length < ways → YieldAt Fence.wide 8 Tryd.prog l #[.int .i64 (x.1 : Int)] W1 fun e W' =>
      (e = .returned (.bool true) ∧ J (pre ++ [x]) W' ∧ Kb q W1 W') ∨ (e = .returned (.bool false) ∧ Jx (pre ++ [x]) W'))
    (h0 : J [] W) :
    CallsIn Fence.wide 9 Tryd.prog 38 #[.func (.yield l) #[] #[], .pointer (some ⟨q + 1, 0, none⟩), .pointer (some ⟨q + 2, 0, none⟩), .pointer (some ⟨q, 0, none⟩)] W fun e W' => (∃ v, e = .returned v) ∧
      ((∃ ys : List {x : Nat // x < size}, ys.map (fun x => (x.1 : Int)) = plc s size ways ∧ J ys W') ∨ (∃ pre, pre.map (fun x => (x.1 : Int)) <+: plc s size ways ∧ Jx pre W')) := by
  have t1 := fits_any (w := W) size ways
  rw [hft] at t1
  have hfb : 1 ≤ (size : Int) ∧ (size : Int) ≤ 65536 ∧ 1 ≤ (ways : Int) ∧ (ways : Int) ≤ 8 := of_decide_eq_true hft
  have HP : Hid (plc s size ways = pre s size ways) := ⟨by unfold plc; rw [if_pos hft]; simp⟩
  have hsz : 0 < size := by omega
  have hwy : ways ≤ 8 := by omega
  have hlA := n6_lt hs 0
  have hlB := n6_lt hs 6
  have cA : ∀ d os, CallsIn Fence.wide 8 Tryd.prog 39 #[.agg (sc s).toArray, .int .i64 0] (grow (redrawn W d) os) fun e w'' => e = .returned (.int .i64 (n6 s 0)) ∧ ∃ p : Regrown, w'' = grow (redrawn W p.d) p.os := fun d os => CallsIn.regrown_of (callsIn_wide.2 (word_any s hs 0 (by decide)))
  have cB : ∀ d os, CallsIn Fence.wide 8 Tryd.prog 39 #[.agg (sc s).toArray, .int .i64 1] (grow (redrawn W d) os) fun e w'' => e = .returned (.int .i64 (n6 s 6)) ∧ ∃ p : Regrown, w'' = grow (redrawn W p.d) p.os := fun d os => CallsIn.regrown_of (callsIn_wide.2 (word_any s hs 1 (by decide)))
  have kL : ∀ d os, (loadVar 22 ⟨q, 0, none⟩).run Tryd.prog (grow (redrawn W d) os) = .ok (.agg (sc s).toArray) (grow (redrawn W d) os) := fun d os => run_loadS (hA.far (X := []) (Chg.ofBelow (below_regrown W d os)) (by simp)) hs
  have HU : Hid (∀ k, ((upl s size hsz k).map (fun x => (x.1 : Int)) = pre s size k) ∧ upl s size hsz (k + 1) = upl s size hsz k ++ [pl s size hsz k] ∧ (upl s size hsz k).length = k ∧ (pl s size hsz k).1 = (n6 s 0 + k * n6 s 6) % size) := ⟨fun k => ⟨upl_pre s size hsz k, upl_succ s size hsz k, upl_len s size hsz k, rfl⟩⟩
  have hu0 : J (upl s size hsz 0) W := h0
  generalize upl s size hsz = U at HU hu0
  generalize pl s size hsz = PL at HU
  generalize n6 s 0 = A at hlA cA HU
  generalize n6 s 6 = B at hlB cB HU
  generalize (sc s).toArray = cs at cA cB kL
  refine callsIn_of_wp Tryd.func38 rfl trivial ?_ rfl
  simp only [Tryd.ntmps38, List.size_toArray, List.length_cons, List.length_nil, Nat.reduceAdd, Nat.reduceSub, Array.replicate_succ, Array.replicate_zero, List.push_toArray, List.append_toArray, List.nil_append, List.cons_append]
  gi_wp2_with (refine ⟨trivial, ?_⟩; gi_at_call 26; refine (callsIn_wide.2 t1).mono ?_; rintro e wx ⟨rfl, ex⟩; subst ex)
  refine wpIn_region_quiet_below rfl (by kernel_rfl) (by kernel_rfl) ?_
  refine wpQuietIn_step (fun _ _ _ _ => trivial) (fun K hK => ?_)
  rw [if_pos (by kernel_rfl)]
  refine ⟨.agg cs, ?_, hK _ ?_⟩
  · rintro w' ⟨⟨d, os⟩, rfl⟩
    unfold Oper.quietAtIn
    rw [exec_load rfl q 0 (by kernel_rfl) (kL d os)]
    exact ⟨rfl, rfl⟩
  clear hK K
  refine wpQuietIn_step (fun _ _ _ _ => trivial) (fun K hK => ?_)
  go_simp
  apply Exists.intro
  refine ⟨fun _ => ?_, hK _ ?_⟩
  first | exact ⟨trivial, by omega, cA _ _⟩ | exact ⟨by omega, cA _ _⟩ | exact ⟨fun _ => by omega, cA _ _⟩ | exact cA _ _
  clear hK K
  refine wpQuietIn_step (fun _ _ _ _ => trivial) (fun K hK => ?_)
  rw [if_pos (by kernel_rfl)]
  refine ⟨.agg cs, ?_, hK _ ?_⟩
  · rintro w' ⟨⟨d, os⟩, rfl⟩
    unfold Oper.quietAtIn
    rw [exec_load rfl q 0 (by kernel_rfl) (kL d os)]
    exact ⟨rfl, rfl⟩
  clear hK K
  refine wpQuietIn_step (fun _ _ _ _ => trivial) (fun K hK => ?_)
  go_simp
  apply Exists.intro
  refine ⟨fun _ => ?_, hK _ ?_⟩
  first | exact ⟨trivial, by omega, cB _ _⟩ | exact ⟨by omega, cB _ _⟩ | exact ⟨fun _ => by omega, cB _ _⟩ | exact cB _ _
  clear hK K
  quiet_step_in (fail)
  quiet_step_in (fail)
  refine wpQuietIn_nil ?_
  intro _ hw'
  obtain ⟨⟨dq, osq⟩, hw''⟩ := hw'
  subst hw''
  have HB := Hid.mk (below_regrown W dq osq)
  obtain ⟨W5, HW5⟩ : ∃ x, grow (redrawn W dq) osq = x := ⟨_, rfl⟩
  rw [HW5] at HB ⊢
  have hJ5 : J (U 0) W5 := hJ _ W W5 none hu0 ⟨HB.out.os, HB.out.tape, HB.out.output, HB.out.size, fun k hk _ => HB.out.block k hk⟩ (fun r e => by cases e)
  have HC5 : Hid (Chg [] W W5) := ⟨Chg.ofBelow HB.out⟩
  have h15 : W5.cell? ⟨q + 1, 0, none⟩ = some (.int .i64 (size : Int)) := (HC5.out.cell (a := ⟨q + 1, 0, none⟩) (World.block_lt_of_cell? _ _ h1) (by simp)).trans h1
  have h25 : W5.cell? ⟨q + 2, 0, none⟩ = some (.int .i64 (ways : Int)) := (HC5.out.cell (a := ⟨q + 2, 0, none⟩) (World.block_lt_of_cell? _ _ h2) (by simp)).trans h2
  clear cA cB kL hA h1 h2 hu0 HB HC5 HW5 h0 t1
  gi_wp2
  gi_loopw [17] (fun i wr => ∃ k : Nat, k ≤ ways ∧ i = .int .i64 (k : Int) ∧ J (U k) wr ∧ Hid (Kb q W5 wr)) (fun i _ => ways - (intOf i).toNat)
  case atStart => exact ⟨0, Nat.zero_le _, rfl, hJ5, ⟨Kb.refl _ _⟩⟩
  case round =>
    obtain ⟨k, hk, rfl, hJs, HK⟩ := hrel
    by_cases hlt : k < ways
    · have hltz : (k : Int) < (ways : Int) := by omega
      have HUk := Hid.mk (HU.out k)
      have hc1 : wr.cell? ⟨q + 1, 0, none⟩ = some (.int .i64 (size : Int)) := HK.out.cell (by omega) (by omega) h15
      obtain ⟨fn, tmps, assign, body, hy, hR⟩ := hY (U k) (PL k) wr hJs (by rw [HUk.out.2.2.1]; exact hlt)
      have hr4 := HUk.out.2.2.2
      obtain ⟨r, Hr⟩ : ∃ r, (PL k).1 = r := ⟨_, rfl⟩
      rw [Hr] at hr4
      simp only [Hr] at hy
      obtain ⟨P, HPe⟩ : ∃ P, Hid (k * B = P) := ⟨_, ⟨rfl⟩⟩
      have hPb : P ≤ 2251799813685248 := by
        rw [← HPe.out]
        have : k * B ≤ 8 * 281474976710655 := Nat.mul_le_mul (by omega) hlB
        omega
      rw [HPe.out] at hr4
      have hP : (k : Int) * (B : Int) = (P : Int) := by rw [← HPe.out]; simp
      have hPw : IntKind.i64.wrap (P : Int) = (P : Int) := IntWalk.i64_in _ ⟨by omega, by omega⟩
      obtain ⟨Q, HQe⟩ : ∃ Q, Hid (A + P = Q) := ⟨_, ⟨rfl⟩⟩
      rw [HQe.out] at hr4
      have hQ : (A : Int) + (P : Int) = (Q : Int) := by rw [← HQe.out]; omega
      have hQw : IntKind.i64.wrap (Q : Int) = (Q : Int) := IntWalk.i64_in _ ⟨by omega, by rw [← HQe.out]; omega⟩
      have hR2 : (Q : Int).tmod (size : Int) = (r : Int) := by rw [Int.tmod_eq_emod_of_nonneg (by omega), hr4]; simp
      have hR1 : (Q : Int) % (size : Int) = (r : Int) := by rw [hr4]; simp
      have hrb : r < size := by rw [hr4]; exact Nat.mod_lt _ hsz
      have hRw : IntKind.i64.wrap (r : Int) = r := IntWalk.i64_in _ ⟨by omega, by omega⟩
      have hRw2 : wrap64 (r : Int) = r := IntWalk.wrap64_in _ ⟨by omega, by omega⟩
      have hs0 : ¬ (size : Int) = 0 := by omega
      clear hr4
      gi_wp2
      refine hR.mono ?_
      rintro e W3 (⟨rfl, hJ3, hk3⟩ | ⟨rfl, hJx3⟩)
      · gi_wp2
        go_roundw
        case rel => exact ⟨k + 1, by omega, by simp, by rw [HUk.out.2.1]; exact hJ3, ⟨HK.out.trans hk3⟩⟩
        case measure => simp [intOf]; omega
      · gi_wp2
        refine bodyPost_ret (results_none rfl _ _ _) rfl ?_
        exact ⟨⟨_, rfl⟩, .inr ⟨_, by rw [← HUk.out.2.1, HP.out, (HU.out (k + 1)).1]; exact pre_pre s _ (by omega), hJx3⟩⟩
    · obtain rfl : k = ways := by omega
      gi_wp2
      go_end0
      exact ⟨⟨_, rfl⟩, .inl ⟨_, by rw [HP.out]; exact (HU.out k).1, hJs⟩⟩
theorem places_stops {w : World} (s : List Int) (hs : Sum32 s) (size ways : Nat) (hft : ft size ways = true) (q : Nat) (hA : At w q 0 (sc s)) (h1 : w.cell? ⟨q + 1, 0, none⟩ = some (.int .i64 (size : Int))) (h2 : w.cell? ⟨q + 2, 0, none⟩ = some (.int .i64 (ways : Int))) :
    SeqStopsK Fence.wide 9 Tryd.prog 38 #[.pointer (some ⟨q + 1, 0, none⟩), .pointer (some ⟨q + 2, 0, none⟩), .pointer (some ⟨q, 0, none⟩)] (fun x : {x : Nat // x < size} => #[.int .i64 (x.1 : Int)]) (Kb q) (fun ys => ys.map (fun x => (x.1 : Int)) = plc s size ways) (fun pre => pre.map (fun x => (x.1 : Int)) <+: plc s size ways) ways w :=
  fun l J Jx W hW hJ _ hY h0 =>
    have hc : Chg [] w W := Chg.ofBelow hW
    places1_in s hs size ways hft l q J Jx W (hA.far hc (by simp)) ((hc.cell (a := ⟨q + 1, 0, none⟩) (World.block_lt_of_cell? _ _ h1) (by simp)).trans h1) ((hc.cell (a := ⟨q + 2, 0, none⟩) (World.block_lt_of_cell? _ _ h2) (by simp)).trans h2) hJ hY h0
theorem kb_put {q : Nat} {w : World} (hq : q + 3 ≤ w.heap.size) (W : World) (l : Nat) (o o' : Obj) (hl : w.heap.size ≤ l) (h : W.heap[l]? = some o) (_ : o.isCells = false) (_ : o.isWalk = false) : Kb q W (W.putObj l o') := by
  have z := belowK_b (n₀ := q + 3) hq W l o o' hl h ‹_› ‹_›
  exact ⟨z.size, fun k _ h2 _ => z.block k h2⟩
end
end Go.Proofs.YtiloclekhddkfabDoor
