/- slices.Grow, Concat of bytes. -/
import Derived.Test.YthohpbppfihoiaaU2
import Derived.Deep.LoopGhost
import Derived.Lib.SliceRun
namespace Go.Proofs.Ythohpbppfihoiaa
open Go.RowKit
abbrev OwnC (w : World) (base : Nat) (v : Value) (l : List Int) : Prop := Oct.OwnB w base 5 v l
section
variable {w : World}
theorem infoB5 : (Try.prog.info? 5).map (fun i => (i.zero, i.size, i.bytes)) = some (some (.int .u8 0), 1, 1) := by kernel_rfl
/-- 'append(nil, make([]byte, k)...)'. -/
theorem run_appendZ (w : World) (ty k : Nat) (hk : k ≤ 1000000) (hk0 : 0 < k) :
    ∃ cap' w', (Builtin.append_ #[25, 3] ty #[.slice none 0 0, .int .i64 (k : Int)]).run Try.prog w = .ok (.slice (some ⟨w.heap.size, 0, none⟩) k cap') w' ∧
      (∃ C, w'.heap[w.heap.size]? = some (.cells C 5 (0, 0)) ∧ C.size = cap') ∧ k ≤ cap' ∧ cap' ≤ maxLen ∧ Below w.heap.size w w' := by
  obtain ⟨i, hi, hz, hi2, hi3⟩ := info_parts infoB5
  have h63' : ¬ (9223372036854775807 < (k : Int)) := by omega
  have hfit : Builtin.nextslicecap k 0 * i.bytes ≤ 281474976710656 := growslice_fits (by omega) (by rw [hi3]; omega)
  have h48' : ¬ (281474976710656 < Builtin.nextslicecap k 0) := by rw [hi3] at hfit; omega
  have hkw : IntKind.i64.wrap (k : Int) = k := by rw [IntKind.wrap_i64]; omega
  have hk1 : ¬ ((k : Int) < 0) := by omega
  have hk2 : ¬ (281474976710656 < (k : Int)) := by omega
  have ha : ∀ W, (asInt (.int .i64 (k : Int))).run Try.prog W = .ok (k : Int) W := fun _ => rfl
  have hk3 : ¬ (k = 0) := by omega
  have hge := grownCap_ge w k 0 5
  have hcm : grownCap w k 0 5 ≤ maxLen := grownCap_le_maxLen w k 0 5 (by unfold maxLen; omega)
  refine ⟨grownCap w k 0 5, w.drew.alloc (.cells (Builtin.zeroCells (Value.int .u8 0).cells k ++ Builtin.zeroCells (Value.int .u8 0).cells (grownCap w k 0 5 - k)) 5), ?_, ⟨_, heap_alloc_new w.drew _, ?_⟩, hge, hcm, ((Below.refl _ w).drew.alloc (Nat.le_refl _) _)⟩
  · simp [Builtin.append_, run_underlying Try.underlying25, run_underlying Try.underlying3, sizeOf, typeInfo, zeroValue, hi, hz, hi2, hi3, hk3, h63', h48', ha, hkw, hk1, hk2, Question.forced, newRow, grownCap, Builtin.firstCells]
  · clear hkw
    simp [Builtin.zeroCells, Value.cells]
    omega
theorem wpl_app {ops : Array Oper} {rest : List Oper} {o : Oper} {a : Act} {Q : Exit → Act → World → Prop} (hgd : o.guard = none) (s x : Operand) (t1 t2 : TypeId) (ho : o.op = .call { callee := .builtin .append, args := #[s, x], argTypes := #[t1, t2] })
    {v1 v2 v' : Value} {w' : World} (hs : a.eval s = v1) (hx : a.eval x = v2) (hr : (Builtin.append_ #[t1, t2] o.type #[v1, v2]).run Try.prog w = .ok v' w') (h : wpList Try.prog ops Q rest (a.put o.dst v') w') : wpList Try.prog ops Q (o :: rest) a w := by
  refine wpList_plain hgd fun K hK => ?_
  unfold Oper.wp execOp
  simp only [ho, resolve, invoke, builtin, Sem.run_bind, Sem.run_pure, Result.andThen_ok, List.map_toArray, List.map_cons, List.map_nil, hs, hx, hr]
  exact hK _ _ h
theorem own_zero {w' : World} {g cap : Nat} {C : Array Value} (hg : w'.heap[g]? = some (.cells C 5 (0, 0))) (hC : C.size = cap) (hm : cap ≤ maxLen) {base : Nat} (hb : base ≤ g) : OwnC w' base (.slice (some ⟨g, 0, none⟩) 0 cap) [] :=
  ⟨rfl, .inr ⟨g, cap, C, rfl, hb, hg, Nat.zero_le _, hm, by omega, by simp⟩⟩
set_option maxHeartbeats 2000000 in
set_option maxRecDepth 100000 in
theorem grow_any (k : Nat) (hk0 : 0 < k) (hk : k ≤ 1000000) : Calls Try.prog 42 #[.slice none 0 0, .int .i64 (k : Int)] w fun e w' => ∃ v, e = .returned v ∧ OwnC w' w.heap.size v [] ∧ Below w.heap.size w w' := by
  obtain ⟨cap', w1, hr, ⟨C, hg, hC⟩, hc1, hc2, hb⟩ := run_appendZ w 25 k hk hk0
  have HO : Hid (OwnC w1 w.heap.size (.slice (some ⟨w.heap.size, 0, none⟩) 0 cap') []) := ⟨own_zero hg hC hc2 (Nat.le_refl _)⟩
  have HB : Hid (Below w.heap.size w w1) := ⟨hb⟩
  have hkz : (0 : Int) < (k : Int) := by omega
  have Hr : Hid ((Builtin.append_ #[25, 3] 25 #[.slice none 0 0, .int .i64 (k : Int)]).run Try.prog w = .ok (.slice (some ⟨w.heap.size, 0, none⟩) k cap') w1) := ⟨hr⟩
  clear hg hC hb hr
  go_enter Try.func42, Try.ntmps42
  go_wp2_with (refine wpl_app rfl (.tmp 20) (.tmp 21) 25 3 rfl rfl rfl Hr.out ?_)
  go_ret
  exact ⟨_, rfl, HO.out, HB.out⟩
end
/-- Some slices of bytes, one behind the other in a row. -/
structure Parts (w : World) (q : Nat) (P : List (Value × List Int)) : Prop where
  at' : ∀ i, i < P.length → w.cell? ⟨q, i, none⟩ = some (P.getD i (.slice none 0 0, [])).1
  rd : ∀ i, i < P.length → Oct.Bs w (P.getD i (.slice none 0 0, [])).1 (P.getD i (.slice none 0 0, [])).2
theorem Parts.below {w w' : World} {q : Nat} {P : List (Value × List Int)} (h : Parts w q P) (hb : Below w.heap.size w w') : Parts w' q P :=
  ⟨fun i hi => (hb.cell (World.block_lt_of_cell? _ _ (h.at' i hi))).trans (h.at' i hi), fun i hi => (h.rd i hi).below hb⟩
def flat (P : List (Value × List Int)) : List Int := (P.map (·.2)).flatten
theorem flat_snoc (P : List (Value × List Int)) (k : Nat) (hk : k < P.length) : flat (P.take (k + 1)) = flat (P.take k) ++ (P.getD k (.slice none 0 0, [])).2 := by
  unfold flat
  rw [List.take_succ_eq_append_getElem hk, List.map_append, List.flatten_append]
  congr 1
  simp [List.getD, hk]
theorem flat_le (P : List (Value × List Int)) (k : Nat) : (flat (P.take k)).length ≤ (flat P).length := by
  have : flat P = flat (P.take k) ++ flat (P.drop k) := by
    unfold flat
    rw [← List.flatten_append, ← List.map_append, List.take_append_drop]
  rw [this, List.length_append]
  omega
section
variable {w : World}
set_option maxHeartbeats 4000000 in
set_option maxRecDepth 100000 in
theorem concat_any (q n cap : Nat) (P : List (Value × List Int)) (hn : P.length = n) (h : Parts w q P) (h0 : 0 < (flat P).length) (hl : (flat P).length ≤ 100000) (hnb : n ≤ 100) :
    Calls Try.prog 27 #[.slice (some ⟨q, 0, none⟩) n cap] w fun e w' => ∃ v, e = .returned v ∧ OwnC w' w.heap.size v (flat P) ∧ Below w.heap.size w w' := by
  have H : Hid (Parts w q P) := ⟨h⟩
  have Hn : Hid (P.length = n) := ⟨hn⟩
  have Hall : Hid (flat (P.take n) = flat P) := ⟨by rw [← hn, List.take_length]⟩
  obtain ⟨T, HT⟩ : ∃ T, Hid ((flat P).length = T) := ⟨_, ⟨rfl⟩⟩
  rw [HT.out] at h0 hl
  have t1 := grow_any (w := w) T h0 (by omega)
  clear h hn
  go_enter Try.func27, Try.ntmps27
  go_wp2_with fail
  go_loopg [3, 11] n (fun gg s3 s11 wr => ∃ (k m : Nat), k ≤ n ∧ n - k ≤ gg ∧ m ≤ T ∧ s11 = .int .i64 (k : Int) ∧ s3 = .int .i64 (m : Int) ∧ Hid ((flat (P.take k)).length = m) ∧ w = wr)
  case atStart => exact ⟨0, 0, Nat.zero_le _, by omega, Nat.zero_le _, rfl, rfl, ⟨by simp [flat]⟩, rfl⟩
  case round =>
    obtain ⟨k, m, hk, hgg, hmT, rfl, rfl, Hm, rfl⟩ := hrel
    by_cases hlt : k < n
    · have hz : (k : Int) < (n : Int) := by omega
      have hkP : k < P.length := by rw [Hn.out]; exact hlt
      have hc := H.out.at' k hkP
      obtain ⟨a1, c1, e1, _⟩ := H.out.rd k hkP
      have Hs : Hid ((flat (P.take (k + 1))).length = m + (P.getD k (.slice none 0 0, [])).2.length) := ⟨by rw [flat_snoc P k hkP, List.length_append, Hm.out]⟩
      have Hle := flat_le P (k + 1)
      rw [e1] at hc
      generalize (P.getD k (.slice none 0 0, [])).2.length = L at hc Hs e1
      have hLT : m + L ≤ T := by rw [← HT.out, ← Hs.out]; exact Hle
      have hnn : ¬ ((m : Int) + (L : Int) < 0) := by omega
      clear Hle e1
      go_wp2_with fail
      go_roundg (n - (k + 1))
      case measure => omega
      case rel => exact ⟨k + 1, m + L, by omega, by omega, hLT, by go_num, by go_num, Hs, rfl⟩
    · obtain rfl : k = n := by omega
      have e : m = T := by rw [← Hm.out, Hall.out, HT.out]
      subst e
      clear Hm
      go_upto_region 10 with (go_at_call 42; refine t1.mono ?_; rintro e w1 ⟨v1, rfl, hO1, hB1⟩; have HO1 : Hid (OwnC w1 w.heap.size v1 []) := ⟨hO1⟩; have HB1 : Hid (Below w.heap.size w w1) := ⟨hB1⟩; clear hO1 hB1)
      go_wp2_with fail
      go_loopg [6, 27] k (fun gg s6 s27 wr => ∃ (j : Nat), j ≤ k ∧ k - j ≤ gg ∧ s27 = .int .i64 (j : Int) ∧ Hid (OwnC wr w.heap.size s6 (flat (P.take j))) ∧ Hid (Below w.heap.size w wr))
      case atStart => exact ⟨0, Nat.zero_le _, by omega, rfl, HO1, HB1⟩
      case round =>
        obtain ⟨j, hj, hgg2, rfl, HO, HB⟩ := hrel
        obtain ⟨a6, c6, e6, _⟩ := OwnY.shape HO.out
        subst e6
        by_cases hlt2 : j < k
        · have hz : (j : Int) < (k : Int) := by omega
          have hjP : j < P.length := by rw [Hn.out]; exact hlt2
          have hc := (H.out.below HB.out).at' j hjP
          have HR : Hid (Oct.Bs wr (P.getD j (.slice none 0 0, [])).1 (P.getD j (.slice none 0 0, [])).2) := ⟨(H.out.below HB.out).rd j hjP⟩
          obtain ⟨a1, c1, e1, _⟩ := HR.out
          have Hs : Hid (flat (P.take (j + 1)) = flat (P.take j) ++ (P.getD j (.slice none 0 0, [])).2) := ⟨flat_snoc P j hjP⟩
          have Hle : Hid ((flat (P.take (j + 1))).length ≤ m) := ⟨by rw [← HT.out]; exact flat_le P (j + 1)⟩
          rw [e1] at hc HR
          generalize (P.getD j (.slice none 0 0, [])).2 = bs at hc HR Hs e1
          obtain ⟨L, HL⟩ : ∃ L, Hid (bs.length = L) := ⟨_, ⟨rfl⟩⟩
          obtain ⟨M, HM⟩ : ∃ M, Hid ((flat (P.take j)).length = M) := ⟨_, ⟨rfl⟩⟩
          rw [HL.out] at hc HR
          rw [HM.out] at HO ⊢
          clear e1
          go_wp2_with (refine Oct.wp_appS Oct.Try.bt rfl (.tmp 31) (.tmp 32) rfl rfl HO.out rfl HR.out (by have h1 := Hle.out; rw [Hs.out, List.length_append] at h1; omega) HB.out.size ?_; intro v' w' hO hB; have HO2 : Hid (OwnC w' w.heap.size v' (flat (P.take j) ++ bs)) := ⟨hO⟩; have HB2 : Hid (Below w.heap.size w w') := ⟨HB.out.trans hB⟩; clear hO hB; obtain ⟨a7, c7, e7, _⟩ := OwnY.shape HO2.out; subst e7)
          go_roundg (k - (j + 1))
          case measure => omega
          case rel => exact ⟨j + 1, by omega, by omega, by go_num, ⟨by rw [Hs.out, ← List.length_append]; exact HO2.out⟩, HB2⟩
        · obtain rfl : j = k := by omega
          go_wp2_with fail
          go_ret
          exact ⟨_, rfl, by rw [← Hall.out]; exact HO.out, HB.out⟩
end
end Go.Proofs.Ythohpbppfihoiaa
