/- Contracts of Hash.Write at any slice, New, Fork, Len. -/
import Derived.Test.YthfikoghbnicoabDoorD6
namespace Go.Proofs.YthfikoghbnicoabDoor
open Go.RowKit
attribute [local go_sem ↓] Go.wp_at_zero Go.wp_at_succ

/-- An operation that yields v. -/
theorem wpList_val {P : Program} {ops : Array Oper} {rest : List Oper} {op : Oper} {a : Act} {w w' : World} {v : Value} {Q : Exit → Act → World → Prop} (hgd : op.guard = none) (hr : (execOp a.eval op).run P w = .ok (.value v) w')
    (h : wpList P ops Q rest (a.put op.dst v) w') : wpList P ops Q (op :: rest) a w :=
  wpList_plain hgd fun _ hK => by unfold Oper.wp; rw [hr]; exact hK _ _ h
theorem va_one (s b : Nat → Int) (n : Int) : (va 73 (HC s b n)).all (·.oneCell') = true := by
  unfold va
  exact all_oneCell_toArray (fun v hv => by simp at hv; obtain ⟨a, _, rfl⟩ := hv; unfold HC; split <;> (try split) <;> rfl)
theorem info52 : (Tryd.prog.info? 52).map (·.size) = some 73 := by kernel_rfl

theorem write_none (g : Nat) (a : Option Addr) (cap : Nat) (w : World) :
    Calls Tryd.prog 13 #[.pointer (some ⟨g, 0, none⟩), .slice a 0 cap] w fun e w' => e = .returned (.int .i64 0) ∧ w = w' := by
  go_enter Tryd.func13, Tryd.ntmps13
  go_wp2
  go_loopw [11] (fun i wr => i = .int .i64 0 ∧ w = wr) (fun _ _ => 0)
  case atStart => exact ⟨rfl, rfl⟩
  case round =>
    obtain ⟨rfl, rfl⟩ := hrel
    go_wp2
    go_ret
    exact ⟨rfl, rfl⟩

theorem write_nil (v : Value) (w : World) :
    Calls Tryd.prog 13 #[.pointer none, v] w fun e w' => e = .returned (.int .i64 1) ∧ w = w' := by
  go_enter Tryd.func13, Tryd.ntmps13
  go_wp2
  go_ret
  exact ⟨rfl, rfl⟩

/-- The slice does not lie in block g. -/
def OffB (v : Value) (g : Nat) : Prop := ∀ b off L cap, 0 < L → v = .slice (some ⟨b, off, none⟩) L cap → b ≠ g

theorem write_any (g : Nat) (q0 : HSt) (K : Nat → Int) (p : List Int) (v : Value) (w : World) (hv : Bs w v p) (hg : Hat w g q0.s q0.b q0.n) (hne : OffB v g) (hg2 : g ≠ 2) (hK : KeysAt w K)
    (hby : ∀ x ∈ p, 0 ≤ x ∧ x < 256) (hqb : ∀ j, 0 ≤ q0.b j ∧ q0.b j < 256) (hn : q0.n + p.length ≤ 281474976710656) :
    Calls Tryd.prog 13 #[.pointer (some ⟨g, 0, none⟩), v] w fun e w' => e = .returned (.int .i64 0) ∧ (∃ q, q = p.foldl (wstep K) q0 ∧ Hat w' g q.s q.b q.n ∧ (∀ j, 0 ≤ q.b j ∧ q.b j < 256)) ∧ w.grownBy w' (some g) := by
  rcases hv.cases with ⟨rfl, a, cap, rfl, hm, _⟩ | ⟨hb, b, off, cap, rfl, hl, hm, hbl, hc⟩
  · refine (write_none g a cap w).mono ?_
    rintro e w' ⟨rfl, rfl⟩
    exact ⟨rfl, ⟨q0, rfl, hg, hqb⟩, grown_of_below (Below.refl _ _)⟩
  · exact write_core g b off cap q0 K p p.length w rfl hl hm hg (hne _ _ _ _ (List.length_pos_iff.2 hb) rfl) hg2 hK hc hby hqb hn

theorem len_any (g : Nat) (s b : Nat → Int) (n : Int) (w : World) (h : Hat w g s b n) : Calls Tryd.prog 15 #[.pointer (some ⟨g, 0, none⟩)] w fun e w' => e = .returned (.int .i64 n) ∧ w = w' := by
  have hc := h.cellN
  clear h
  go_enter Tryd.func15, Tryd.ntmps15
  go_wp2
  go_ret
  exact ⟨rfl, rfl⟩

theorem len_nil (w : World) : Calls Tryd.prog 15 #[.pointer none] w fun e w' => e = .returned (.int .i64 0) ∧ w = w' := by
  go_enter Tryd.func15, Tryd.ntmps15
  go_wp2
  go_ret
  exact ⟨rfl, rfl⟩

theorem fork_nil (w : World) : Calls Tryd.prog 19 #[.pointer none] w fun e w' => e = .returned (.pointer none) ∧ w = w' := by
  go_enter Tryd.func19, Tryd.ntmps19
  go_wp2
  go_ret
  exact ⟨rfl, rfl⟩

/-- The first state lies in the first variable. -/
def StartAt (w : World) (S : Nat → Int) : Prop := ∀ k, k < 8 → w.cell? ⟨0, k, none⟩ = some (.int .u32 (S k))
theorem StartAt.below {w w' : World} {S : Nat → Int} (h : StartAt w S) (hb : Below w.heap.size w w') : StartAt w' S := fun k hk => (hb.cell (World.block_lt_of_cell? _ _ (h k hk))).trans (h k hk)
theorem StartAt.grown {w w' : World} {S : Nat → Int} {g : Nat} (h : StartAt w S) (hb : w.grownBy w' (some g)) (hg : g ≠ 0) : StartAt w' S := fun k hk => hb.cell (h k hk) (by simp; exact Ne.symm hg)
theorem StartAt.range {w : World} {S : Nat → Int} (h : StartAt w S) : w.rangeAt 0 0 (arr .u32 8 S).toList := by
  intro j v hv
  have hj : j < 8 := by
    rcases Nat.lt_or_ge j 8 with q | q
    · exact q
    · simp [arr, q] at hv
  rw [Nat.zero_add, h j hj]
  simp [arr, hj] at hv
  rw [hv]

set_option maxRecDepth 100000 in
theorem build52 (S : Nat → Int) (w : World) (u0 u2 u3 : Value) : (execOp (Act.eval { tmps := #[u0, Value.agg (arr IntKind.u32 8 S), u2, u3], defers := [] }) { dst := some 2, op := Op.build 52 #[(0, Operand.tmp 1)], type := 52, pos := "digest.go:43", after := #[{ on := 0, ground := Ground.data }], guard := none }).run Tryd.prog w = .ok (.value (.agg (va 73 (HC S (fun _ => 0) 0)))) w := by kernel_rfl
set_option maxHeartbeats 1000000 in
set_option maxRecDepth 100000 in
theorem new_any (S : Nat → Int) (w : World) (h : StartAt w S) : Calls Tryd.prog 12 #[] w fun e w' => e = .returned (.pointer (some ⟨w.heap.size, 0, none⟩)) ∧ Hat w' w.heap.size S (fun _ => 0) 0 ∧ Below w.heap.size w w' := by
  go_enter Tryd.func12, Tryd.ntmps12
  go_wp2_with (first
    | (refine wpList_load_mid rfl 49 (.global 0) rfl 0 0 (by kernel_rfl) (arr .u32 8 S).toList _ h.range Tryd.underlying49 rfl (by rw [Array.length_toList, arr_size]; exact info49) ?_)
    | (refine wpList_val (op := { dst := some 2, op := Op.build 52 #[(0, Operand.tmp 1)], type := 52, pos := "digest.go:43", after := #[{ on := 0, ground := Ground.data }], guard := none }) (v := .agg (va 73 (HC S (fun _ => 0) 0))) rfl (build52 _ _ _ _ _) ?_))
  refine bodyPost_ret (v := .pointer (some ⟨w.heap.size, 0, none⟩)) (by kernel_rfl) rfl ⟨rfl, ?_, ?_⟩
  · exact heap_alloc_new w _
  · exact (Below.refl _ w).alloc (Nat.le_refl _) _

set_option maxHeartbeats 1000000 in
set_option maxRecDepth 100000 in
theorem fork_any (g : Nat) (s b : Nat → Int) (n : Int) (w : World) (h : Hat w g s b n) : Calls Tryd.prog 19 #[.pointer (some ⟨g, 0, none⟩)] w fun e w' => e = .returned (.pointer (some ⟨w.heap.size, 0, none⟩)) ∧ Hat w' w.heap.size s b n ∧ Below w.heap.size w w' := by
  go_enter Tryd.func19, Tryd.ntmps19
  go_wp2_with (first
    | (refine wpList_load_row rfl 52 (.tmp 7) rfl g rfl 52 (va 73 (HC s b n)) (0, 0) _ h Tryd.underlying52 rfl (by rw [va_size]; kernel_rfl) ?_)
    | (refine wpList_val (op := { dst := some 3, op := Op.alloc 52, type := 0, pos := "digest.go:88", after := #[], guard := none }) (v := .pointer (some ⟨w.heap.size, 0, none⟩)) (w' := w.alloc (.cells (va 73 (HC (fun _ => 0) (fun _ => 0) 0)) 52)) rfl (by kernel_rfl) ?_)
    | (refine wpList_store_row rfl 52 (.tmp 3) (.tmp 8) rfl w.heap.size (va 73 (HC s b n)) rfl rfl 52 (va 73 (HC (fun _ => 0) (fun _ => 0) 0)) (heap_alloc_new w _) (by rw [va_size]; exact info52) (by rw [va_size, va_size]) (va_one _ _ _) ?_))
  refine bodyPost_ret (v := .pointer (some ⟨w.heap.size, 0, none⟩)) (by kernel_rfl) rfl ⟨rfl, ?_, ?_⟩
  · exact setRow_heap (w.alloc _) w.heap.size _ (va 73 (HC s b n)) 52 (0, 0) (heap_alloc_new w _)
  · exact below_setRow' ((Below.refl _ w).alloc (Nat.le_refl _) _) (Nat.le_refl _) _
end Go.Proofs.YthfikoghbnicoabDoor
