/- What notes name; files. -/
import Derived.Test.YthohpbppfihoiaaN1
import Derived.Test.YthohpbppfihoiaaOctN
import Derived.Test.YthohpbppfihoiaaBytes
namespace Go.Proofs.Ythohpbppfihoiaa
open Go.RowKit Oct

/-- What a note names: a file, a chunk, and lists. -/
abbrev Nm := Bool × Bool × Bool × Bool × Bool
def nmV (m : Nm) : Array Value := #[.bool m.1, .bool m.2.1, .bool m.2.2.1, .bool m.2.2.2.1, .bool m.2.2.2.2]
def nmd (s : Int) : Nm := (decide (3 ≤ s ∧ s ≤ 7), decide (s = 6 ∨ s = 7), decide (s = 2), decide (s = 4), decide (s = 7))
def isS (s : Int) : Bool := decide (1 ≤ s ∧ s ≤ 7)
/-- May a name and a generation be? -/
def flB (n : ByteArray) (g : Int) : Bool := nmB n && decide (1 ≤ g ∧ g ≤ 9007199254740991)
theorem run_boxW {P : Program} (w : World) (t : TypeId) (cs : Array Value) : (Instr.box t (.agg cs)).run P w = .ok (.pointer (some ⟨w.heap.size, 0, none⟩)) (w.alloc (.cells cs t)) := by
  simp [Instr.box, newVar, newRow, Value.cells]
theorem run_loadW {P : Program} (ty : TypeId) (w : World) (b : Nat) (cs : Array Value) (t : TypeId) (fr : Nat × Nat) (d : TypeDesc) (hb : w.heap[b]? = some (.cells cs t fr)) (hu : P.underlying ty = some d) (hd : (match d with | .struct _ | .array _ _ => true | _ => false) = true) (hi : (P.info? ty).map (·.size) = some cs.size) :
    (loadVar ty ⟨b, 0, none⟩).run P w = .ok (.agg cs) w := run_loadVar_row w b t ty cs fr d hb hu hd hi
section
variable {ops : Array Oper} {rest : List Oper} {o : Oper} {a : Act} {w : World} {Q : Exit → Act → World → Prop}
theorem wp_box {P : Program} (hgd : o.guard = none) (t : TypeId) (x : Operand) (ho : o.op = .box t x) (cs : Array Value) (hx : a.eval x = .agg cs)
    (h : wpList P ops Q rest (a.put o.dst (.pointer (some ⟨w.heap.size, 0, none⟩))) (w.alloc (.cells cs t))) : wpList P ops Q (o :: rest) a w := by
  refine wpList_plain hgd fun K hK => ?_
  unfold Oper.wp execOp
  simp only [ho, hx, run_boxW, Sem.run_bind, Sem.run_pure, Result.andThen_ok]
  exact hK _ _ h
theorem wp_load {P : Program} (hgd : o.guard = none) (ty : TypeId) (x : Operand) (ho : o.op = .load ty x) (b : Nat) (hx : a.eval x = .pointer (some ⟨b, 0, none⟩)) (cs : Array Value) (t : TypeId) (fr : Nat × Nat) (d : TypeDesc) (hb : w.heap[b]? = some (.cells cs t fr)) (hu : P.underlying ty = some d) (hd : (match d with | .struct _ | .array _ _ => true | _ => false) = true) (hi : (P.info? ty).map (·.size) = some cs.size)
    (h : wpList P ops Q rest (a.put o.dst (.agg cs)) w) : wpList P ops Q (o :: rest) a w := by
  refine wpList_plain hgd fun K hK => ?_
  unfold Oper.wp execOp
  simp only [ho, hx, Instr.loadAt, Instr.sureAddr, Sem.run_bind, Sem.run_pure, Result.andThen_ok, run_loadW ty w b cs t fr d hb hu hd hi]
  exact hK _ _ h
end
section
variable {ops : Array Oper} {rest : List Oper} {o : Oper} {a : Act} {w : World} {Q : Exit → Act → World → Prop}
theorem op_load {P : Program} {K : Act → World → Prop} (ty : TypeId) (x : Operand) (ho : o.op = .load ty x) (b : Nat) (hx : a.eval x = .pointer (some ⟨b, 0, none⟩)) {cs : Array Value} (hl : (loadVar ty ⟨b, 0, none⟩).run P w = .ok (.agg cs) w)
    (h : K (a.put o.dst (.agg cs)) w) : Oper.wp P o a w K Q := by
  unfold Oper.wp execOp
  simp only [ho, hx, Instr.loadAt, Instr.sureAddr, Sem.run_bind, Sem.run_pure, Result.andThen_ok, hl]
  exact h
end
theorem results_ct {P : Program} {fn : Func} {p u : Tmp} {ty : TypeId} (h : fn.results = #[.cell p ty, .tmp u]) (tmps : Array Value) (w : World) {a : Addr} {x : Value}
    (hp : tmps.getD p undef = .pointer (some a)) (hx : (loadVar ty a).run P w = .ok x w) : (results fn tmps).run P w = .ok (.tuple #[x, tmps.getD u undef]) w := by
  have hp' : tmps[p]?.getD undef = .pointer (some a) := by simpa using hp
  simp [results, h, hp', asAddr, hx]
theorem info40 : (Try.prog.info? 40).map (·.size) = some 5 := by kernel_rfl
theorem load40 {w : World} {b : Nat} {cs : Array Value} {fr : Nat × Nat} (h : w.heap[b]? = some (.cells cs 40 fr)) (hs : cs.size = 5) : (loadVar 40 ⟨b, 0, none⟩).run Try.prog w = .ok (.agg cs) w :=
  run_loadW 40 w b cs 40 fr _ h Try.underlying40 rfl (by rw [hs]; exact info40)
section
variable {w : World}
set_option maxHeartbeats 2000000 in
theorem named15 (s : Int) : Calls Try.prog 15 #[.int .i64 s] w fun e w' => e = .returned (.tuple #[.agg (nmV (if isS s then nmd s else (false, false, false, false, false))), .bool (isS s)]) ∧ Below w.heap.size w w' := by
  by_cases h1 : s = 1
  · subst h1
    rw [show isS 1 = true from rfl]
    go_enter Try.func15, Try.ntmps15
    go_wp2_with fail
    (try simp only [Exit.inBlock, Exit.then])
    refine bodyPost_ret (results_ct rfl _ _ rfl (load40 (heap_alloc_new w _) rfl)) rfl ?_
    exact ⟨rfl, (Below.refl _ w).alloc (Nat.le_refl _) _⟩
  by_cases h2 : s = 2
  · subst h2
    rw [show isS 2 = true from rfl]
    go_enter Try.func15, Try.ntmps15
    go_wp2_with fail
    (try simp only [Exit.inBlock, Exit.then])
    refine bodyPost_ret (results_ct rfl _ _ rfl (load40 (heap_alloc_new w _) rfl)) rfl ?_
    exact ⟨rfl, (Below.refl _ w).alloc (Nat.le_refl _) _⟩
  by_cases h3 : s = 3
  · subst h3
    rw [show isS 3 = true from rfl]
    go_enter Try.func15, Try.ntmps15
    go_wp2_with fail
    (try simp only [Exit.inBlock, Exit.then])
    refine bodyPost_ret (results_ct rfl _ _ rfl (load40 (heap_alloc_new w _) rfl)) rfl ?_
    exact ⟨rfl, (Below.refl _ w).alloc (Nat.le_refl _) _⟩
  by_cases h4 : s = 4
  · subst h4
    rw [show isS 4 = true from rfl]
    go_enter Try.func15, Try.ntmps15
    go_wp2_with fail
    (try simp only [Exit.inBlock, Exit.then])
    refine bodyPost_ret (results_ct rfl _ _ rfl (load40 (heap_alloc_new w _) rfl)) rfl ?_
    exact ⟨rfl, (Below.refl _ w).alloc (Nat.le_refl _) _⟩
  by_cases h5 : s = 5
  · subst h5
    rw [show isS 5 = true from rfl]
    go_enter Try.func15, Try.ntmps15
    go_wp2_with fail
    (try simp only [Exit.inBlock, Exit.then])
    refine bodyPost_ret (results_ct rfl _ _ rfl (load40 (heap_alloc_new w _) rfl)) rfl ?_
    exact ⟨rfl, (Below.refl _ w).alloc (Nat.le_refl _) _⟩
  by_cases h6 : s = 6
  · subst h6
    rw [show isS 6 = true from rfl]
    go_enter Try.func15, Try.ntmps15
    go_wp2_with fail
    (try simp only [Exit.inBlock, Exit.then])
    refine bodyPost_ret (results_ct rfl _ _ rfl (load40 (heap_alloc_new w _) rfl)) rfl ?_
    exact ⟨rfl, (Below.refl _ w).alloc (Nat.le_refl _) _⟩
  by_cases h7 : s = 7
  · subst h7
    rw [show isS 7 = true from rfl]
    go_enter Try.func15, Try.ntmps15
    go_wp2_with fail
    (try simp only [Exit.inBlock, Exit.then])
    refine bodyPost_ret (results_ct rfl _ _ rfl (load40 (heap_alloc_new w _) rfl)) rfl ?_
    exact ⟨rfl, (Below.refl _ w).alloc (Nat.le_refl _) _⟩
  have b1 : (s == 1) = false := by simpa using h1
  have b2 : (s == 2) = false := by simpa using h2
  have b3 : (s == 3) = false := by simpa using h3
  have b4 : (s == 4) = false := by simpa using h4
  have b5 : (s == 5) = false := by simpa using h5
  have b6 : (s == 6) = false := by simpa using h6
  have b7 : (s == 7) = false := by simpa using h7
  have hs : isS s = false := by unfold isS; exact decide_eq_false (by omega)
  rw [hs]
  go_enter Try.func15, Try.ntmps15
  go_wp2_with fail
  (try simp only [Exit.inBlock, Exit.then])
  refine bodyPost_ret (results_ct rfl _ _ rfl (load40 (heap_alloc_new w _) rfl)) rfl ?_
  exact ⟨rfl, (Below.refl _ w).alloc (Nat.le_refl _) _⟩
set_option maxHeartbeats 2000000 in
theorem file35 (n : ByteArray) (g : Int) : Calls Try.prog 35 #[.string n, .int .i64 g] w fun e w' => e = .returned (.bool (flB n g)) ∧ w = w' := by
  have t1 := name_any (w := w) n
  unfold flB
  cases hn : nmB n with
  | false =>
    rw [hn] at t1
    go_enter Try.func35, Try.ntmps35
    go_wp2_with fail
    refine t1.mono ?_
    rintro e w1 ⟨rfl, rfl⟩
    clear t1
    go_wp2_with fail
    go_ret
    exact ⟨rfl, rfl⟩
  | true =>
    rw [hn] at t1
    by_cases h : 1 ≤ g
    · go_enter Try.func35, Try.ntmps35
      go_wp2_with fail
      refine t1.mono ?_
      rintro e w1 ⟨rfl, rfl⟩
      clear t1
      go_wp2_with fail
      go_ret
      exact ⟨ret_bool (by simp [h]), rfl⟩
    · go_enter Try.func35, Try.ntmps35
      go_wp2_with fail
      refine t1.mono ?_
      rintro e w1 ⟨rfl, rfl⟩
      clear t1
      go_wp2_with fail
      go_ret
      exact ⟨ret_bool (by simp; omega), rfl⟩
set_option maxHeartbeats 2000000 in
theorem rfile20 (n : ByteArray) (g : Int) : Calls Try.prog 20 #[.string n, .int .i64 g] w fun e w' => e = .returned (.bool (flB n g)) ∧ w = w' := by
  have t1 := rname_any (w := w) n
  unfold flB
  cases hn : nmB n with
  | false =>
    rw [hn] at t1
    go_enter Try.func20, Try.ntmps20
    go_wp2_with fail
    refine t1.mono ?_
    rintro e w1 ⟨rfl, rfl⟩
    clear t1
    go_wp2_with fail
    go_ret
    exact ⟨rfl, rfl⟩
  | true =>
    rw [hn] at t1
    by_cases h : 1 ≤ g
    · go_enter Try.func20, Try.ntmps20
      go_wp2_with fail
      refine t1.mono ?_
      rintro e w1 ⟨rfl, rfl⟩
      clear t1
      go_wp2_with fail
      go_ret
      exact ⟨ret_bool (by simp [h]), rfl⟩
    · go_enter Try.func20, Try.ntmps20
      go_wp2_with fail
      refine t1.mono ?_
      rintro e w1 ⟨rfl, rfl⟩
      clear t1
      go_wp2_with fail
      go_ret
      exact ⟨ret_bool (by simp; omega), rfl⟩
theorem hasFile18 (s : Int) : Calls Try.prog 18 #[.int .i64 s] w fun e w' => e = .returned (.bool (decide (3 ≤ s ∧ s ≤ 7))) ∧ w = w' := by
  by_cases h : 3 ≤ s
  · go_enter Try.func18, Try.ntmps18
    go_wp2_with fail
    go_ret
    exact ⟨ret_bool (by simp [h]), rfl⟩
  · go_enter Try.func18, Try.ntmps18
    go_wp2_with fail
    go_ret
    exact ⟨ret_bool (by simp; omega), rfl⟩
theorem hasI19 (s : Int) : Calls Try.prog 19 #[.int .i64 s] w fun e w' => e = .returned (.bool (decide (s = 6 ∨ s = 7))) ∧ w = w' := by
  by_cases h : s = 6
  · subst h
    go_enter Try.func19, Try.ntmps19
    go_wp2_with fail
    go_ret
    exact ⟨rfl, rfl⟩
  · have hb : (s == 6) = false := by simpa using h
    go_enter Try.func19, Try.ntmps19
    go_wp2_with fail
    go_ret
    exact ⟨ret_bool (by rw [Bool.eq_iff_iff]; simp; omega), rfl⟩
end
end Go.Proofs.Ythohpbppfihoiaa
