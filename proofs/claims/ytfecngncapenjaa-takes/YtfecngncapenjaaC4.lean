/- Arrays of ints made, stored, answered; countsOf. -/
import Derived.Test.YtfecngncapenjaaC3
namespace Go.Proofs.Ytfecngncapenjaa
open Go.RowKit Oct

/-- 256 zeros. -/
@[irreducible] def z0 : List Int := List.replicate 256 0
theorem z0_len : z0.length = 256 := by unfold z0; exact List.length_replicate
theorem z0_get (i : Nat) : z0.getD i 0 = 0 := by
  unfold z0
  rw [List.getD_eq_getElem?_getD, List.getElem?_replicate]
  split <;> rfl
theorem zero22 : (Try.prog.info? 22).bind (·.zero) = some (.agg (ia z0)) := by kernel_rfl
theorem built22 : Try.prog.built 22 [] = some (ia z0) := by kernel_rfl
theorem run_new22 (w : World) : (Instr.alloc 22 true (.tuple #[])).run Try.prog w = .ok (.pointer (some ⟨w.heap.size, 0, none⟩)) (w.alloc (.cells (ia z0) 22)) := by
  have h := zero22
  cases hi : Try.prog.info? 22 with
  | none => rw [hi] at h; simp at h
  | some it =>
    rw [hi] at h
    simp only [Option.bind_some] at h
    simp [Instr.alloc, zeroValue, typeInfo, hi, h, newVar, newRow, Value.cells]
theorem ia_set (f : List Int) (i : Nat) (v : Int) (_hi : i < f.length) : (ia f).set! i (.int .i64 v) = ia (f.set i v) := by
  unfold ia iv
  rw [List.map_set]
  simp
theorem ia_one (f : List Int) : (ia f).all (·.oneCell') = true := by
  unfold ia iv
  simp [Value.oneCell']
theorem ia_inj {f g : List Int} (h : ia f = ia g) : f = g := by
  unfold ia iv at h
  have := congrArg Array.toList h
  simp only at this
  exact (List.map_inj_right (fun a b e => by simpa using e)).1 this
theorem results_c {P : Program} {fn : Func} {p : Tmp} {ty : TypeId} (h : fn.results = #[.cell p ty]) (tmps : Array Value) (w : World) {a : Addr} {x : Value}
    (hp : tmps.getD p undef = .pointer (some a)) (hx : (loadVar ty a).run P w = .ok x w) : (results fn tmps).run P w = .ok x w := by
  have hp' : tmps[p]?.getD undef = .pointer (some a) := by simpa using hp
  simp [results, h, hp', asAddr, hx]
theorem results_ct {P : Program} {fn : Func} {p u : Tmp} {ty : TypeId} (h : fn.results = #[.cell p ty, .tmp u]) (tmps : Array Value) (w : World) {a : Addr} {x : Value}
    (hp : tmps.getD p undef = .pointer (some a)) (hx : (loadVar ty a).run P w = .ok x w) : (results fn tmps).run P w = .ok (.tuple #[x, tmps.getD u undef]) w := by
  have hp' : tmps[p]?.getD undef = .pointer (some a) := by simpa using hp
  simp [results, h, hp', asAddr, hx]
theorem results_ctt {P : Program} {fn : Func} {p u u' : Tmp} {ty : TypeId} (h : fn.results = #[.cell p ty, .tmp u, .tmp u']) (tmps : Array Value) (w : World) {a : Addr} {x : Value}
    (hp : tmps.getD p undef = .pointer (some a)) (hx : (loadVar ty a).run P w = .ok x w) : (results fn tmps).run P w = .ok (.tuple #[x, tmps.getD u undef, tmps.getD u' undef]) w := by
  have hp' : tmps[p]?.getD undef = .pointer (some a) := by simpa using hp
  simp [results, h, hp', asAddr, hx]
theorem info22f {f : List Int} (hf : f.length = 256) : (Try.prog.info? 22).map (·.size) = some (ia f).size := by rw [ia_size, hf]; exact info22
theorem load22 {w : World} {b : Nat} {f : List Int} {fr : Nat × Nat} (hf : f.length = 256) (h : w.heap[b]? = some (.cells (ia f) 22 fr)) : (loadVar 22 ⟨b, 0, none⟩).run Try.prog w = .ok (.agg (ia f)) w :=
  run_loadA 22 w b (ia f) 22 fr _ h Try.underlying22 rfl (info22f hf)
section
variable {ops : Array Oper} {rest : List Oper} {o : Oper} {a : Act} {w : World} {Q : Exit → Act → World → Prop}
theorem wp_new22 (hgd : o.guard = none) (ho : o.op = .alloc 22)
    (h : wpList Try.prog ops Q rest (a.put o.dst (.pointer (some ⟨w.heap.size, 0, none⟩))) (w.alloc (.cells (ia z0) 22))) : wpList Try.prog ops Q (o :: rest) a w := by
  refine wpList_plain hgd fun K hK => ?_
  unfold Oper.wp execOp
  simp only [ho, run_new22, Sem.run_bind, Sem.run_pure, Result.andThen_ok]
  exact hK _ _ h
theorem wp_zero22 (hgd : o.guard = none) (ho : o.op = .build 22 #[])
    (h : wpList Try.prog ops Q rest (a.put o.dst (.agg (ia z0))) w) : wpList Try.prog ops Q (o :: rest) a w := by
  have e : ((#[] : Array (Nat × Operand)).map fun (i, x) => (i, a.eval x)).toList = [] := by simp
  refine wpList_build hgd 22 #[] ho (by rw [e, built22]; rfl) ?_
  rw [e, built22]
  exact h
theorem wp_put22 {f g : List Int} {b : Nat} (hgd : o.guard = none) (x y : Operand) (ho : o.op = .store 22 x y) (hx : a.eval x = .pointer (some ⟨b, 0, none⟩)) (hy : a.eval y = .agg (ia g)) (hf : f.length = 256) (hgl : g.length = 256) (hb : w.heap[b]? = some (.cells (ia f) 22 (0, 0)))
    (h : wpList Try.prog ops Q rest (a.put o.dst undef) (w.setRow b (ia g))) : wpList Try.prog ops Q (o :: rest) a w :=
  wpList_store_row hgd 22 x y ho b (ia g) hx hy 22 (ia f) hb (info22f hgl) (by rw [ia_size, ia_size, hf, hgl]) (ia_one g) h
end
theorem below_setRow {B : Nat} {w w' : World} (h : Below B w w') {g : Nat} (hg : B ≤ g) (cs : Array Value) : Below B w (w'.setRow g cs) :=
  ⟨h.os, h.tape, h.output, by rw [setRow_size]; exact h.size, fun k hk => (setRow_other w' g k cs (by omega)).trans (h.block k hk)⟩
/-- How often each byte is there. -/
def cnt (p : List Int) : List Int := p.foldl (fun f c => f.set c.toNat (f.getD c.toNat 0 + 1)) z0
theorem cnt_snoc (p : List Int) (c : Int) : cnt (p ++ [c]) = (cnt p).set c.toNat ((cnt p).getD c.toNat 0 + 1) := by unfold cnt; rw [List.foldl_append]; rfl
theorem fold_len : ∀ (p f : List Int), (p.foldl (fun f c => f.set c.toNat (f.getD c.toNat 0 + 1)) f).length = f.length
  | [], _ => rfl
  | c :: p, f => by rw [List.foldl_cons, fold_len p, List.length_set]
theorem cnt_len (p : List Int) : (cnt p).length = 256 := by unfold cnt; rw [fold_len, z0_len]
theorem set_getD (f : List Int) (k i : Nat) (v : Int) (hk : k < f.length) : (f.set k v).getD i 0 = if i = k then v else f.getD i 0 := by
  simp only [List.getD_eq_getElem?_getD, List.getElem?_set]
  by_cases h : k = i
  · subst h; simp [hk]
  · rw [if_neg h, if_neg (fun e => h e.symm)]
theorem fold_get : ∀ (p f : List Int), f.length = 256 → By p → ∀ i, (p.foldl (fun f c => f.set c.toNat (f.getD c.toNat 0 + 1)) f).getD i 0 = f.getD i 0 + (p.countP (fun c => c.toNat = i) : Nat)
  | [], f, _, _, i => by simp
  | c :: p, f, hf, hb, i => by
    have hc := hb c (by simp)
    rw [List.foldl_cons, fold_get p _ (by rw [List.length_set]; exact hf) (fun x hx => hb x (by simp [hx])) i, set_getD f _ _ _ (by rw [hf]; omega), List.countP_cons]
    by_cases h : i = c.toNat
    · subst h; simp; omega
    · have h' : ¬ c.toNat = i := fun e => h e.symm
      simp [h, h']
theorem cnt_get (p : List Int) (hb : By p) (i : Nat) : (cnt p).getD i 0 = (p.countP (fun c => c.toNat = i) : Nat) := by unfold cnt; rw [fold_get p z0 z0_len hb, z0_get]; omega
theorem cnt_le (p : List Int) (hb : By p) (i : Nat) : 0 ≤ (cnt p).getD i 0 ∧ (cnt p).getD i 0 ≤ p.length := by
  rw [cnt_get p hb]
  have : p.countP (fun c => c.toNat = i) ≤ p.length := List.countP_le_length
  omega
section
variable {w : World}
set_option maxHeartbeats 2000000 in
set_option maxRecDepth 100000 in
theorem counts31 (v : Value) (p : List Int) (hv : RdY w v p) (hb : By p) : Calls Try.prog 31 #[v] w fun e w' => e = .returned (.agg (ia (cnt p))) ∧ Below w.heap.size w w' := by
  obtain ⟨a, cap, rfl, hcap⟩ := hv.shape
  obtain ⟨q, Hq⟩ : ∃ q, Hid (w.heap.size = q) := ⟨_, ⟨rfl⟩⟩
  obtain ⟨w1, Hw1⟩ : ∃ x, Hid (w.alloc (.cells (ia z0) 22) = x) := ⟨_, ⟨rfl⟩⟩
  have HB1 : Hid (Below w.heap.size w w1) := ⟨by rw [← Hw1.out]; exact (Below.refl _ w).alloc (Nat.le_refl _) _⟩
  have HX1 : Hid (w1.heap[q]? = some (.cells (ia z0) 22 (0, 0))) := ⟨by rw [← Hw1.out, ← Hq.out]; exact heap_alloc_new w _⟩
  have HS1 : Hid (w1.heap.size = q + 1) := ⟨by rw [← Hw1.out, ← Hq.out]; exact Array.size_push _⟩
  obtain ⟨w2, Hw2⟩ : ∃ x, Hid (w1.alloc (.cells (ia z0) 22) = x) := ⟨_, ⟨rfl⟩⟩
  have HB2 : Hid (Below w.heap.size w w2) := ⟨by rw [← Hw2.out]; exact HB1.out.alloc HB1.out.size _⟩
  have HX2 : Hid (w2.heap[q]? = some (.cells (ia z0) 22 (0, 0))) := ⟨by rw [← Hw2.out]; rw [heap_alloc_old (h := by rw [HS1.out]; omega)]; exact HX1.out⟩
  have HY2 : Hid (w2.heap[q + 1]? = some (.cells (ia z0) 22 (0, 0))) := ⟨by rw [← Hw2.out, ← HS1.out]; exact heap_alloc_new w1 _⟩
  have HV2 : Hid (RdY w2 (.slice a p.length cap) p) := ⟨hv.far (Chg.ofBelow (X := []) HB2.out) (by simp)⟩
  go_enter Try.func31, Try.ntmps31
  go_upto_region 3 with (refine wp_new22 rfl rfl ?_; (try rw [Hw1.out]); (try rw [Hw2.out]))
  rw [HS1.out, Hq.out]
  have hpl : (p.length : Int) ≤ 9223372036854775807 := by unfold maxLen at hcap; omega
  have HVd := Hid.mk hv
  clear hv
  go_loopg [8, 5] p.length (fun gg s8 _s5 wr => ∃ k : Nat, k ≤ p.length ∧ p.length - k ≤ gg ∧ s8 = .int .i64 (k : Int) ∧ Hid (Below w.heap.size w wr) ∧ Hid (wr.heap[q]? = some (.cells (ia z0) 22 (0, 0))) ∧ Hid (wr.heap[q + 1]? = some (.cells (ia (cnt (p.take k))) 22 (0, 0))))
  case atStart => exact ⟨0, Nat.zero_le _, by omega, rfl, HB2, HX2, HY2⟩
  case round =>
    obtain ⟨k, hk, hgg, rfl, HBr, HXr, HYr⟩ := hrel
    rename World => wo
    by_cases hlt : k < p.length
    · have hltz : (k : Int) < (p.length : Int) := by omega
      obtain ⟨g, off, cap', e, hcp, hat⟩ := RdY.at (Rd.far HVd.out (Chg.ofBelow (X := []) HBr.out) (by simp)) (i := k) hlt
      simp only [Value.slice.injEq] at e
      obtain ⟨rfl, -, rfl⟩ := e
      have d1 := hat k hlt
      have hg := hb.get k
      obtain ⟨m, Hm⟩ : ∃ m : Nat, Hid (p.getD k 0 = (m : Int)) := ⟨(p.getD k 0).toNat, ⟨by omega⟩⟩
      rw [Hm.out] at d1 hg
      have hm : m < 256 := by omega
      have hmz : (m : Int) < 256 := by omega
      obtain ⟨f, Hf⟩ : ∃ f, Hid (cnt (p.take k) = f) := ⟨_, ⟨rfl⟩⟩
      rw [Hf.out] at HYr
      have hfl : f.length = 256 := by rw [← Hf.out]; exact cnt_len _
      have hle := cnt_le (p.take k) (fun x hx => hb x (List.mem_of_mem_take hx)) m
      rw [Hf.out] at hle
      have hle2 : f.getD m 0 ≤ 9223372036854775806 := by have := List.length_take_le k p; have := List.length_take (i := k) (l := p); omega
      have d2 : wo.cell? ⟨q + 1, m, none⟩ = some (.int .i64 (f.getD m 0)) := by rw [cell_of_row _ _ _ _ _ _ HYr.out]; exact ia_get (by omega)
      have d3 : wo.frozen? ⟨q + 1, m, none⟩ = false := frozen_of_row _ _ _ _ _ HYr.out
      have HN : Hid (cnt (p.take (k + 1)) = f.set m (f.getD m 0 + 1)) := ⟨by
        rw [List.take_add_one, List.getElem?_eq_getElem hlt]
        have : p[k] = (m : Int) := by rw [← Hm.out]; simp [List.getD, List.getElem?_eq_getElem hlt]
        simp only [Option.toList_some]
        rw [this, cnt_snoc, Hf.out, Int.toNat_natCast]⟩
      have HZ := Hid.mk hfl
      generalize f.getD m 0 = y at d2 hle hle2 HN
      have hy1 : IntKind.i64.wrap (y + 1) = y + 1 := IntWalk.i64_in _ ⟨by omega, by omega⟩
      clear hat hcp hle hfl
      go_wp2_with fail
      have hset : ((ia f).setIfInBounds m (.int .i64 (y + 1))) = ia (f.set m (y + 1)) := ia_set f m (y + 1) (by rw [HZ.out]; exact hm)
      go_roundg (p.length - (k + 1))
      case measure => omega
      case rel =>
        refine ⟨k + 1, by omega, by omega, by go_num, ⟨?_⟩, ⟨?_⟩, ⟨?_⟩⟩
        · exact HBr.out.setCell (p := ⟨q + 1, m, none⟩) (by rw [Hq.out]; exact Nat.le_succ q) _
        · rw [heap_setCell_other _ _ _ _ (by simp)]; exact HXr.out
        · rw [heap_setCell_same _ _ _ _ _ _ HYr.out, HN.out, hset]
    · obtain rfl : k = p.length := by omega
      rw [List.take_of_length_le (Nat.le_refl _)] at HYr
      go_wp2_with (first | (refine wp_load rfl 22 (.tmp 3) rfl (q + 1) rfl (ia (cnt p)) 22 (0, 0) _ HYr.out Try.underlying22 rfl (info22f (cnt_len p)) ?_) | (refine wp_put22 (f := z0) (g := cnt p) rfl (.tmp 2) (.tmp 18) rfl rfl rfl z0_len (cnt_len p) HXr.out ?_))
      (try simp only [Exit.inBlock, Exit.then])
      refine bodyPost_ret (results_c rfl _ _ rfl (load22 (cnt_len p) (setRow_heap wo q (ia z0) _ 22 (0, 0) HXr.out))) rfl ?_
      exact ⟨rfl, below_setRow HBr.out (by rw [Hq.out]; exact Nat.le_refl q) _⟩
end
end Go.Proofs.Ytfecngncapenjaa
