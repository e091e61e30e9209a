/- The document's trees in the heap: made, joined. -/
import Derived.Test.YtfecngncapenjaaL3
import Derived.Test.YtfecngncapenjaaV5
import Derived.Test.YtfecngncapenjaaH16
namespace Go.Proofs.Ytfecngncapenjaa
open Go.RowKit Oct

theorem r0_n0 : r0 = (0, n0) := by unfold r0 n0; rfl
theorem built54 (n : Int) : Try.prog.built 54 [(0, .int .i64 n)] = some (ra (n, n0)) := by kernel_rfl
theorem ra_set (n : Int) (l : List Bool) (i : Nat) (b : Bool) : (ra (n, l)).set! (1 + i) (.bool b) = ra (n, l.set i b) := by
  unfold ra fe
  rw [List.map_set, Nat.add_comm 1 i]
  simp
section
variable {ops : Array Oper} {rest : List Oper} {o : Oper} {a : Act} {w : World} {Q : Exit → Act → World → Prop}
theorem wp_mk54 {n : Int} (hgd : o.guard = none) (x : Operand) (ho : o.op = .build 54 #[(0, x)]) (hx : a.eval x = .int .i64 n)
    (h : wpList Try.prog ops Q rest (a.put o.dst (.agg (ra (n, n0)))) w) : wpList Try.prog ops Q (o :: rest) a w := by
  have e : ((#[(0, x)] : Array (Nat × Operand)).map fun (i, x) => (i, a.eval x)).toList = [(0, .int .i64 n)] := by simp [hx]
  refine wpList_build hgd 54 #[(0, x)] ho (by rw [e, built54]; rfl) ?_
  rw [e, built54]
  exact h
theorem wp_put54 {s t : RT} {b : Nat} (hgd : o.guard = none) (x y : Operand) (ho : o.op = .store 54 x y) (hx : a.eval x = .pointer (some ⟨b, 0, none⟩)) (hy : a.eval y = .agg (ra t)) (hs : s.2.length = 256) (ht : t.2.length = 256) (hb : w.heap[b]? = some (.cells (ra s) 54 (0, 0)))
    (h : wpList Try.prog ops Q rest (a.put o.dst undef) (w.setRow b (ra t))) : wpList Try.prog ops Q (o :: rest) a w :=
  wpList_store_row hgd 54 x y ho b (ra t) hx hy 54 (ra s) hb (info54f ht) (by rw [ra_size ht, ra_size hs]) (ra_one t) h
end
theorem al54 (w : World) (t : RT) : ∃ w', Hid ((w.alloc (.cells (ra r0) 54)).setRow w.heap.size (ra t) = w') ∧ Hid (w'.heap[w.heap.size]? = some (.cells (ra t) 54 (0, 0))) ∧ Hid (Below w.heap.size w w') ∧ Hid (w'.heap.size = w.heap.size + 1) :=
  ⟨_, ⟨rfl⟩, ⟨setRow_heap _ _ (ra r0) _ 54 (0, 0) (heap_alloc_new w _)⟩, ⟨below_setRow ((Below.refl _ w).alloc (Nat.le_refl _) _) (Nat.le_refl _) _⟩, ⟨by rw [setRow_size]; exact Array.size_push _⟩⟩
/-- Two trees joined as far as a byte. -/
def joinK (x y : RT) (k : Nat) : RT := (x.1 + y.1, (List.range 256).map fun i => decide (i < k) && (x.2.getD i false || y.2.getD i false))
theorem joinK_len (x y : RT) (k : Nat) : (joinK x y k).2.length = 256 := by simp [joinK]
theorem joinK_zero (x y : RT) : joinK x y 0 = (x.1 + y.1, n0) := by
  refine Prod.ext rfl ?_
  refine List.ext_getElem (by rw [joinK_len, n0_len]) (fun i h1 h2 => ?_)
  have e := n0_get i
  rw [List.getD_eq_getElem?_getD, List.getElem?_eq_getElem h2, Option.getD_some] at e
  rw [e]
  simp [joinK]
theorem joinK_all (x y : RT) : joinK x y 256 = joinR x y := by
  unfold joinK joinR
  refine Prod.ext rfl ?_
  simp only
  refine List.map_congr_left (fun i hi => ?_)
  rw [decide_eq_true (List.mem_range.1 hi), Bool.true_and]
theorem joinK_set (x y : RT) {k : Nat} (_hk : k < 256) : ((joinK x y k).1, (joinK x y k).2.set k (x.2.getD k false || y.2.getD k false)) = joinK x y (k + 1) := by
  unfold joinK
  refine Prod.ext rfl ?_
  simp only
  refine List.ext_getElem (by simp) (fun i h1 h2 => ?_)
  simp only [List.length_set, List.length_map, List.length_range] at h1
  rw [List.getElem_set]
  by_cases e : k = i
  · subst e; simp
  · rw [if_neg e]
    simp only [List.getElem_map, List.getElem_range]
    congr 1
    exact decide_eq_decide.2 (by omega)
theorem oneR_set (n : Int) (k : Nat) : (n, n0.set k true) = oneR n k := rfl
theorem sC_mem : ∀ {F : List AT}, (∀ t ∈ F, OneA t) → ∀ t ∈ F, t.1 ≤ sC F
  | [], _, t, h => by cases h
  | a :: r, h, t, ht => by
    have h1 := (h a (by simp)).pos
    have h2 := sC_pos (F := r) (fun s hs => h s (by simp [hs]))
    rw [sC]
    rcases List.mem_cons.1 ht with rfl | ht
    · omega
    · have := sC_mem (F := r) (fun s hs => h s (by simp [hs])) t ht
      omega
theorem StR.small {f : List Int} {L : List RT} {g : List Int} (h0 : FineA (T0 f 256)) (h : StR f L g) {i : Nat} (hi : i < L.length) : 1 ≤ (L.getD i r0).1 ∧ (L.getD i r0).1 ≤ 2097152 := by
  obtain ⟨_, F, hA, hR⟩ := h
  have hF := hR.fine h0
  have hm := getD_mem'' a0 (F := F) (j := i) (by rw [← hA.len]; exact hi)
  have h1 := (hF.each _ hm).pos
  have h2 := sC_mem hF.each _ hm
  have h3 := hF.sumC
  rw [(hA.get hi).cnt]
  omega
theorem own_parts {w : World} {base : Nat} {v : Value} {L : List RT} (h : OwnE fe 257 54 w base v L) (h0 : 0 < L.length) : ∃ g c, v = .slice (some ⟨g, 0, none⟩) L.length c ∧ L.length ≤ c ∧ c ≤ maxLen := by
  obtain ⟨a, c, e, h1, h2, _⟩ := (h.rd r0).shape
  rcases h.own.2 with ⟨rfl, hn⟩ | ⟨g, cap, cur, rfl, _⟩
  · omega
  · obtain ⟨_, _, e3⟩ := Value.slice.inj e
    subst e3
    exact ⟨g, cap, rfl, h1, h2⟩
theorem TR_one {f : List Int} (h0 : FineA (T0 f 256)) {s : RT} (h : TR f 256 = [s]) : fst s < 256 ∧ s.2.length = 256 := by
  have hA := TR_al f 256 (Nat.le_refl _)
  rw [h] at hA
  obtain ⟨t, ht⟩ := List.length_eq_one_iff.1 hA.len.symm
  rw [ht] at hA
  cases hA with
  | cons h1 _ =>
    have o := h0.each t (by rw [ht]; simp)
    have e := h1.first o
    have h2 := o.by' _ o.mem
    exact ⟨by omega, h1.len⟩
theorem StR.gsmall {f : List Int} {L : List RT} {g : List Int} (h0 : FineA (T0 f 256)) (hl : (T0 f 256).length ≤ 256) (h : StR f L g) (i : Nat) : 0 ≤ g.getD i 0 ∧ g.getD i 0 ≤ 256 := by
  obtain ⟨_, F, _, hR⟩ := h
  have := hR.small h0 i
  omega
section
variable {ops : Array Oper} {rest : List Oper} {o : Oper} {a : Act} {w : World} {Q : Exit → Act → World → Prop}
theorem wp_load54 {s : RT} {p : Addr} (hgd : o.guard = none) (x : Operand) (ho : o.op = .load 54 x) (hx : a.eval x = .pointer (some p)) (hl : (Instr.loadAt 54 (.pointer (some p))).run Try.prog w = .ok (.agg (ra s)) w)
    (h : wpList Try.prog ops Q rest (a.put o.dst (.agg (ra s))) w) : wpList Try.prog ops Q (o :: rest) a w := by
  refine wpList_plain hgd fun K hK => ?_
  unfold Oper.wp execOp
  simp only [ho, hx, hl, Sem.run_bind, Sem.run_pure, Result.andThen_ok]
  exact hK _ _ h
end
end Go.Proofs.Ytfecngncapenjaa
