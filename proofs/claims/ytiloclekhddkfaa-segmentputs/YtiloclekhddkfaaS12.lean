/- The program's Ends. -/
import Derived.Test.YtiloclekhddkfaaS11
import Derived.Laws.Tables
import Derived.Laws.CopyRow
import Derived.Laws.IdiomArrays
namespace Go.Proofs.Ytiloclekhddkfaa
open Go.RowKit Go.Lib

/-- A load of cells as one value. -/
theorem wp_loadA {ops : Array Oper} {rest : List Oper} {o : Oper} {a : Act} {w : World} {Q : Exit → Act → World → Prop} (hgd : o.guard = none) (ty : TypeId) (x : Operand) (ho : o.op = .load ty x)
    (g off : Nat) (hx : a.eval x = .pointer (some ⟨g, off, none⟩)) (cs : List Value) (d : TypeDesc) (hc : ∀ j v, cs[j]? = some v → w.cell? ⟨g, off + j, none⟩ = some v)
    (hu : Try.prog.underlying ty = some d) (hd : (match d with | .struct _ | .array _ _ => true | _ => false) = true) (hi : (Try.prog.info? ty).map (·.size) = some cs.length)
    (h : wpList Try.prog ops Q rest (a.put o.dst (.agg cs.toArray)) w) : wpList Try.prog ops Q (o :: rest) a w := by
  refine wpList_plain hgd fun K hK => ?_
  have hl : (loadCells ⟨g, off, none⟩ cs.length).run Try.prog w = .ok cs.toArray w :=
    run_loadCells_list (P := Try.prog) w ⟨g, off, none⟩ cs (fun j v hv => by
      have hadd : (⟨g, off, none⟩ : Addr).add j = ⟨g, off + j, none⟩ := by unfold Addr.add; split <;> simp_all
      rw [hadd]; exact hc j v hv)
  have hlv : (loadVar ty ⟨g, off, none⟩).run Try.prog w = .ok (.agg cs.toArray) w := by
    cases hq : Try.prog.info? ty with
    | none => simp [hq] at hi
    | some i =>
      have hs : i.size = cs.length := by simpa [hq] using hi
      have hagg : (isAgg ty).run Try.prog w = .ok true w := by
        unfold isAgg
        rw [Sem.run_bind, run_underlying hu w]
        cases d <;> simp_all
      simp [loadVar, Sem.run_bind, hagg, sizeOf, typeInfo, hq, hs, hl]
  unfold Oper.wp execOp
  simp only [ho, hx, Instr.loadAt, Instr.sureAddr, Sem.run_bind, Sem.run_pure, Result.andThen_ok, hlv]
  exact hK _ _ h
theorem info25 : (Try.prog.info? 25).map (·.size) = some 32 := by kernel_rfl
theorem sa_size {s : List Int} (h : Sm s) : (sa s).size = 32 := by simp [sa, h.len]
theorem sa_one (s : List Int) : (sa s).all (·.oneCell') = true := by
  unfold sa
  rw [List.all_toArray, List.all_eq_true]
  intro x hx
  obtain ⟨y, _, rfl⟩ := List.mem_map.1 hx
  rfl
section
variable {w : World}
set_option maxHeartbeats 2000000 in
set_option maxRecDepth 100000 in
theorem ends_any (v : Value) (L : List Rf) (most : Int) (h : RdR w v L) (hL : L.length ≤ 10000000000000) (hm : -9223372036854775808 ≤ most ∧ most ≤ 9223372036854775807) : Calls Try.prog 16 #[v, .int .i64 most] w fun e w' => e = .returned (.bool (ends L most)) ∧ Below w.heap.size w w' := by
  obtain ⟨n, Hn⟩ : ∃ n, Hid (L.length = n) := ⟨_, ⟨rfl⟩⟩
  obtain ⟨av, cv, rfl, hcv, hcm, _⟩ := h.shape
  by_cases h0 : L.length = 0
  · have HE : Hid (ends L most = false) := ⟨by unfold ends; rw [decide_eq_false (by omega)]; rfl⟩
    rw [h0]
    clear h
    go_enter Try.func16, Try.ntmps16
    go_wp2
    go_ret
    exact ⟨by rw [HE.out]; rfl, Below.refl _ _⟩
  · obtain ⟨b, off, cap, e, hc⟩ := h.at' (L.length - 1) (by omega)
    have hsm := h.sum (i := L.length - 1) (by omega)
    have HE : Hid (ends L most = (decide ((L.length : Int) = most) || (decide (most - most.tdiv 2 ≤ (L.length : Int)) && decide (lastB L < 32)))) := ⟨by unfold ends; rw [decide_eq_true (by omega)]; rfl⟩
    have HB : Hid (lastB L = (L.getD (L.length - 1) r0).s.getD 31 0) := ⟨rfl⟩
    have Hc : Hid (∀ j v, (rc (L.getD (L.length - 1) r0))[j]? = some v → j < 35 → w.cell? ⟨b, off + (L.length - 1) * 35 + j, none⟩ = some v) := ⟨fun j v hv hj => (hc j hj).trans hv⟩
    generalize L.getD (L.length - 1) r0 = r at hsm HB Hc
    have Hsm := Hid.mk hsm
    have q := hsm.at 31 (by decide)
    have Hcs : Hid (∀ j v, (r.s.map (Value.int .u8))[j]? = some v → w.cell? ⟨b, off + (L.length - 1) * 35 + j, none⟩ = some v) := ⟨fun j v hv => by
      have hj : j < 32 := by
        rcases Nat.lt_or_ge j 32 with k | k
        · exact k
        · rw [List.getElem?_eq_none (by rw [List.length_map, Hsm.out.len]; exact k)] at hv; cases hv
      refine Hc.out j v ?_ (by omega)
      rw [rc_sum r Hsm.out j hj]
      rw [← hv]
      have hl : j < r.s.length := by rw [Hsm.out.len]; exact hj
      simp [List.getD, List.getElem?_eq_getElem hl]⟩
    have Hi : Hid ((Try.prog.info? 25).map (·.size) = some (r.s.map (Value.int .u8)).length) := ⟨by rw [List.length_map, Hsm.out.len]; exact info25⟩
    have Hpl : Hid ((Try.prog.info? 25).map (·.size) = some (sa r.s).size) := ⟨by rw [sa_size Hsm.out]; exact info25⟩
    have Hx0 : Hid ((w.alloc (.cells #[.int .u8 0, .int .u8 0, .int .u8 0, .int .u8 0, .int .u8 0, .int .u8 0, .int .u8 0, .int .u8 0, .int .u8 0, .int .u8 0, .int .u8 0, .int .u8 0, .int .u8 0, .int .u8 0, .int .u8 0, .int .u8 0, .int .u8 0, .int .u8 0, .int .u8 0, .int .u8 0, .int .u8 0, .int .u8 0, .int .u8 0, .int .u8 0, .int .u8 0, .int .u8 0, .int .u8 0, .int .u8 0, .int .u8 0, .int .u8 0, .int .u8 0, .int .u8 0] 25)).heap[w.heap.size]? = some (.cells #[.int .u8 0, .int .u8 0, .int .u8 0, .int .u8 0, .int .u8 0, .int .u8 0, .int .u8 0, .int .u8 0, .int .u8 0, .int .u8 0, .int .u8 0, .int .u8 0, .int .u8 0, .int .u8 0, .int .u8 0, .int .u8 0, .int .u8 0, .int .u8 0, .int .u8 0, .int .u8 0, .int .u8 0, .int .u8 0, .int .u8 0, .int .u8 0, .int .u8 0, .int .u8 0, .int .u8 0, .int .u8 0, .int .u8 0, .int .u8 0, .int .u8 0, .int .u8 0] 25 (0, 0))) := ⟨heap_alloc_new w _⟩
    have Hx1 : Hid (((w.alloc (.cells #[.int .u8 0, .int .u8 0, .int .u8 0, .int .u8 0, .int .u8 0, .int .u8 0, .int .u8 0, .int .u8 0, .int .u8 0, .int .u8 0, .int .u8 0, .int .u8 0, .int .u8 0, .int .u8 0, .int .u8 0, .int .u8 0, .int .u8 0, .int .u8 0, .int .u8 0, .int .u8 0, .int .u8 0, .int .u8 0, .int .u8 0, .int .u8 0, .int .u8 0, .int .u8 0, .int .u8 0, .int .u8 0, .int .u8 0, .int .u8 0, .int .u8 0, .int .u8 0] 25)).setRow w.heap.size (sa r.s)).heap[w.heap.size]? = some (.cells (sa r.s) 25 (0, 0))) := ⟨setRow_heap _ _ _ _ 25 (0, 0) Hx0.out⟩
    have Hd : Hid (((w.alloc (.cells #[.int .u8 0, .int .u8 0, .int .u8 0, .int .u8 0, .int .u8 0, .int .u8 0, .int .u8 0, .int .u8 0, .int .u8 0, .int .u8 0, .int .u8 0, .int .u8 0, .int .u8 0, .int .u8 0, .int .u8 0, .int .u8 0, .int .u8 0, .int .u8 0, .int .u8 0, .int .u8 0, .int .u8 0, .int .u8 0, .int .u8 0, .int .u8 0, .int .u8 0, .int .u8 0, .int .u8 0, .int .u8 0, .int .u8 0, .int .u8 0, .int .u8 0, .int .u8 0] 25)).setRow w.heap.size (sa r.s)).cell? ⟨w.heap.size, 31, none⟩ = some (.int .u8 (r.s.getD 31 0))) := ⟨(cell_of_row _ _ _ _ _ _ Hx1.out).trans (sa_get Hsm.out 31 (by decide))⟩
    have HBl : Hid (Below w.heap.size w ((w.alloc (.cells #[.int .u8 0, .int .u8 0, .int .u8 0, .int .u8 0, .int .u8 0, .int .u8 0, .int .u8 0, .int .u8 0, .int .u8 0, .int .u8 0, .int .u8 0, .int .u8 0, .int .u8 0, .int .u8 0, .int .u8 0, .int .u8 0, .int .u8 0, .int .u8 0, .int .u8 0, .int .u8 0, .int .u8 0, .int .u8 0, .int .u8 0, .int .u8 0, .int .u8 0, .int .u8 0, .int .u8 0, .int .u8 0, .int .u8 0, .int .u8 0, .int .u8 0, .int .u8 0] 25)).setRow w.heap.size (sa r.s))) := ⟨((Below.refl _ w).alloc (Nat.le_refl _) _).trans ⟨rfl, rfl, rfl, by simp, fun k hk => setRow_other _ _ k _ (by omega)⟩⟩
    simp at e
    obtain ⟨rfl, rfl⟩ := e
    rw [Hn.out] at h0 HE hcv hL Hcs ⊢
    have hz : ¬ (n : Int) = 0 := by omega
    have hn1 : (n : Int) - 1 = ((n - 1 : Nat) : Int) := by omega
    have hnw : IntKind.i64.wrap ((n - 1 : Nat) : Int) = ((n - 1 : Nat) : Int) := IntWalk.i64_in _ ⟨by omega, by omega⟩
    have hnl : ¬ n ≤ n - 1 := by omega
    obtain ⟨D, HD⟩ : ∃ D, Hid (most.tdiv 2 = D) := ⟨_, ⟨rfl⟩⟩
    have hf := half_facts most
    rw [HD.out] at hf HE
    have eD := HD.out
    have hDw0 : wrap64 D = D := IntWalk.wrap64_in _ ⟨by omega, by omega⟩
    have hDw : wrap64 (most - D) = most - D := IntWalk.wrap64_in _ ⟨by omega, by omega⟩
    rw [HB.out] at HE
    clear h hc hsm hf Hc
    by_cases c1 : (n : Int) = most
    · rw [decide_eq_true c1, Bool.true_or] at HE
      have c1b : ((n : Int) == most) = true := by simpa using c1
      have Hc1 := Hid.mk c1
      clear c1
      go_enter Try.func16, Try.ntmps16
      go_wp2
      go_ret
      exact ⟨by rw [HE.out]; rfl, Below.refl _ _⟩
    · rw [decide_eq_false c1, Bool.false_or] at HE
      have c1b : ((n : Int) == most) = false := by simpa using c1
      generalize r.s.getD 31 0 = y at HE q Hd
      go_enter Try.func16, Try.ntmps16
      go_upto_region 7 with (first
        | (refine wp_loadA rfl 25 (.tmp 18) rfl b (off + (n - 1) * 35) rfl (r.s.map (Value.int .u8)) _ Hcs.out Try.underlying25 rfl Hi.out ?_)
        | (refine wpList_store_row rfl 25 (.tmp 6) (.tmp 19) rfl w.heap.size (sa r.s) rfl rfl 25 (#[.int .u8 0, .int .u8 0, .int .u8 0, .int .u8 0, .int .u8 0, .int .u8 0, .int .u8 0, .int .u8 0, .int .u8 0, .int .u8 0, .int .u8 0, .int .u8 0, .int .u8 0, .int .u8 0, .int .u8 0, .int .u8 0, .int .u8 0, .int .u8 0, .int .u8 0, .int .u8 0, .int .u8 0, .int .u8 0, .int .u8 0, .int .u8 0, .int .u8 0, .int .u8 0, .int .u8 0, .int .u8 0, .int .u8 0, .int .u8 0, .int .u8 0, .int .u8 0]) Hx0.out Hpl.out (by rw [sa_size Hsm.out]; rfl) (sa_one _) ?_))
      generalize ((w.alloc (.cells #[.int .u8 0, .int .u8 0, .int .u8 0, .int .u8 0, .int .u8 0, .int .u8 0, .int .u8 0, .int .u8 0, .int .u8 0, .int .u8 0, .int .u8 0, .int .u8 0, .int .u8 0, .int .u8 0, .int .u8 0, .int .u8 0, .int .u8 0, .int .u8 0, .int .u8 0, .int .u8 0, .int .u8 0, .int .u8 0, .int .u8 0, .int .u8 0, .int .u8 0, .int .u8 0, .int .u8 0, .int .u8 0, .int .u8 0, .int .u8 0, .int .u8 0, .int .u8 0] 25)).setRow w.heap.size (sa r.s)) = w3 at Hd HBl Hx1 ⊢
      have hd := Hd.out
      by_cases c3 : most - D ≤ (n : Int)
      · rw [decide_eq_true c3, Bool.true_and] at HE
        go_wp2
        go_ret
        exact ⟨by rw [HE.out]; rfl, HBl.out⟩
      · rw [decide_eq_false c3, Bool.false_and] at HE
        go_wp2
        go_ret
        exact ⟨by rw [HE.out]; rfl, HBl.out⟩
end
end Go.Proofs.Ytiloclekhddkfaa
