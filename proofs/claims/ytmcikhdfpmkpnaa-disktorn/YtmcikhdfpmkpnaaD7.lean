/- Package disk's settle. -/
import Derived.Test.YtmcikhdfpmkpnaaD6
import Derived.Deep.RegionHeld
namespace Go.Proofs.Ytmcikhdfpmkpnaa
open Go.RowKit Go.Maps Go.Sort Go.Shelf

section
variable {w : World} {g off : Nat} {l : List Int}
theorem run_loadVar_gen {P : Program} {ty : TypeId} {d : TypeDesc} (hu : P.underlying ty = some d) (hd : (match d with | .struct _ | .array _ _ => true | _ => false) = true) (hi : (P.info? ty).map (·.size) = some l.length) (hc : ∀ j v, (pc l)[j]? = some v → w.cell? ⟨g, off + j, none⟩ = some v) : (loadVar ty ⟨g, off, none⟩).run P w = .ok (pv l) w := by
  have hld : (loadCells ⟨g, off, none⟩ l.length).run P w = .ok (pc l).toArray w := by
    have := run_loadCells_list (P := P) w ⟨g, off, none⟩ (pc l) (fun j v hv => by
      have hadd : (⟨g, off, none⟩ : Addr).add j = ⟨g, off + j, none⟩ := by unfold Addr.add; split <;> simp_all
      rw [hadd]; exact hc j v hv)
    rwa [pc_length] at this
  cases hq : P.info? ty with
  | none => simp [hq] at hi
  | some i =>
    have hs : i.size = l.length := by simpa [hq] using hi
    have hagg : (isAgg ty).run P w = .ok true w := by
      unfold isAgg
      rw [Sem.run_bind, run_underlying hu w]
      cases d <;> simp_all
    simp [loadVar, Sem.run_bind, hagg, sizeOf, typeInfo, hq, hs, hld, pv]
theorem run_loadVar_page (hl : l.length = 128) (hc : ∀ j v, (pc l)[j]? = some v → w.cell? ⟨g, off + j, none⟩ = some v) : (loadVar 68 ⟨g, off, none⟩).run Try.prog w = .ok (pv l) w :=
  run_loadVar_gen Try.underlying68 rfl (by rw [hl]; exact info68) hc
theorem run_loadAt_page (hl : l.length = 128) (hc : ∀ j v, (pc l)[j]? = some v → w.cell? ⟨g, off + j, none⟩ = some v) : (Instr.loadAt 68 (.pointer (some ⟨g, off, none⟩))).run Try.prog w = .ok (pv l) w := by
  simp only [Instr.loadAt, Instr.sureAddr, Sem.run_bind, Sem.run_pure, Result.andThen_ok, run_loadVar_page hl hc]
theorem var_cells (h : w.heap[g]? = some (.cells (pa l) 68 (0, 0))) : ∀ j v, (pc l)[j]? = some v → w.cell? ⟨g, 0 + j, none⟩ = some v := by
  intro j v hv
  rw [Nat.zero_add, cell_of_row w g j _ 68 (0, 0) h]
  simpa [pa] using hv
theorem run_storeVar_gen {P : Program} {ty : TypeId} (hi : (P.info? ty).map (·.size) = some l.length) {cur : Array Value} {t : TypeId} (hg : w.heap[g]? = some (.cells cur t (0, 0))) (hle : off + (pc l).length ≤ cur.size) :
    (storeVar ty ⟨g, off, none⟩ (pv l)).run P w = .ok () (w.setRow g (cur.toList.take off ++ pc l ++ cur.toList.drop (off + (pc l).length)).toArray) := by
  have hst := run_storeCells_at P g off t (pc l) 0 cur w hg (by simpa using hle) (pc_one l)
  cases hq : P.info? ty with
  | none => simp [hq] at hi
  | some i =>
    have hs : (pc l).length = i.size := by rw [pc_length]; simp [hq] at hi; omega
    simp [storeVar, sizeOf, typeInfo, hq, Value.cells, pv, hs] at hst ⊢
    exact hst
theorem run_storeCells_page {P : Program} {cur : Array Value} {t : TypeId} (hg : w.heap[g]? = some (.cells cur t (0, 0))) (hle : off + (pc l).length ≤ cur.size) :
    (storeCells ⟨g, off, none⟩ (pa l).toList).run P w = .ok () (w.setRow g (cur.toList.take off ++ pc l ++ cur.toList.drop (off + (pc l).length)).toArray) := by
  have hst := run_storeCells_at P g off t (pc l) 0 cur w hg (by simpa using hle) (pc_one l)
  unfold pa
  exact hst
theorem run_storeAt_page (hl : l.length = 128) {cur : Array Value} {t : TypeId} (hg : w.heap[g]? = some (.cells cur t (0, 0))) (hle : off + (pc l).length ≤ cur.size) :
    (Instr.storeAt 68 (.pointer (some ⟨g, off, none⟩)) (pv l)).run Try.prog w = .ok () (w.setRow g (cur.toList.take off ++ pc l ++ cur.toList.drop (off + (pc l).length)).toArray) := by
  have hsv := run_storeVar_gen (P := Try.prog) (ty := 68) (by rw [hl]; exact info68) hg hle
  simp only [Instr.storeAt, Instr.sureAddr, Sem.run_bind, Sem.run_pure, Result.andThen_ok, hsv]
end

section
variable {P : Program} {md : Region.Mode} {ops : Array Oper} {Q : Exit → Act → World → Prop} {S : World → Prop} {fuel : Nat} {listed : Array Bool} {a : Act} {w : World} {i : Nat} {o : Oper} {rs : List Nat}
theorem readyH_plain (ho : ops[i]? = some o) (hg : o.guard = none)
    (h : ∀ K' : Act → World → Prop, (∀ a w, S w → (S w → wpAnyH P md ops Q S fuel (listed.setIfInBounds i true) a w) → K' a w) → Oper.wp P o a w K' Q)
    (hs : AllReadyH P md ops Q S fuel listed a w rs) : AllReadyH P md ops Q S fuel listed a w (i :: rs) :=
  AllReadyH.cons ho (fun K' hK => by
    have hw : Region.wanted o (yielded ops a.tmps) = true := by unfold Region.wanted; rw [hg]
    rw [if_pos hw]; exact h K' hK.out) hs
theorem exec_load_page {g off : Nat} {l : List Int} {ρ : Operand → Value} (x : Operand) (ho : o.op = .load 68 x) (hx : ρ x = .pointer (some ⟨g, off, none⟩)) (hl : l.length = 128) (hc : ∀ j v, (pc l)[j]? = some v → w.cell? ⟨g, off + j, none⟩ = some v) : (execOp ρ o).run Try.prog w = .ok (.value (pv l)) w := by
  unfold execOp
  simp only [ho, hx, run_loadAt_page hl hc, Sem.run_bind, Sem.run_pure, Result.andThen_ok]
theorem wp_load_page {K : Act → World → Prop} {g off : Nat} {l : List Int} (x : Operand) (ho : o.op = .load 68 x) (hx : a.eval x = .pointer (some ⟨g, off, none⟩)) (hl : l.length = 128) (hc : ∀ j v, (pc l)[j]? = some v → w.cell? ⟨g, off + j, none⟩ = some v) (h : K (a.put o.dst (.agg (pa l))) w) : Oper.wp Try.prog o a w K Q := by
  unfold Oper.wp
  rw [exec_load_page (l := l) x ho hx hl hc]
  exact h
theorem readyH_store_page (ho : ops[i]? = some o) (hg : o.guard = none) (x y : Operand) (hop : o.op = .store 68 x y) (g off : Nat) (l : List Int) (hx : a.eval x = .pointer (some ⟨g, off, none⟩)) (hy : a.eval y = pv l) (w' : World)
    (hst : (Instr.storeAt 68 (.pointer (some ⟨g, off, none⟩)) (pv l)).run Try.prog w = .ok () w') (hS : S w')
    (h : S w' → wpAnyH Try.prog md ops Q S fuel (listed.setIfInBounds i true) (a.put o.dst undef) w') (hs : AllReadyH Try.prog md ops Q S fuel listed a w rs) : AllReadyH Try.prog md ops Q S fuel listed a w (i :: rs) :=
  readyH_plain ho hg (fun K' hK => by
    unfold Oper.wp execOp
    simp only [hop, hx, hy, hst, Sem.run_bind, Sem.run_pure, Result.andThen_ok]
    exact hK _ _ hS h) hs
end

/-- The pages, where those that are no longer left have been settled. -/
def pgs (S : List Sec) (left : Lit → Bool) : List (List Int) := (List.range S.length).map fun i => if dirt S i && !left (key i) then now (sec S i) else (sec S i).1
theorem pgs_length (S : List Sec) (left : Lit → Bool) : (pgs S left).length = S.length := by simp [pgs]
theorem pgs_start (S : List Sec) (left : Lit → Bool) (h : ∀ i, i < S.length → dirt S i = true → left (key i) = true) : pgs S left = S.map (·.1) := by
  apply List.ext_getElem?
  intro i
  by_cases hi : i < S.length
  · simp only [pgs, List.getElem?_map, List.getElem?_range hi, Option.map_some, List.getElem?_eq_getElem hi]
    have e : sec S i = S[i] := by simp [sec, List.getD, List.getElem?_eq_getElem hi]
    by_cases hd : dirt S i = true
    · rw [h i hi hd, e]; simp
    · rw [e]; simp [hd]
  · simp [pgs, hi]
theorem pgs_end (S : List Sec) (left : Lit → Bool) (h : ∀ k, left k = false) : pgs S left = (flush S).map (·.1) := by
  apply List.ext_getElem?
  intro i
  by_cases hi : i < S.length
  · simp only [pgs, flush, List.getElem?_map, List.getElem?_range hi, Option.map_some, List.getElem?_eq_getElem hi]
    have e : sec S i = S[i] := by simp [sec, List.getD, List.getElem?_eq_getElem hi]
    rw [h]
    by_cases hd : dirt S i = true
    · rw [hd, e]; simp
    · have : (sec S i).2 = none := by unfold dirt at hd; cases hs : (sec S i).2 with
        | none => rfl
        | some l => rw [hs] at hd; simp at hd
      simp only [hd, e]
      rw [e] at this
      simp [now, this]
  · simp [pgs, flush, hi]
theorem pgs_step (S : List Sec) (left : Lit → Bool) {i : Nat} {l : List Int} (hl : (sec S i).2 = some l) : pgs S (fun z => left z && !z.sameKey (key i)) = (pgs S left).set i l := by
  apply List.ext_getElem?
  intro j
  by_cases hj : j < S.length
  · rw [List.getElem?_set]
    simp only [pgs, List.getElem?_map, List.getElem?_range hj, Option.map_some, List.length_map, List.length_range]
    by_cases e : i = j
    · subst e
      have hd : dirt S i = true := by unfold dirt; rw [hl]; rfl
      simp [hd, hj, key, Lit.sameKey, now, hl]
    · have hk : (key j).sameKey (key i) = false := by simp [key, Lit.sameKey]; omega
      simp [e, hk]
  · simp [pgs, hj]
end Go.Proofs.Ytmcikhdfpmkpnaa
