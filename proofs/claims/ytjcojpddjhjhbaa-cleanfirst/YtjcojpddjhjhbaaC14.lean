/- A set of spots, as a map: how it is looked into, and grows. -/
import Derived.Test.YtjcojpddjhjhbaaC13
import Derived.WideKeyRuns
import Derived.RangeFuncRecord
import Derived.Laws.StructEq
namespace Go.Proofs.Ytjcojpddjhjhbaa
open Go.RowKit Go.Lib

theorem partI (w : World) (cs : Array Value) (j : Nat) (z : Int) (h : cs[j]? = some (.int .i64 z)) : (part 3 cs j).run Try.prog w = .ok (.int .i64 z) w := by
  have h1 : (isAgg 3).run Try.prog w = .ok false w := by kernel_rfl
  unfold part
  simp [Sem.run_bind, h1, h]
theorem eqf_cons {P : Program} (w : World) (d : Nat) (xs ys : Array Value) (f : Field) (fs : List Field) (hn : (f.name == "_") = false) {t : TypeId} {o : Nat} (ht : f.type = t) (ho : f.offset = o) {a b : Value} (ha : (part t xs o).run P w = .ok a w) (hb : (part t ys o).run P w = .ok b w) (he : (Op.equalIn d t a b).run P w = .ok true w) :
    (Op.eqFields d xs ys (f :: fs)).run P w = (Op.eqFields d xs ys fs).run P w := by
  subst ht ho
  have hn' : f.name ≠ "_" := by simpa using hn
  rw [Op.eqFields, if_pos hn', Sem.run_bind, ha]
  simp only [Result.andThen_ok, Sem.run_bind, hb, he]
  rfl
def spv (k : Sp) : Value := .agg #[.int .i64 k.1, .int .i64 k.2]
theorem u46 : Try.prog.underlying 46 = some (.struct (Try.prog.fieldsOf 46)) := by kernel_rfl
theorem p46 : Try.prog.stoodInHeld 46 = false := by kernel_rfl
theorem f46 : (Try.prog.fieldsOf 46).toList.map (fun f => (f.type, f.offset, f.name == "_")) = [(3, 0, false), (3, 1, false)] := by kernel_rfl
theorem two {fs : List Field} {a b : TypeId × Nat × Bool} (h : fs.map (fun f => (f.type, f.offset, f.name == "_")) = [a, b]) : ∃ f0 f1 : Field, fs = [f0, f1] ∧ (f0.type, f0.offset, f0.name == "_") = a ∧ (f1.type, f1.offset, f1.name == "_") = b := by
  match fs, h with
  | [f0, f1], h =>
    simp only [List.map_cons, List.map_nil, List.cons.injEq, and_true] at h
    exact ⟨f0, f1, rfl, h⟩
theorem eqf_stop {P : Program} (w : World) (d : Nat) (xs ys : Array Value) (f : Field) (fs : List Field) (hn : (f.name == "_") = false) {t : TypeId} {o : Nat} (ht : f.type = t) (ho : f.offset = o) {a b : Value} (ha : (part t xs o).run P w = .ok a w) (hb : (part t ys o).run P w = .ok b w) (he : (Op.equalIn d t a b).run P w = .ok false w) :
    (Op.eqFields d xs ys (f :: fs)).run P w = .ok false w := by
  subst ht ho
  have hn' : f.name ≠ "_" := by simpa using hn
  rw [Op.eqFields, if_pos hn', Sem.run_bind, ha]
  simp only [Result.andThen_ok, Sem.run_bind, hb, he]
  rfl
theorem eqIn46 (w : World) (k l : Sp) (d : Nat) : (Op.equalIn (d + 3) 46 (spv k) (spv l)).run Try.prog w = .ok (decide (k = l)) w := by
  obtain ⟨a, b⟩ := k
  obtain ⟨x, y⟩ := l
  have hI : ∀ z z' : Int, (Op.equalIn (d + 2) 3 (.int .i64 z) (.int .i64 z')).run Try.prog w = .ok (decide (z = z')) w := fun z z' => by
    rw [run_equalIn_int w (d + 1) 3 .i64 .i64 z z' Try.underlying3]
    rfl
  unfold spv
  rw [run_equalIn_struct w (d + 2) 46 _ _ u46 p46]
  have hq := f46
  generalize (Try.prog.fieldsOf 46).toList = fs at hq
  obtain ⟨f0, f1, rfl, e0, e1⟩ := two hq
  simp only [Prod.mk.injEq] at e0 e1
  by_cases h0 : a = x
  · subst h0
    rw [eqf_cons w (d + 2) _ _ f0 _ e0.2.2 e0.1 e0.2.1 (partI w _ 0 a rfl) (partI w _ 0 a rfl) (by rw [hI]; simp)]
    by_cases h1 : b = y
    · subst h1
      rw [eqf_cons w (d + 2) _ _ f1 _ e1.2.2 e1.1 e1.2.1 (partI w _ 1 b rfl) (partI w _ 1 b rfl) (by rw [hI]; simp), decide_eq_true rfl]
      rfl
    · rw [eqf_stop w (d + 2) _ _ f1 _ e1.2.2 e1.1 e1.2.1 (partI w _ 1 b rfl) (partI w _ 1 y rfl) (by rw [hI, decide_eq_false h1]), decide_eq_false (by simpa using h1)]
  · rw [eqf_stop w (d + 2) _ _ f0 _ e0.2.2 e0.1 e0.2.1 (partI w _ 0 a rfl) (partI w _ 0 x rfl) (by rw [hI, decide_eq_false h0]), decide_eq_false (by intro e; simp at e; exact h0 e.1)]
theorem chk46 (w : World) (em : Bool) (k : Sp) : (Instr.checkKey em 10000 46 (spv k)).run Try.prog w = .ok () w := by
  unfold spv
  kernel_rfl
/-- The map in block b holds the spots M. -/
def MsAt (w : World) (b : Nat) (M : List Sp) : Prop := ∃ es clk, w.heap[b]? = some (.map es clk) ∧ es.toList.map (fun e => (e.key, e.val)) = M.map (fun x => (spv x, Value.agg #[]))
theorem findAsk (w : World) (k : Sp) : ∀ (es : List MapEntry) (M : List Sp) (i : Nat), es.map (fun e => (e.key, e.val)) = M.map (fun x => (spv x, Value.agg #[])) →
    (k ∈ M ∧ ∃ j e, (Instr.findAsking 46 (spv k) es i).run Try.prog w = .ok (some (i + j, .agg #[])) w ∧ es[j]? = some e ∧ e.key = spv k ∧ e.val = .agg #[]) ∨ (k ∉ M ∧ (Instr.findAsking 46 (spv k) es i).run Try.prog w = .ok none w)
  | [], [], i, _ => .inr ⟨by simp, by simp [Instr.findAsking]⟩
  | [], x :: M, i, h => by simp at h
  | e :: es, [], i, h => by simp at h
  | e :: es, x :: M, i, h => by
    simp only [List.map_cons, List.cons.injEq, Prod.mk.injEq] at h
    have he : (Op.equal 46 (spv k) e.key).run Try.prog w = .ok (decide (k = x)) w := by
      rw [h.1.1]
      exact eqIn46 w k x 9997
    by_cases hk : k = x
    · subst hk
      refine .inl ⟨by simp, 0, e, ?_, by simp, h.1.1, h.1.2⟩
      rw [decide_eq_true rfl] at he
      simp only [Instr.findAsking, Sem.run_bind, he, Result.andThen_ok, if_true, Sem.run_pure, h.1.2, Nat.add_zero]
    · rw [decide_eq_false hk] at he
      rcases findAsk w k es M (i + 1) h.2 with ⟨h1, j, e', h2, h3, h4⟩ | ⟨h1, h2⟩
      · refine .inl ⟨by simp [h1], j + 1, e', ?_, by simpa using h3, h4⟩
        simp only [Instr.findAsking, Sem.run_bind, he, Result.andThen_ok, Bool.false_eq_true, if_false, h2]
        rw [show i + 1 + j = i + (j + 1) by omega]
      · refine .inr ⟨by simp [h1, hk], ?_⟩
        simp only [Instr.findAsking, Sem.run_bind, he, Result.andThen_ok, Bool.false_eq_true, if_false, h2]
theorem run_getObj_map {w : World} {b clk : Nat} {es : Array MapEntry} (h : w.heap[b]? = some (.map es clk)) : (getObj b).run Try.prog w = .ok (.map es clk) w := by simp [getObj, Sem.run, h]
theorem lookup_run {w : World} {b : Nat} {M : List Sp} (h : MsAt w b M) (k : Sp) : (Instr.lookup 48 (.map (some b)) (spv k) true).run Try.prog w = .ok (.tuple #[.agg #[], .bool (decide (k ∈ M))]) w := by
  obtain ⟨es, clk, hb, hm⟩ := h
  have e1 := run_findKey_eq (P := Try.prog) (k := 46) w (by rw [u46]) (spv k) es.toList
  unfold Instr.lookup
  simp only [Sem.run_bind, run_underlying Try.underlying48, Result.andThen_ok, run_getObj_map hb, Sem.run_pure, chk46, e1]
  rcases findAsk w k es.toList M 0 hm with ⟨h1, j, e, h2, _⟩ | ⟨h1, h2⟩
  · rw [h2]
    simp [h1]
  · rw [h2]
    simp [h1]
theorem stays (w : World) (k : Sp) : (Instr.keyThatStays (spv k) (spv k)).run Try.prog w = .ok (spv k) w := by
  have h : Instr.sameBits 10000 (spv k) (spv k) = true := by
    unfold spv
    rw [show (10000 : Nat) = 9999 + 1 from rfl]
    simp [Instr.sameBits]
  unfold Instr.keyThatStays
  rw [if_pos h]
  rfl
theorem update_run {w : World} {b : Nat} {M : List Sp} (h : MsAt w b M) (k : Sp) : ∃ w', (Instr.mapUpdate 48 (.map (some b)) (spv k) (.agg #[])).run Try.prog w = .ok () w' ∧ (∃ M', MsAt w' b M' ∧ ∀ y, y ∈ M' ↔ y ∈ M ∨ y = k) ∧ Chg [b] w w' := by
  obtain ⟨es, clk, hb, hm⟩ := h
  have e1 := run_findKey_eq (P := Try.prog) (k := 46) w (by rw [u46]) (spv k) es.toList
  have hlt : b < w.heap.size := (Array.getElem?_eq_some_iff.1 hb).1
  rcases findAsk w k es.toList M 0 hm with ⟨h1, j, e, h2, h3, h4, h5⟩ | ⟨h1, h2⟩
  · rw [h2] at e1
    have hk : ((es[0 + j]?).map (·.key)).getD (spv k) = spv k := by
      rw [Nat.zero_add, ← Array.getElem?_toList, h3]
      simp [h4]
    refine ⟨w.putObj b (.map (es.modify (0 + j) fun e => { e with key := spv k, val := .agg #[] }) clk), ?_, ⟨M, ⟨_, _, World.putObj_heap_same hlt, ?_⟩, fun y => ⟨fun h => .inl h, fun h => h.elim id (fun e => e ▸ h1)⟩⟩, ⟨rfl, rfl, rfl, by simp, fun j _ hx => World.putObj_heap_other (by simpa using hx)⟩⟩
    · unfold Instr.mapUpdate
      simp only [Sem.run_bind, run_underlying Try.underlying48, Result.andThen_ok, run_getObj_map hb, chk46, e1, hk, stays]
      simp [setObj, Sem.run, hb, World.putObj]
    · rw [← hm]
      apply List.ext_getElem?
      intro i
      simp only [List.getElem?_map, Array.getElem?_toList, Array.getElem?_modify]
      by_cases hi : 0 + j = i
      · have h3' : es[i]? = some e := by rw [← hi, Nat.zero_add, ← Array.getElem?_toList, h3]
        rw [if_pos hi, h3']
        simp [h4, h5]
      · rw [if_neg hi]
  · rw [h2] at e1
    refine ⟨w.putObj b (.map (es.push { key := spv k, val := .agg #[], born := clk }) (clk + 1)), ?_, ⟨M ++ [k], ⟨_, _, World.putObj_heap_same hlt, by simp [hm]⟩, fun y => by simp⟩, ⟨rfl, rfl, rfl, by simp, fun j _ hx => World.putObj_heap_other (by simpa using hx)⟩⟩
    unfold Instr.mapUpdate
    simp only [Sem.run_bind, run_underlying Try.underlying48, Result.andThen_ok, run_getObj_map hb, chk46, e1]
    simp [setObj, Sem.run, hb, World.putObj]
theorem MsAt.far {w w' : World} {b : Nat} {M : List Sp} {X : List Nat} (h : MsAt w b M) (hc : Chg X w w') (hx : b ∉ X) : MsAt w' b M := by
  obtain ⟨es, clk, hb, hm⟩ := h
  exact ⟨es, clk, (hc.block b (Array.getElem?_eq_some_iff.1 hb).1 hx).trans hb, hm⟩
theorem MsAt.lt {w : World} {b : Nat} {M : List Sp} (h : MsAt w b M) : b < w.heap.size := by
  obtain ⟨es, clk, hb, hm⟩ := h
  exact (Array.getElem?_eq_some_iff.1 hb).1
end Go.Proofs.Ytjcojpddjhjhbaa
