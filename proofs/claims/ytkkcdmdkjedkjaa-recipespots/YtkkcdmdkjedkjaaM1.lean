/- A map of spots: how it is looked into, and grows. -/
import Derived.Test.YtkkcdmdkjedkjaaR10
import Derived.WideKeyRuns
namespace Go.Proofs.Ytkkcdmdkjedkjaa
open Go.RowKit Go.Lib

/-- A spot as data, and as a value. -/
abbrev Sp := Int × Int
def spv (k : Sp) : Value := .agg #[.int .i64 k.1, .int .i64 k.2]
theorem u61 : Try.prog.underlying 61 = some (.struct (Try.prog.fieldsOf 61)) := by kernel_rfl
theorem p61 : Try.prog.stoodInHeld 61 = false := by kernel_rfl
theorem f61 : (Try.prog.fieldsOf 61).toList.map (fun f => (f.type, f.offset, f.name == "_")) = [(3, 0, false), (3, 1, false)] := by kernel_rfl
theorem two {fs : List Field} {a b : TypeId × Nat × Bool} (h : fs.map (fun f => (f.type, f.offset, f.name == "_")) = [a, b]) : ∃ f0 f1 : Field, fs = [f0, f1] ∧ (f0.type, f0.offset, f0.name == "_") = a ∧ (f1.type, f1.offset, f1.name == "_") = b := by
  match fs, h with
  | [f0, f1], h =>
    simp only [List.map_cons, List.map_nil, List.cons.injEq, and_true] at h
    exact ⟨f0, f1, rfl, h⟩
theorem eqf_stop {P : Program} (w : World) (d : Nat) (xs ys : Array Value) (f : Field) (fs : List Field) (hn : (f.name == "_") = false) {t : TypeId} {o : Nat} (ht : f.type = t) (ho : f.offset = o) {a b : Value} (ha : (part t xs o).run P w = .ok a w) (hb : (part t ys o).run P w = .ok b w) (he : (Op.equalIn d t a b).run P w = .ok false w) :
    (Op.eqFields d xs ys (f :: fs)).run P w = .ok false w := by
  subst ht ho
  have hn' : f.name ≠ "_" := by simpa using hn
  rw [Op.eqFields, if_pos hn', Sem.run_bind, ha]
  simp only [Result.andThen_ok, Sem.run_bind, hb, he]
  rfl
theorem eqIn61 (w : World) (k l : Sp) (d : Nat) : (Op.equalIn (d + 3) 61 (spv k) (spv l)).run Try.prog w = .ok (decide (k = l)) w := by
  obtain ⟨a, b⟩ := k
  obtain ⟨x, y⟩ := l
  have hI : ∀ z z' : Int, (Op.equalIn (d + 2) 3 (.int .i64 z) (.int .i64 z')).run Try.prog w = .ok (decide (z = z')) w := fun z z' => by
    rw [run_equalIn_int w (d + 1) 3 .i64 .i64 z z' Try.underlying3]
    rfl
  unfold spv
  rw [run_equalIn_struct w (d + 2) 61 _ _ u61 p61]
  have hq := f61
  generalize (Try.prog.fieldsOf 61).toList = fs at hq
  obtain ⟨f0, f1, rfl, e0, e1⟩ := two hq
  simp only [Prod.mk.injEq] at e0 e1
  by_cases h0 : a = x
  · subst h0
    rw [eqf_cons w (d + 2) _ _ f0 _ e0.2.2 e0.1 e0.2.1 (partI w _ 0 a rfl) (partI w _ 0 a rfl) (by rw [hI]; simp)]
    by_cases h1 : b = y
    · subst h1
      rw [eqf_cons w (d + 2) _ _ f1 _ e1.2.2 e1.1 e1.2.1 (partI w _ 1 b rfl) (partI w _ 1 b rfl) (by rw [hI]; simp), decide_eq_true rfl]
      rfl
    · rw [eqf_stop w (d + 2) _ _ f1 _ e1.2.2 e1.1 e1.2.1 (partI w _ 1 b rfl) (partI w _ 1 y rfl) (by rw [hI, decide_eq_false h1]), decide_eq_false (by simpa using h1)]
  · rw [eqf_stop w (d + 2) _ _ f0 _ e0.2.2 e0.1 e0.2.1 (partI w _ 0 a rfl) (partI w _ 0 x rfl) (by rw [hI, decide_eq_false h0]), decide_eq_false (by intro e; simp at e; exact h0 e.1)]
theorem chk61 (w : World) (em : Bool) (k : Sp) : (Instr.checkKey em 10000 61 (spv k)).run Try.prog w = .ok () w := by
  unfold spv
  kernel_rfl
/-- What a row of pairs tells of a key. -/
def fnd2 (M : List (Sp × Sp)) (k : Sp) : Option Sp := (M.find? (fun e => e.1 = k)).map (·.2)
theorem fnd2_nil (k : Sp) : fnd2 [] k = none := rfl
theorem fnd2_cons (e : Sp × Sp) (M : List (Sp × Sp)) (k : Sp) : fnd2 (e :: M) k = if e.1 = k then some e.2 else fnd2 M k := by
  unfold fnd2
  by_cases h : e.1 = k <;> simp [h]
theorem fnd2_snoc (M : List (Sp × Sp)) (e : Sp × Sp) (k : Sp) : fnd2 (M ++ [e]) k = match fnd2 M k with | some v => some v | none => if e.1 = k then some e.2 else none := by
  induction M with
  | nil => rw [List.nil_append, fnd2_cons, fnd2_nil]
  | cons x M ih =>
    rw [List.cons_append, fnd2_cons, fnd2_cons, ih]
    by_cases h : x.1 = k <;> simp [h]
/-- The map in block b holds the pairs M. -/
def MpAt (w : World) (b : Nat) (M : List (Sp × Sp)) : Prop := ∃ es clk, w.heap[b]? = some (.map es clk) ∧ es.toList.map (fun e => (e.key, e.val)) = M.map (fun x => (spv x.1, spv x.2))
theorem findAsk (w : World) (k : Sp) : ∀ (es : List MapEntry) (M : List (Sp × Sp)) (i : Nat), es.map (fun e => (e.key, e.val)) = M.map (fun x => (spv x.1, spv x.2)) →
    ∃ r, (Instr.findAsking 61 (spv k) es i).run Try.prog w = .ok r w ∧ r.map (·.2) = (fnd2 M k).map spv
  | [], [], i, _ => ⟨none, by simp [Instr.findAsking], rfl⟩
  | [], x :: M, i, h => by simp at h
  | e :: es, [], i, h => by simp at h
  | e :: es, x :: M, i, h => by
    simp only [List.map_cons, List.cons.injEq, Prod.mk.injEq] at h
    have he : (Op.equal 61 (spv k) e.key).run Try.prog w = .ok (decide (k = x.1)) w := by
      rw [h.1.1]
      exact eqIn61 w k x.1 9997
    rw [fnd2_cons]
    by_cases hk : x.1 = k
    · refine ⟨some (i, e.val), ?_, by rw [if_pos hk, h.1.2]; rfl⟩
      rw [decide_eq_true hk.symm] at he
      simp only [Instr.findAsking, Sem.run_bind, he, Result.andThen_ok, if_true, Sem.run_pure]
    · obtain ⟨r, h1, h2⟩ := findAsk w k es M (i + 1) h.2
      refine ⟨r, ?_, by rw [if_neg hk]; exact h2⟩
      rw [decide_eq_false (fun e => hk e.symm)] at he
      simp only [Instr.findAsking, Sem.run_bind, he, Result.andThen_ok, Bool.false_eq_true, if_false, h1]
theorem run_getObj_map {w : World} {b clk : Nat} {es : Array MapEntry} (h : w.heap[b]? = some (.map es clk)) : (getObj b).run Try.prog w = .ok (.map es clk) w := by simp [getObj, Sem.run, h]
theorem lookup_run {w : World} {b : Nat} {M : List (Sp × Sp)} (h : MpAt w b M) (k : Sp) : (Instr.lookup 81 (.map (some b)) (spv k) true).run Try.prog w = .ok (.tuple #[spv ((fnd2 M k).getD (0, 0)), .bool (fnd2 M k).isSome]) w := by
  obtain ⟨es, clk, hb, hm⟩ := h
  obtain ⟨r, h1, h2⟩ := findAsk w k es.toList M 0 hm
  have hf : (Instr.findKey 61 (spv k) es.toList).run Try.prog w = .ok r w := (run_findKey_eq (P := Try.prog) (k := 61) w (by rw [u61]) (spv k) es.toList).trans h1
  unfold Instr.lookup
  simp only [Sem.run_bind, run_underlying Try.underlying81, Result.andThen_ok, run_getObj_map hb, Sem.run_pure, chk61, hf]
  cases hq : fnd2 M k with
  | none =>
    rw [hq] at h2
    cases r with
    | none => simp; rfl
    | some x => simp at h2
  | some v =>
    rw [hq] at h2
    cases r with
    | none => simp at h2
    | some x =>
      simp at h2
      simp [h2]
theorem update_run {w : World} {b : Nat} {M : List (Sp × Sp)} (h : MpAt w b M) (k v : Sp) (hn : fnd2 M k = none) : ∃ w', (Instr.mapUpdate 81 (.map (some b)) (spv k) (spv v)).run Try.prog w = .ok () w' ∧ MpAt w' b (M ++ [(k, v)]) ∧ Chg [b] w w' := by
  obtain ⟨es, clk, hb, hm⟩ := h
  obtain ⟨r, h1, h2⟩ := findAsk w k es.toList M 0 hm
  have hf : (Instr.findKey 61 (spv k) es.toList).run Try.prog w = .ok r w := (run_findKey_eq (P := Try.prog) (k := 61) w (by rw [u61]) (spv k) es.toList).trans h1
  rw [hn] at h2
  have hr : r = none := by cases r with | none => rfl | some x => simp at h2
  subst hr
  have hlt : b < w.heap.size := (Array.getElem?_eq_some_iff.1 hb).1
  refine ⟨w.putObj b (.map (es.push { key := spv k, val := spv v, born := clk }) (clk + 1)), ?_, ⟨_, _, World.putObj_heap_same hlt, by simp [hm]⟩, ⟨rfl, rfl, rfl, by simp, fun j _ hx => World.putObj_heap_other (by simpa using hx)⟩⟩
  unfold Instr.mapUpdate
  simp only [Sem.run_bind, run_underlying Try.underlying81, Result.andThen_ok, run_getObj_map hb, chk61, hf]
  simp [setObj, Sem.run, hb, World.putObj]
theorem MpAt.far {w w' : World} {b : Nat} {M : List (Sp × Sp)} {X : List Nat} (h : MpAt w b M) (hc : Chg X w w') (hx : b ∉ X) : MpAt w' b M := by
  obtain ⟨es, clk, hb, hm⟩ := h
  exact ⟨es, clk, (hc.block b (Array.getElem?_eq_some_iff.1 hb).1 hx).trans hb, hm⟩
theorem MpAt.lt {w : World} {b : Nat} {M : List (Sp × Sp)} (h : MpAt w b M) : b < w.heap.size := by
  obtain ⟨es, clk, hb, hm⟩ := h
  exact (Array.getElem?_eq_some_iff.1 hb).1
end Go.Proofs.Ytkkcdmdkjedkjaa
