/- Where four bytes stood: a map of rows of places. -/
import Derived.Test.YtoneepoaodoijaaK1
import Derived.Test.YtoneepoaodoijaaP5
import Derived.WideKeyRuns
namespace Go.Proofs.Ytoneepoaodoijaa
open Go.RowKit Go.Lib

/-- Four bytes as a key. -/
def kv (K : List Int) : Value := .agg (yv K).toArray
theorem u64a : Try.prog.underlying 64 = some (.array 4 5) := by kernel_rfl
theorem sizeByte5 (w : World) : (sizeOf 5).run Try.prog w = .ok 1 w := by kernel_rfl
theorem partY (w : World) {s : List Int} (i : Nat) (h : i < s.length) : (part 5 (yv s).toArray (i * 1)).run Try.prog w = .ok (.int .u8 (s.getD i 0)) w := by
  have : (yv s).toArray[i]? = some (.int .u8 (s.getD i 0)) := by
    rw [List.getElem?_toArray]
    exact yv_get s h
  unfold part
  simp [this]
theorem all4 {s t : List Int} (hs : s.length = 4) (ht : t.length = 4) : ((List.range' 0 4).all fun i => s.getD i 0 == t.getD i 0) = decide (s = t) := by
  by_cases e : s = t
  · subst e; simp
  · rw [decide_eq_false e]
    cases hq : ((List.range' 0 4).all fun i => s.getD i 0 == t.getD i 0) with
    | false => rfl
    | true =>
      exfalso
      apply e
      rw [List.all_eq_true] at hq
      apply List.ext_getElem (by rw [hs, ht])
      intro i h1 h2
      have := hq i (by rw [hs] at h1; simp; omega)
      simpa [List.getD, List.getElem?_eq_getElem h1, List.getElem?_eq_getElem h2] using this
theorem eqIn64 (w : World) {s t : List Int} (hs : s.length = 4) (ht : t.length = 4) (d : Nat) : (Op.equalIn (d + 2) 64 (kv s) (kv t)).run Try.prog w = .ok (decide (s = t)) w := by
  rw [← all4 hs ht]
  unfold kv
  rw [Op.equalIn]
  simp only [Sem.run_bind, run_underlying u64a, Result.andThen_ok, sizeByte5]
  rw [Std.Legacy.Range.forIn_eq_forIn_range']
  have hl : ∀ i ∈ List.range' 0 4, i < 4 := by decide
  show _ = _
  have : List.range' (Std.Legacy.Range.mk 0 4 1 (by decide)).start (Std.Legacy.Range.mk 0 4 1 (by decide)).size (Std.Legacy.Range.mk 0 4 1 (by decide)).step = List.range' 0 4 := by rfl
  rw [this]
  generalize List.range' 0 4 = l at hl
  clear this
  induction l with
  | nil => simp
  | cons i l ih =>
    have hi := hl i (by simp)
    simp only [List.forIn_cons, Sem.run_bind, partY w i (show i < s.length by omega), partY w i (show i < t.length by omega), Result.andThen_ok, run_equalIn_int w d 5 .u8 .u8 _ _ Try.underlying5, List.all_cons]
    cases hfg : (s.getD i 0 == t.getD i 0)
    · simp
    · simp only [Bool.not_true, Bool.false_eq_true, if_false, Sem.run_pure, Result.andThen_ok, Bool.true_and]
      exact ih (fun j hj => hl j (by simp [hj]))
theorem four_of {K : List Int} (hK : K.length = 4) : ∃ a b c d, K = [a, b, c, d] := by
  match K, hK with
  | [a, b, c, d], _ => exact ⟨a, b, c, d, rfl⟩
theorem chk64 (w : World) (em : Bool) {K : List Int} (hK : K.length = 4) : (Instr.checkKey em 10000 64 (kv K)).run Try.prog w = .ok () w := by
  obtain ⟨a, b, c, d, rfl⟩ := four_of hK
  unfold kv
  kernel_rfl
theorem same_kv {K : List Int} (hK : K.length = 4) : Instr.sameBits 10000 (kv K) (kv K) = true := by
  obtain ⟨a, b, c, d, rfl⟩ := four_of hK
  simp [kv, yv, Instr.sameBits]
/-- A key, the places of its row, the row. -/
abbrev Gr := List Int × List Nat × Value
def ent (x : Gr × Nat) : MapEntry := { key := kv x.1.1, val := x.1.2.2, born := x.2 }
def esOf (L : List Gr) : List MapEntry := L.zipIdx.map ent
theorem esOf_get (L : List Gr) (i : Nat) : (esOf L)[i]? = (L[i]?).map (fun x => ent (x, i)) := by simp [esOf, Function.comp_def]
theorem esOf_len (L : List Gr) : (esOf L).length = L.length := by simp [esOf]
theorem esOf_snoc (L : List Gr) (x : Gr) : esOf (L ++ [x]) = esOf L ++ [ent (x, L.length)] := by simp [esOf, List.zipIdx_append]
theorem esOf_set (L : List Gr) (i : Nat) (x : Gr) : esOf (L.set i x) = (esOf L).set i (ent (x, i)) := by
  apply List.ext_getElem?
  intro j
  rw [esOf_get, List.getElem?_set, List.getElem?_set, esOf_len, esOf_get]
  by_cases e : i = j
  · subst e
    by_cases h : i < L.length <;> simp [h]
  · simp [e]
/-- The first row of a key. -/
def fndI : List Gr → List Int → Nat → Option (Nat × Value)
  | [], _, _ => none
  | x :: L, K, i => if x.1 = K then some (i, x.2.2) else fndI L K (i + 1)
theorem fndI_some : ∀ {L : List Gr} {K : List Int} {i j : Nat} {v : Value}, fndI L K i = some (j, v) → ∃ k x, j = i + k ∧ L[k]? = some x ∧ x.1 = K ∧ v = x.2.2
  | [], _, _, _, _, h => by simp [fndI] at h
  | x :: L, K, i, j, v, h => by
    rw [fndI] at h
    split at h
    · rename_i hk
      simp only [Option.some.injEq, Prod.mk.injEq] at h
      exact ⟨0, x, by omega, rfl, hk, h.2.symm⟩
    · obtain ⟨k, y, h1, h2, h3, h4⟩ := fndI_some h
      exact ⟨k + 1, y, by omega, by simpa using h2, h3, h4⟩
theorem fndI_none : ∀ {L : List Gr} {K : List Int} {i : Nat}, fndI L K i = none → ∀ x ∈ L, x.1 ≠ K
  | [], _, _, _, x, hx => by simp at hx
  | y :: L, K, i, h, x, hx => by
    rw [fndI] at h
    split at h
    · simp at h
    · rename_i hk
      rcases List.mem_cons.1 hx with rfl | hx
      · exact hk
      · exact fndI_none h x hx
/-- The map in block b holds these rows. -/
def MpL (w : World) (b : Nat) (L : List Gr) : Prop := (∀ x ∈ L, x.1.length = 4) ∧ ∃ es, w.heap[b]? = some (.map es L.length) ∧ es.toList = esOf L
theorem MpL.lt {w : World} {b : Nat} {L : List Gr} (h : MpL w b L) : b < w.heap.size := by obtain ⟨_, es, h1, _⟩ := h; exact (Array.getElem?_eq_some_iff.1 h1).1
theorem MpL.stay {w w' : World} {b : Nat} {L : List Gr} (h : MpL w b L) (hk : ∀ o, w.heap[b]? = some o → hard o = true → w'.heap[b]? = some o) : MpL w' b L := by
  obtain ⟨h0, es, h1, h2⟩ := h
  exact ⟨h0, es, hk _ h1 rfl, h2⟩
theorem findAskL (w : World) {K : List Int} (hK : K.length = 4) : ∀ (L : List Gr) (i k : Nat), (∀ x ∈ L, x.1.length = 4) → (Instr.findAsking 64 (kv K) ((L.zipIdx k).map ent) i).run Try.prog w = .ok (fndI L K i) w
  | [], i, k, _ => by simp [Instr.findAsking, fndI]
  | x :: L, i, k, h4 => by
    have hx := h4 x (by simp)
    have he : (Op.equal 64 (kv K) (kv x.1)).run Try.prog w = .ok (decide (K = x.1)) w := eqIn64 w hK hx 9998
    rw [List.zipIdx_cons, List.map_cons]
    rw [fndI]
    by_cases hk : x.1 = K
    · rw [decide_eq_true hk.symm] at he
      rw [if_pos hk]
      simp only [Instr.findAsking, ent, Sem.run_bind, he, Result.andThen_ok, if_true, Sem.run_pure]
    · rw [decide_eq_false (fun e => hk e.symm)] at he
      rw [if_neg hk]
      simp only [Instr.findAsking, ent, Sem.run_bind, he, Result.andThen_ok, Bool.false_eq_true, if_false]
      exact findAskL w hK L (i + 1) (k + 1) (fun y hy => h4 y (by simp [hy]))
theorem getObj_map {w : World} {b clk : Nat} {es : Array MapEntry} (h : w.heap[b]? = some (.map es clk)) : (getObj b).run Try.prog w = .ok (.map es clk) w := by simp [getObj, Sem.run, h]
theorem zero67 (w : World) : (zeroValue 67).run Try.prog w = .ok (.slice none 0 0) w := by kernel_rfl
theorem find64 {w : World} {L : List Gr} {es : Array MapEntry} (h4 : ∀ x ∈ L, x.1.length = 4) (he : es.toList = esOf L) {K : List Int} (hK : K.length = 4) : (Instr.findKey 64 (kv K) es.toList).run Try.prog w = .ok (fndI L K 0) w := by
  refine (run_findKey_eq (P := Try.prog) (k := 64) w (by rw [u64a]) (kv K) es.toList).trans ?_
  rw [he]
  exact findAskL w hK L 0 0 h4
theorem lookupL {w : World} {b : Nat} {L : List Gr} (h : MpL w b L) {K : List Int} (hK : K.length = 4) : (Instr.lookup 62 (.map (some b)) (kv K) false).run Try.prog w = .ok (((fndI L K 0).map (·.2)).getD (.slice none 0 0)) w := by
  obtain ⟨h4, es, hb, hm⟩ := h
  have hf := find64 (w := w) h4 hm hK
  unfold Instr.lookup
  simp only [Sem.run_bind, run_underlying Try.underlying62, Result.andThen_ok, getObj_map hb, Sem.run_pure, chk64 w _ hK, hf]
  cases fndI L K 0 with
  | none => simp
  | some x => simp
theorem putMap {w : World} {b : Nat} {es : Array MapEntry} {clk : Nat} (o : Obj) (h : w.heap[b]? = some (.map es clk)) : (setObj b o).run Try.prog w = .ok () (w.putObj b o) := by simp [setObj, Sem.run, h, World.putObj]
/-- The entry of a key, made where there is none. -/
theorem entryL {w : World} {b : Nat} {L : List Gr} (h : MpL w b L) {K : List Int} (hK : K.length = 4) :
    ∃ (L' : List Gr) (j : Nat) (x : Gr) (o : Obj), (Instr.mapEntry 62 (.map (some b)) (kv K)).run Try.prog w = .ok (.tuple #[x.2.2, .int .i64 (j : Int)]) (w.putObj b o) ∧ MpL (w.putObj b o) b L' ∧ L'[j]? = some x ∧ x.1 = K ∧ ((L' = L) ∨ (L' = L ++ [(K, [], .slice none 0 0)] ∧ j = L.length ∧ x = (K, [], .slice none 0 0) ∧ ∀ y ∈ L, y.1 ≠ K)) := by
  obtain ⟨h4, es, hb, hm⟩ := h
  have hlt : b < w.heap.size := (Array.getElem?_eq_some_iff.1 hb).1
  have hf := find64 (w := w) h4 hm hK
  unfold Instr.mapEntry
  simp only [Sem.run_bind, run_underlying Try.underlying62, Result.andThen_ok, getObj_map hb, chk64 w _ hK, hf]
  cases hq : fndI L K 0 with
  | none =>
    have hno := fndI_none hq
    simp only [Sem.run_bind, zero67, Result.andThen_ok, putMap _ hb, Sem.run_pure]
    refine ⟨L ++ [(K, [], .slice none 0 0)], L.length, (K, [], .slice none 0 0), _, rfl, ⟨?_, es.push { key := kv K, val := .slice none 0 0, born := L.length }, ?_, ?_⟩, by simp, rfl, .inr ⟨rfl, rfl, rfl, hno⟩⟩
    · intro x hx
      rcases List.mem_append.1 hx with hx | hx
      · exact h4 x hx
      · simp at hx; subst hx; exact hK
    · rw [World.putObj_heap_same hlt, List.length_append]
      rfl
    · rw [esOf_snoc, Array.toList_push, hm]
      rfl
  | some r =>
    obtain ⟨j, v⟩ := r
    obtain ⟨k, x, e1, h2, h3, h5⟩ := fndI_some hq
    have hj : j = k := by omega
    subst hj h5
    have hx4 : x.1.length = 4 := h4 x (List.mem_of_getElem? h2)
    have hes : es[j]? = some (ent (x, j)) := by
      rw [← Array.getElem?_toList, hm, esOf_get, h2]
      rfl
    have hst : (Instr.keyThatStays (kv K) (kv K)).run Try.prog w = .ok (kv K) w := by
      unfold Instr.keyThatStays
      rw [if_pos (same_kv hK)]
      rfl
    simp only [hes, Option.map_some, Option.getD_some, ent, h3, Sem.run_bind, hst, Result.andThen_ok, putMap _ hb, Sem.run_pure]
    refine ⟨L, j, x, _, rfl, ⟨h4, _, World.putObj_heap_same hlt, ?_⟩, h2, h3, .inl rfl⟩
    rw [Array.toList_modify, hm]
    apply List.ext_getElem?
    intro i
    rw [List.getElem?_modify]
    by_cases e : j = i
    · subst e
      rw [esOf_get, h2]
      simp [ent, h3]
    · simp [e]
theorem findIdx_born (L : List Gr) {j : Nat} (hj : j < L.length) (es : Array MapEntry) (he : es.toList = esOf L) : es.findIdx? (fun e => (e.born : Int) == (j : Int)) = some j := by
  have he2 : es = (esOf L).toArray := by rw [← he]
  rw [he2, List.findIdx?_toArray, List.findIdx?_eq_some_iff_getElem]
  refine ⟨by rw [esOf_len]; exact hj, ?_, ?_⟩
  · have := esOf_get L j
    rw [List.getElem?_eq_getElem (by rw [esOf_len]; exact hj), List.getElem?_eq_getElem hj] at this
    simp only [Option.map_some, Option.some.injEq] at this
    rw [this]
    simp [ent]
  · intro i hi
    have := esOf_get L i
    rw [List.getElem?_eq_getElem (by rw [esOf_len]; omega), List.getElem?_eq_getElem (show i < L.length by omega)] at this
    simp only [Option.map_some, Option.some.injEq] at this
    rw [this]
    simp [ent]
    omega
theorem storeL {w : World} {b : Nat} {L : List Gr} (h : MpL w b L) {j : Nat} {x : Gr} (hx : L[j]? = some x) (F : List Nat) (v : Value) :
    ∃ o, (Instr.entryStore 62 (.map (some b)) (.int .i64 (j : Int)) v).run Try.prog w = .ok () (w.putObj b o) ∧ MpL (w.putObj b o) b (L.set j (x.1, F, v)) := by
  obtain ⟨h4, es, hb, hm⟩ := h
  have hlt : b < w.heap.size := (Array.getElem?_eq_some_iff.1 hb).1
  have hj : j < L.length := (List.getElem?_eq_some_iff.1 hx).1
  have hi := findIdx_born L hj es hm
  unfold Instr.entryStore
  have has : (asInt (.int .i64 (j : Int))).run Try.prog w = .ok (j : Int) w := rfl
  simp only [Sem.run_bind, Result.andThen_ok, getObj_map hb, has, hi, putMap _ hb]
  refine ⟨_, rfl, ?_, _, by rw [World.putObj_heap_same hlt, List.length_set], ?_⟩
  · intro y hy
    rcases List.mem_or_eq_of_mem_set hy with hy | rfl
    · exact h4 y hy
    · exact h4 x (List.mem_of_getElem? hx)
  · rw [Array.toList_modify, hm, esOf_set]
    apply List.ext_getElem?
    intro i
    rw [List.getElem?_modify, List.getElem?_set, esOf_len]
    by_cases e : j = i
    · subst e
      rw [esOf_get, hx]
      simp [ent, hj]
    · simp [e]
end Go.Proofs.Ytoneepoaodoijaa
