/- Rows of spans: copy, clear, append of zeros. -/
import Derived.Test.YtcmibcmndiplbabX8
import Derived.Laws.CopyOwn
import Derived.Deep.DeepAppendRoom
namespace Go.Proofs.Ytcmibcmndiplbab
open Go.RowKit Go.Lib Go.Shelf

theorem setRow_row {w : World} {g : Nat} {C : Array Value} (h : Row w g C) (cs : Array Value) : Row (w.setRow g cs) g cs := setRow_heap w g C cs 57 _ h
theorem grown_setRow (w : World) (g : Nat) (cs : Array Value) : w.grownBy (w.setRow g cs) (some g) := ⟨rfl, rfl, rfl, by simp, fun k _ hk => setRow_other w g k _ (fun e => hk (by simp [e]))⟩

/-- 'copy(dst, src)' of spans into a row. -/
theorem run_copy2 (w : World) (ty g o dLen dCap : Nat) (a : Addr) (sLen sCap : Nat) (C : Array Value) (cs : List Value) (hg : Row w g C) (hn : cs.length = Nat.min sLen dLen * 2)
    (hsrc : ∀ j v, cs[j]? = some v → w.cell? (a.add j) = some v) (hfit : o + cs.length ≤ C.size) (h1 : ∀ v ∈ cs, v.oneCell' = true) :
    (Builtin.copy_ #[58, 58] ty #[.slice (some ⟨g, o, none⟩) dLen dCap, .slice (some a) sLen sCap]).run Try.prog w = .ok (goInt (Nat.min sLen dLen)) (w.setRow g (splice C.toList o cs).toArray) := by
  have hl := run_loadCells_list (P := Try.prog) w a cs hsrc
  rw [hn] at hl
  have hst := run_storeCells_at Try.prog g o 57 cs 0 C w hg (by simpa using hfit) h1
  obtain ⟨i, hi, _, hi2, _⟩ := info_parts' info57
  simp only [Nat.add_zero] at hst
  simp [Builtin.copy_, run_underlying Try.underlying58, Builtin.lenOf, Builtin.firstCells, sizeOf, typeInfo, hi, hi2, hl, hst, splice]

theorem run_copy0 (w : World) (ty : Nat) (d a : Option Addr) (dLen dCap sLen sCap : Nat) (hn : Nat.min sLen dLen = 0) :
    (Builtin.copy_ #[58, 58] ty #[.slice d dLen dCap, .slice a sLen sCap]).run Try.prog w = .ok (goInt 0) w := by
  obtain ⟨i, hi, _, _, _⟩ := info_parts' info57
  have hl : ∀ (x : Addr), (loadCells x 0).run Try.prog w = .ok #[] w := fun x => by simpa using run_loadCells_list (P := Try.prog) w x [] (by simp)
  cases d <;> cases a <;> simp [Builtin.copy_, run_underlying Try.underlying58, Builtin.lenOf, Builtin.firstCells, sizeOf, typeInfo, hi, hn, storeCells, hl]

theorem run_clear0 (w : World) (ty : Nat) (d : Option Addr) (c : Nat) : (Builtin.clear_ #[58] ty #[.slice d 0 c]).run Try.prog w = .ok (.tuple #[]) w := by
  cases d <;> simp [Builtin.clear_, run_underlying Try.underlying58]

theorem run_clearR (w : World) (ty g o n c : Nat) (C : Array Value) (hg : Row w g C) (hn : 0 < n) (hfit : o + n * 2 ≤ C.size) :
    (Builtin.clear_ #[58] ty #[.slice (some ⟨g, o, none⟩) n c]).run Try.prog w = .ok (.tuple #[]) (w.setRow g (splice C.toList o (List.replicate (n * 2) (.int .i64 0))).toArray) := by
  have hzc : (Builtin.zeroCells (Value.agg #[.int .i64 0, .int .i64 0]).cells n).toList = List.replicate (n * 2) (.int .i64 0) := by
    simp [Builtin.zeroCells, Value.cells]
    apply List.ext_getElem
    · simp
    · intro i h1 h2
      simp
      rcases Nat.mod_two_eq_zero_or_one i with h | h <;> simp [h]
  have hst := run_storeCells_at Try.prog g o 57 (List.replicate (n * 2) (.int .i64 0)) 0 C w hg (by simpa using hfit) (by intro v hv'; rw [List.eq_of_mem_replicate hv']; rfl)
  simp only [Nat.add_zero] at hst
  obtain ⟨m, rfl⟩ : ∃ m, n = m + 1 := ⟨n - 1, by omega⟩
  simp [Builtin.clear_, run_underlying Try.underlying58, Try.zeroValue57, hzc, hst, splice]

theorem splice_take {α : Type} (L : List α) (off : Nat) (cs : List α) (h : off ≤ L.length) : (splice L off cs).take (off + cs.length) = L.take off ++ cs := by
  unfold splice
  rw [← List.append_assoc, List.take_append_of_le_length (by simp; omega), List.take_of_length_le (by simp; omega)]
theorem splice_take0 {α : Type} (L : List α) (off : Nat) (cs : List α) (h : off ≤ L.length) : (splice L off cs).take off = L.take off := by
  unfold splice
  rw [List.take_append_of_le_length (by simp; omega), List.take_of_length_le (by simp; omega)]
theorem splice_ge {α : Type} (L : List α) (off : Nat) (cs : List α) (p : Nat) (h : off + cs.length ≤ L.length) (hp : off + cs.length ≤ p) : (splice L off cs)[p]? = L[p]? := by
  unfold splice
  rw [List.getElem?_append_right (by simp; omega), List.getElem?_append_right (by simp; omega), List.getElem?_drop]
  congr 1
  simp; omega
theorem flat2_take (l : List (Int × Int)) : ∀ i, flat2 (l.take i) = (flat2 l).take (i * 2) := by
  induction l with
  | nil => intro i; simp [flat2]
  | cons x l ih =>
    intro i
    cases i with
    | zero => simp [flat2]
    | succ i =>
      have e : flat2 (x :: l) = .int .i64 x.1 :: .int .i64 x.2 :: flat2 l := rfl
      rw [List.take_succ_cons, e, show (i + 1) * 2 = i * 2 + 1 + 1 by omega, List.take_succ_cons, List.take_succ_cons, ← ih]
      rfl
theorem flat2_drop (l : List (Int × Int)) : ∀ i, flat2 (l.drop i) = (flat2 l).drop (i * 2) := by
  induction l with
  | nil => intro i; simp [flat2]
  | cons x l ih =>
    intro i
    cases i with
    | zero => simp
    | succ i =>
      have e : flat2 (x :: l) = .int .i64 x.1 :: .int .i64 x.2 :: flat2 l := rfl
      rw [List.drop_succ_cons, e, show (i + 1) * 2 = i * 2 + 1 + 1 by omega, List.drop_succ_cons, List.drop_succ_cons, ← ih]

/-- 'append(s, make(S, k)...)' that grows. -/
theorem run_appendZ (w : World) (ty base g n cap k : Nat) (l : List (Int × Int)) (hown : Own2 w base 57 (.slice (some ⟨g, 0, none⟩) n cap) l) (hnl : n = l.length) (hgr : cap < n + k) (hk : n + k ≤ 1000000) :
    ∃ cap' C w', (Builtin.append_ #[58, 3] ty #[.slice (some ⟨g, 0, none⟩) n cap, .int .i64 (k : Int)]).run Try.prog w = .ok (.slice (some ⟨w.heap.size, 0, none⟩) (n + k) cap') w' ∧
      Row w' w.heap.size C ∧ C.size = cap' * 2 ∧ C.toList.take (n * 2) = flat2 l ∧ n + k ≤ cap' ∧ cap' ≤ maxLen ∧ Below w.heap.size w w' := by
  subst hnl
  obtain ⟨i, hi, hz, hi2, hi3⟩ := info_parts' info57
  have holds : ∀ j u, (flat2 l)[j]? = some u → w.cell? ((⟨g, 0, none⟩ : Addr).add j) = some u := World.ownsRow.cells hown (g := g) rfl
  have hn : ¬ (l.length + k ≤ cap) := by omega
  have h63' : ¬ (9223372036854775807 < ((l.length : Int) + (k : Int))) := by omega
  have hfit : Builtin.nextslicecap (l.length + k) cap * i.bytes ≤ 281474976710656 := growslice_fits (by omega) (by rw [hi3]; omega)
  have h48' : ¬ (281474976710656 < Builtin.nextslicecap (l.length + k) cap * i.bytes) := by omega
  have hfo := run_firstCells_some (P := Try.prog) w.drew 2 l.length ⟨g, 0, none⟩ l.length cap (flat2 l) (flat2_length l) (by simpa using holds)
  have hkw : IntKind.i64.wrap (k : Int) = k := by rw [IntKind.wrap_i64]; omega
  have hk0 : ¬ ((k : Int) < 0) := by omega
  have hk1 : ¬ (281474976710656 < (k : Int) * 16) := by omega
  have ha : ∀ W, (asInt (.int .i64 (k : Int))).run Try.prog W = .ok (k : Int) W := fun _ => rfl
  have hlc : l.length ≤ cap := by
    rcases hown.2 with ⟨h', _⟩ | ⟨g', cap', cur, h', _, _, h1, _⟩
    · simp at h'
    · simp only [Value.slice.injEq] at h'; omega
  have hk2 : ¬ (k = 0) := by omega
  have hge := grownCap_ge w (l.length + k) cap 57
  have hcm : grownCap w (l.length + k) cap 57 ≤ maxLen := grownCap_le_maxLen w (l.length + k) cap 57 (by unfold maxLen; omega)
  refine ⟨grownCap w (l.length + k) cap 57, (flat2 l).toArray ++ Builtin.zeroCells (Value.agg #[.int .i64 0, .int .i64 0]).cells k ++ Builtin.zeroCells (Value.agg #[.int .i64 0, .int .i64 0]).cells (grownCap w (l.length + k) cap 57 - (l.length + k)), w.drew.alloc (.cells ((flat2 l).toArray ++ Builtin.zeroCells (Value.agg #[.int .i64 0, .int .i64 0]).cells k ++ Builtin.zeroCells (Value.agg #[.int .i64 0, .int .i64 0]).cells (grownCap w (l.length + k) cap 57 - (l.length + k))) 57), ?_, heap_alloc_new w.drew _, ?_, ?_, hge, hcm, ((Below.refl _ w).drew).alloc (Nat.le_refl _) _⟩
  · rw [hi3] at h48'
    simp [Builtin.append_, run_underlying Try.underlying58, run_underlying Try.underlying3, sizeOf, typeInfo, zeroValue, hi, hz, hi2, hi3, hn, h63', h48', ha, hkw, hk0, hk1, Question.forced, hfo, newRow, grownCap]
    intro h; omega
  · simp [Builtin.zeroCells, Value.cells, flat2_length]; omega
  · simp [flat2_length]
end Go.Proofs.Ytcmibcmndiplbab
