/- Arrays of ints, of texts, are equal where their elements are. -/
import Derived.Test.YtfecngncapenjaaC11
namespace Go.Proofs.Ytfecngncapenjaa
open Go.RowKit

theorem size9 (w : World) : (sizeOf 9).run Try.prog w = .ok 1 w := by kernel_rfl
theorem part3 (w : World) {f : List Int} (hf : f.length = 256) (i : Nat) (h : i < 256) : (part 3 (ia f) (i * 1)).run Try.prog w = .ok (.int .i64 (f.getD i 0)) w := by
  unfold part
  simp [ia_get (show i < f.length by omega)]
theorem part9 (w : World) {f : List ByteArray} (hf : f.length = 256) (i : Nat) (h : i < 256) : (part 9 (sa f) (i * 1)).run Try.prog w = .ok (.string (f.getD i ByteArray.empty)) w := by
  unfold part
  simp [sa_get (show i < f.length by omega)]
theorem range256 : ∀ i ∈ List.range' 0 256, i < 256 := fun i hi => by
  have := List.mem_range'.1 hi
  omega
theorem all_beq {α : Type} [BEq α] [LawfulBEq α] {f g : List α} (d : α) (hf : f.length = 256) (hg : g.length = 256) : ((List.range' 0 256).all fun i => f.getD i d == g.getD i d) = (f == g) := by
  rw [Bool.eq_iff_iff, List.all_eq_true, beq_iff_eq]
  constructor
  · intro h
    refine List.ext_getElem (by omega) fun i h1 h2 => ?_
    have := h i (List.mem_range'.2 ⟨i, by omega, by omega⟩)
    simpa [List.getD, List.getElem?_eq_getElem h1, List.getElem?_eq_getElem h2] using this
  · rintro rfl i _
    exact beq_self_eq_true _
theorem eq22 (w : World) {f g : List Int} (hf : f.length = 256) (hg : g.length = 256) (d : Nat) : (Op.equalIn (d + 2) 22 (.agg (ia f)) (.agg (ia g))).run Try.prog w = .ok (f == g) w := by
  rw [← all_beq (0 : Int) hf hg, Op.equalIn]
  simp only [Sem.run_bind, run_underlying Try.underlying22, Result.andThen_ok, size3]
  rw [Std.Legacy.Range.forIn_eq_forIn_range']
  have hl := range256
  show _ = _
  have : List.range' (Std.Legacy.Range.mk 0 256 1 (by decide)).start (Std.Legacy.Range.mk 0 256 1 (by decide)).size (Std.Legacy.Range.mk 0 256 1 (by decide)).step = List.range' 0 256 := by rfl
  rw [this]
  generalize List.range' 0 256 = l at hl
  clear this
  induction l with
  | nil => simp
  | cons i l ih =>
    have hi := hl i (by simp)
    simp only [List.forIn_cons, Sem.run_bind, part3 w hf i hi, part3 w hg i hi, Result.andThen_ok, run_equalIn_int w d 3 .i64 .i64 _ _ Try.underlying3, List.all_cons]
    cases hfg : (f.getD i 0 == g.getD i 0)
    · simp
    · simp only [Bool.not_true, Bool.false_eq_true, if_false, Sem.run_pure, Result.andThen_ok, Bool.true_and]
      exact ih (fun j hj => hl j (by simp [hj]))
theorem toList_beq (a b : ByteArray) : (a.toList == b.toList) = decide (a = b) := by
  by_cases h : a = b
  · subst h; rw [decide_eq_true rfl]; exact beq_self_eq_true _
  · rw [decide_eq_false h]
    refine beq_false_of_ne fun e => h ?_
    have h1 : (a.toList == b.toList) = true := by rw [e]; exact beq_self_eq_true _
    rw [← beq_toListBytes] at h1
    cases a with | mk x => cases b with | mk y =>
    have h2 : (x == y) = true := h1
    rw [eq_of_beq h2]
theorem all_dec {f g : List ByteArray} (hf : f.length = 256) (hg : g.length = 256) : ((List.range' 0 256).all fun i => decide (f.getD i ByteArray.empty = g.getD i ByteArray.empty)) = decide (f = g) := by
  rw [Bool.eq_iff_iff, List.all_eq_true, decide_eq_true_eq]
  constructor
  · intro h
    refine List.ext_getElem (by omega) fun i h1 h2 => ?_
    have := of_decide_eq_true (h i (List.mem_range'.2 ⟨i, by omega, by omega⟩))
    simpa [List.getD, List.getElem?_eq_getElem h1, List.getElem?_eq_getElem h2] using this
  · rintro rfl i _
    exact decide_eq_true rfl
theorem eq28 (w : World) {f g : List ByteArray} (hf : f.length = 256) (hg : g.length = 256) (d : Nat) : (Op.equalIn (d + 2) 28 (.agg (sa f)) (.agg (sa g))).run Try.prog w = .ok (decide (f = g)) w := by
  rw [← all_dec hf hg, Op.equalIn]
  simp only [Sem.run_bind, run_underlying Try.underlying28, Result.andThen_ok, size9]
  rw [Std.Legacy.Range.forIn_eq_forIn_range']
  have hl := range256
  show _ = _
  have : List.range' (Std.Legacy.Range.mk 0 256 1 (by decide)).start (Std.Legacy.Range.mk 0 256 1 (by decide)).size (Std.Legacy.Range.mk 0 256 1 (by decide)).step = List.range' 0 256 := by rfl
  rw [this]
  generalize List.range' 0 256 = l at hl
  clear this
  induction l with
  | nil => simp
  | cons i l ih =>
    have hi := hl i (by simp)
    simp only [List.forIn_cons, Sem.run_bind, part9 w hf i hi, part9 w hg i hi, Result.andThen_ok, run_equalIn_string w d 9 _ _ Try.underlying9, List.all_cons, toList_beq]
    cases hfg : decide (f.getD i ByteArray.empty = g.getD i ByteArray.empty)
    · simp
    · simp only [Bool.not_true, Bool.false_eq_true, if_false, Sem.run_pure, Result.andThen_ok, Bool.true_and]
      exact ih (fun j hj => hl j (by simp [hj]))
end Go.Proofs.Ytfecngncapenjaa
