/- The words of lengths: Words. -/
import Derived.Test.YtfecngncapenjaaGc
import Derived.Test.YtfecngncapenjaaHf2
import Derived.Test.YtfecngncapenjaaWd
namespace Go.Proofs.Ytfecngncapenjaa
open Go.RowKit Oct Hf

/-- A byte's length, as a number. -/
def ln (f : List Int) (i : Nat) : Nat := (f.getD i 0).toNat
/-- Is a byte's word told ahead of this place? -/
def bef (f : List Int) (l c i : Nat) : Bool := decide (1 ≤ ln f i ∧ ln f i < l) || decide (ln f i = l ∧ i < c)
/-- What the words ahead take of 2^60. -/
def ps (f : List Int) (l c : Nat) : Nat := sm (fun i => if bef f l c i then 2 ^ (60 - ln f i) else 0) 256
theorem sm_point {f g : Nat → Nat} {c : Nat} : ∀ n, c < n → (∀ i, i < n → i ≠ c → f i = g i) → sm g n + f c = sm f n + g c
  | 0, h, _ => absurd h (Nat.not_lt_zero c)
  | n + 1, h, he => by
    rw [sm, sm]
    by_cases e : c = n
    · subst e
      rw [sm_congr c (f := g) (g := f) (fun i hi => (he i (by omega) (by omega)).symm)]
      omega
    · have := sm_point n (by omega) (fun i hi hn => he i (by omega) hn)
      rw [he n (by omega) (fun e' => e e'.symm)]
      omega
theorem bef_other {f : List Int} {l c i : Nat} (h : i ≠ c) : bef f l (c + 1) i = bef f l c i := by
  unfold bef
  rw [show decide (ln f i = l ∧ i < c + 1) = decide (ln f i = l ∧ i < c) from decide_eq_decide.2 ⟨fun h' => ⟨h'.1, by omega⟩, fun h' => ⟨h'.1, by omega⟩⟩]
theorem bef_not {f : List Int} {l c : Nat} (h : ln f c ≠ l) : bef f l (c + 1) c = bef f l c c := by
  unfold bef
  rw [show decide (ln f c = l ∧ c < c + 1) = decide (ln f c = l ∧ c < c) from decide_eq_decide.2 ⟨fun h' => absurd h'.1 h, fun h' => absurd h'.1 h⟩]
theorem bef_now {f : List Int} {l c : Nat} (h : ln f c = l) : bef f l (c + 1) c = true ∧ bef f l c c = false := by
  unfold bef
  constructor
  · rw [show decide (ln f c = l ∧ c < c + 1) = true from decide_eq_true ⟨h, by omega⟩, Bool.or_true]
  · rw [show decide (ln f c = l ∧ c < c) = false from decide_eq_false (fun h' => absurd h'.2 (Nat.lt_irrefl c)), show decide (1 ≤ ln f c ∧ ln f c < l) = false from decide_eq_false (by omega)]; rfl
theorem bef_end {f : List Int} {l i : Nat} (hl : 1 ≤ l) (hi : i < 256) : bef f (l + 1) 0 i = bef f l 256 i := by
  unfold bef
  rw [← Bool.decide_or, ← Bool.decide_or]
  exact decide_eq_decide.2 (by omega)
theorem ps_skip {f : List Int} {l c : Nat} (h : ln f c ≠ l) : ps f l (c + 1) = ps f l c := by
  unfold ps
  refine sm_congr 256 fun i _ => ?_
  by_cases e : i = c
  · subst e; rw [bef_not h]
  · rw [bef_other e]
theorem ps_take {f : List Int} {l c : Nat} (hc : c < 256) (h : ln f c = l) : ps f l (c + 1) = ps f l c + 2 ^ (60 - l) := by
  unfold ps
  have := sm_point (f := fun i => if bef f l c i then 2 ^ (60 - ln f i) else 0) (g := fun i => if bef f l (c + 1) i then 2 ^ (60 - ln f i) else 0) 256 hc (fun i _ hi => by simp only [bef_other hi])
  simp only [(bef_now h).1, (bef_now h).2, if_true, Bool.false_eq_true, if_false, h] at this
  omega
theorem ps_end {f : List Int} {l : Nat} (hl : 1 ≤ l) : ps f (l + 1) 0 = ps f l 256 := by
  unfold ps
  exact sm_congr 256 fun i hi => by rw [bef_end hl hi]
theorem ps_zero (f : List Int) : ps f 1 0 = 0 := by
  unfold ps
  rw [sm_congr (g := fun _ => 0) 256 (fun i _ => ?_), sm_zero]
  have : bef f 1 0 i = false := by
    unfold bef
    rw [decide_eq_false (by omega), decide_eq_false (by omega)]; rfl
  rw [this]; rfl
theorem krs_sm (f : List Int) : ∀ k, k ≤ f.length → krs (f.take k) = sm (fun i => if f.getD i 0 = 0 then 0 else 2 ^ (60 - (f.getD i 0).toNat)) k
  | 0, _ => by simp [krs, sm]
  | k + 1, h => by rw [krs_take f (by omega), krs_sm f k (by omega), sm]
theorem ps_le {f : List Int} (hf : f.length = 256) (l c : Nat) (hl : 1 ≤ l) : ps f l c ≤ krs f := by
  have h := krs_sm f 256 (by omega)
  rw [List.take_of_length_le (by omega)] at h
  rw [h]
  refine sm_le 256 fun i _ => ?_
  by_cases hb : bef f l c i = true
  · rw [if_pos hb]
    have : ¬ f.getD i 0 = 0 := fun e => by
      unfold bef ln at hb
      rw [e] at hb
      simp at hb
      omega
    rw [if_neg this]
    exact Nat.le_refl _
  · rw [if_neg hb]
    exact Nat.zero_le _
/-- A byte's word, as a number; as a text. -/
def wv (f : List Int) (i : Nat) : Nat := ps f (ln f i) i / 2 ^ (60 - ln f i)
def wb (f : List Int) (i : Nat) : ByteArray := strOfNums (wds (wv f i) (ln f i) (ln f i))
/-- The words that are told ahead of a place. -/
def wls (f : List Int) (l c : Nat) : List ByteArray := (List.range 256).map fun i => if bef f l c i then wb f i else ByteArray.empty
theorem wls_len (f : List Int) (l c : Nat) : (wls f l c).length = 256 := by simp [wls]
theorem wls_get (f : List Int) (l c i : Nat) (hi : i < 256) : (wls f l c).getD i ByteArray.empty = if bef f l c i then wb f i else ByteArray.empty := by
  simp [wls, List.getD, hi]
theorem wls_ext {f : List Int} {l c l' c' : Nat} (h : ∀ i, i < 256 → bef f l c i = bef f l' c' i) : wls f l c = wls f l' c' := by
  unfold wls
  exact List.map_congr_left fun i hi => by rw [h i (List.mem_range.1 hi)]
theorem wls_skip {f : List Int} {l c : Nat} (h : ln f c ≠ l) : wls f l (c + 1) = wls f l c := wls_ext fun i _ => by
  by_cases e : i = c
  · subst e; exact bef_not h
  · exact bef_other e
theorem wls_end {f : List Int} {l : Nat} (hl : 1 ≤ l) : wls f (l + 1) 0 = wls f l 256 := wls_ext fun _ hi => bef_end hl hi
theorem wls_take {f : List Int} {l c : Nat} (_hc : c < 256) (h : ln f c = l) : (wls f l c).set c (wb f c) = wls f l (c + 1) := by
  refine List.ext_getElem (by rw [List.length_set, wls_len, wls_len]) fun i h1 h2 => ?_
  rw [List.length_set, wls_len] at h1
  have e1 := wls_get f l c i h1
  have e2 := wls_get f l (c + 1) i h1
  simp only [List.getD, List.getElem?_eq_getElem (show i < (wls f l c).length by rw [wls_len]; exact h1), List.getElem?_eq_getElem h2, Option.getD_some] at e1 e2
  rw [List.getElem_set]
  by_cases e : c = i
  · subst e
    rw [if_pos rfl, e2, (bef_now h).1]; rfl
  · rw [if_neg e, e1, e2, bef_other (fun e' => e e'.symm)]
/-- 256 empty texts. -/
@[irreducible] def e0 : List ByteArray := List.replicate 256 ByteArray.empty
theorem e0_len : e0.length = 256 := by unfold e0; exact List.length_replicate
theorem wls_zero (f : List Int) : wls f 1 0 = e0 := by
  refine List.ext_getElem (by rw [wls_len, e0_len]) fun i h1 h2 => ?_
  rw [wls_len] at h1
  have e1 := wls_get f 1 0 i h1
  simp only [List.getD, List.getElem?_eq_getElem (show i < (wls f 1 0).length by rw [wls_len]; exact h1), Option.getD_some] at e1
  have : bef f 1 0 i = false := by
    unfold bef
    rw [decide_eq_false (by omega), decide_eq_false (by omega)]; rfl
  rw [e1, this, if_neg (by decide)]
  have h3 : ∀ x ∈ e0, x = ByteArray.empty := fun x hx => by unfold e0 at hx; exact List.eq_of_mem_replicate hx
  exact (h3 _ (List.getElem_mem h2)).symm
/-- All words. -/
def ws (f : List Int) : List ByteArray := wls f 61 0
theorem zero28 : (Try.prog.info? 28).bind (·.zero) = some (.agg (sa e0)) := by kernel_rfl
theorem built28 : Try.prog.built 28 [] = some (sa e0) := by kernel_rfl
theorem run_new28 (w : World) : (Instr.alloc 28 true (.tuple #[])).run Try.prog w = .ok (.pointer (some ⟨w.heap.size, 0, none⟩)) (w.alloc (.cells (sa e0) 28)) := by
  have h := zero28
  cases hi : Try.prog.info? 28 with
  | none => rw [hi] at h; simp at h
  | some it =>
    rw [hi] at h
    simp only [Option.bind_some] at h
    simp [Instr.alloc, zeroValue, typeInfo, hi, h, newVar, newRow, Value.cells]
theorem sa_set (f : List ByteArray) (i : Nat) (v : ByteArray) (_hi : i < f.length) : (sa f).set! i (.string v) = sa (f.set i v) := by
  unfold sa
  rw [List.map_set]
  simp
theorem sa_one (f : List ByteArray) : (sa f).all (·.oneCell') = true := by
  unfold sa
  simp [Value.oneCell']
theorem info28f {f : List ByteArray} (hf : f.length = 256) : (Try.prog.info? 28).map (·.size) = some (sa f).size := by rw [sa_size, hf]; exact info28
theorem load28 {w : World} {b : Nat} {f : List ByteArray} {fr : Nat × Nat} (hf : f.length = 256) (h : w.heap[b]? = some (.cells (sa f) 28 fr)) : (loadVar 28 ⟨b, 0, none⟩).run Try.prog w = .ok (.agg (sa f)) w :=
  run_loadA 28 w b (sa f) 28 fr _ h Try.underlying28 rfl (info28f hf)
section
variable {ops : Array Oper} {rest : List Oper} {o : Oper} {a : Act} {w : World} {Q : Exit → Act → World → Prop}
theorem wp_new28 (hgd : o.guard = none) (ho : o.op = .alloc 28)
    (h : wpList Try.prog ops Q rest (a.put o.dst (.pointer (some ⟨w.heap.size, 0, none⟩))) (w.alloc (.cells (sa e0) 28))) : wpList Try.prog ops Q (o :: rest) a w := by
  refine wpList_plain hgd fun K hK => ?_
  unfold Oper.wp execOp
  simp only [ho, run_new28, Sem.run_bind, Sem.run_pure, Result.andThen_ok]
  exact hK _ _ h
theorem wp_zero28 (hgd : o.guard = none) (ho : o.op = .build 28 #[])
    (h : wpList Try.prog ops Q rest (a.put o.dst (.agg (sa e0))) w) : wpList Try.prog ops Q (o :: rest) a w := by
  have e : ((#[] : Array (Nat × Operand)).map fun (i, x) => (i, a.eval x)).toList = [] := by simp
  refine wpList_build hgd 28 #[] ho (by rw [e, built28]; rfl) ?_
  rw [e, built28]
  exact h
theorem wp_put28 {f g : List ByteArray} {b : Nat} (hgd : o.guard = none) (x y : Operand) (ho : o.op = .store 28 x y) (hx : a.eval x = .pointer (some ⟨b, 0, none⟩)) (hy : a.eval y = .agg (sa g)) (hf : f.length = 256) (hgl : g.length = 256) (hb : w.heap[b]? = some (.cells (sa f) 28 (0, 0)))
    (h : wpList Try.prog ops Q rest (a.put o.dst undef) (w.setRow b (sa g))) : wpList Try.prog ops Q (o :: rest) a w :=
  wpList_store_row hgd 28 x y ho b (sa g) hx hy 28 (sa f) hb (info28f hgl) (by rw [sa_size, sa_size, hf, hgl]) (sa_one g) h
end
end Go.Proofs.Ytfecngncapenjaa
