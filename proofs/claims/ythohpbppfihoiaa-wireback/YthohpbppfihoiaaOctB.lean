/- Laws on slices of bytes over any program: what a slice reads, what an append leaves, what string(b) gives. -/
import Derived.WalkKit
import Derived.WalkSpells
import Derived.WalkLawsBesides
import Derived.Laws.AppendOwnNone
import Derived.Laws.BytesArg
import Derived.Laws.BitsAllLaws
namespace Go.Proofs.Ythohpbppfihoiaa.Oct
open Go.RowKit

theorem i64_or_nat (a b : Nat) (ha : a < 9223372036854775808) (hb : b < 9223372036854775808) : bits .or .i64 (a : Int) (b : Int) = ((a ||| b : Nat) : Int) := by
  have hx : a ||| b < 2 ^ 63 := Nat.or_lt_two_pow (by omega) (by omega)
  show IntKind.i64.wrap ((BitVec.ofInt 64 (a : Int) ||| BitVec.ofInt 64 (b : Int)).toNat : Int) = _
  rw [BitVec.toNat_or, ofInt_u64 a (by omega), ofInt_u64 b (by omega), IntKind.wrap_i64]
  omega

/-- Two numbers that share no bit are joined by their sum. -/
theorem i64_join (j m : Nat) (y : Int) (hj : j ≤ 7) (hm : m < 128 ^ j) (h0 : 0 ≤ y) (h1 : y < 128) : bits .or .i64 (m : Int) (wrap64 (y * 2 ^ (7 * j))) = ((m + y.toNat * 128 ^ j : Nat) : Int) := by
  obtain ⟨Y, rfl⟩ := Int.eq_ofNat_of_zero_le h0
  have hp : 128 ^ j ≤ 562949953421312 := by
    have := Nat.pow_le_pow_right (n := 128) (by decide) hj
    simpa using this
  have e2 : (2 : Nat) ^ (7 * j) = 128 ^ j := by rw [Nat.pow_mul]
  have hb : Y * 128 ^ j ≤ 127 * 562949953421312 := Nat.mul_le_mul (by omega) hp
  have e1 : (Y : Int) * 2 ^ (7 * j) = ((Y * 128 ^ j : Nat) : Int) := by rw [← e2]; simp
  rw [e1, IntWalk.wrap64_in _ ⟨by omega, by omega⟩, i64_or_nat _ _ (by omega) (by omega)]
  have e3 : m ||| Y * 128 ^ j = m + Y * 128 ^ j := by
    rw [Nat.or_comm, Nat.add_comm]
    exact nat_join (7 * j) _ _ (by rw [e2]; exact Nat.mul_mod_left _ _) (by rw [e2]; exact hm)
  rw [e3]; simp

/-- The types '[]byte' and 'byte' of a program. -/
structure ByteT (P : Program) (t e : TypeId) : Prop where
  ht : P.underlying t = some (.slice e)
  he : P.underlying e = some (.int .u8)
  info : (P.info? e).map (fun i => (i.zero, i.size, i.bytes)) = some (some (.int .u8 0), 1, 1)

/-- The value v is a slice that reads the numbers bs. -/
def Bs (w : World) (v : Value) (bs : List Int) : Prop :=
  ∃ a cap, v = .slice a bs.length cap ∧ bs.length ≤ cap ∧ cap ≤ maxLen ∧ (a = none → cap = 0) ∧ ∀ x, a = some x → ∀ i, i < bs.length → w.cell? (x.add i) = some (.int .u8 (bs.getD i 0))

/-- The call owns v, from block 'base' on, and v reads xs. -/
def OwnB (w : World) (base : Nat) (e : TypeId) (v : Value) (xs : List Int) : Prop := w.ownsRow base e 1 v xs.length (xs.map (Value.int .u8))

theorem Bs.nil (w : World) : Bs w (.slice none 0 0) [] := ⟨none, 0, rfl, Nat.le_refl _, Nat.zero_le _, fun _ => rfl, fun x h => by cases h⟩

theorem add_plain (b off i : Nat) : (⟨b, off, none⟩ : Addr).add i = ⟨b, off + i, none⟩ := by unfold Addr.add; split <;> simp_all

/-- Either it is empty, or it lies at a plain place. -/
theorem Bs.cases {w : World} {v : Value} {bs : List Int} (h : Bs w v bs) :
    (bs = [] ∧ ∃ a cap, v = .slice a 0 cap ∧ cap ≤ maxLen ∧ (a = none → cap = 0)) ∨
    (bs ≠ [] ∧ ∃ b off cap, v = .slice (some ⟨b, off, none⟩) bs.length cap ∧ bs.length ≤ cap ∧ cap ≤ maxLen ∧ b < w.heap.size ∧ ∀ i, i < bs.length → w.cell? ⟨b, off + i, none⟩ = some (.int .u8 (bs.getD i 0))) := by
  obtain ⟨a, cap, rfl, hl, hm, hn, hc⟩ := h
  by_cases hb : bs = []
  · subst hb; exact .inl ⟨rfl, a, cap, rfl, hm, hn⟩
  · have hp : 0 < bs.length := List.length_pos_iff.2 hb
    cases a with
    | none => have := hn rfl; omega
    | some x =>
      obtain ⟨b, off, spot⟩ := x
      have h0 := hc _ rfl 0 hp
      have hs : spot = none := by simpa [Addr.add] using World.cell?_spot h0
      subst hs
      refine .inr ⟨hb, b, off, cap, rfl, hl, hm, ?_, fun i hi => by rw [← add_plain]; exact hc _ rfl i hi⟩
      simpa [Addr.add] using World.block_lt_of_cell? w _ h0

theorem Bs.len {w : World} {v : Value} {bs : List Int} (h : Bs w v bs) : bs.length ≤ maxLen := by
  obtain ⟨a, cap, rfl, hl, hm, hn, hc⟩ := h; omega

/-- What a world further on still reads. -/
theorem Bs.below {w w' : World} {v : Value} {bs : List Int} (h : Bs w v bs) (hb : Below w.heap.size w w') : Bs w' v bs := by
  obtain ⟨a, cap, rfl, hl, hm, hn, hc⟩ := h
  exact ⟨a, cap, rfl, hl, hm, hn, fun x hx i hi => (hb.cell (World.block_lt_of_cell? _ _ (hc x hx i hi))).trans (hc x hx i hi)⟩

theorem Bs.alloc {w : World} {v : Value} {bs : List Int} (h : Bs w v bs) (o : Obj) : Bs (w.alloc o) v bs := h.below ((Below.refl _ _).alloc (Nat.le_refl _) _)

/-- What is owned is read. -/
theorem OwnB.bs {w : World} {base : Nat} {e : TypeId} {v : Value} {bs : List Int} (h : OwnB w base e v bs) : Bs w v bs := by
  obtain ⟨_, h⟩ := h
  rcases h with ⟨rfl, h0⟩ | ⟨g, cap, cur, rfl, hb, hh, hc, hm, hcs, ht⟩
  · rw [List.length_eq_zero_iff.1 h0]; exact Bs.nil w
  · refine ⟨_, _, rfl, hc, hm, by simp, fun x hx i hi => ?_⟩
    cases hx
    have e1 : (⟨g, 0, none⟩ : Addr).add i = ⟨g, i, none⟩ := by rw [add_plain]; simp
    have e2 : (cur.toList.take (bs.length * 1))[i]? = (bs.map (Value.int .u8))[i]? := by rw [ht]
    rw [List.getElem?_take, if_pos (by omega)] at e2
    rw [e1]
    simp [World.cell?, hh, List.getD_eq_getElem?_getD, List.getElem?_eq_getElem hi] at e2 ⊢
    exact e2

theorem OwnB.nil (w : World) (base : Nat) (e : TypeId) : OwnB w base e (.slice none 0 0) [] := World.ownsRow_nil _ _ _ _

theorem OwnB.alloc {w : World} {base : Nat} {e : TypeId} {v : Value} {bs : List Int} (h : OwnB w base e v bs) (o : Obj) : OwnB (w.alloc o) base e v bs := World.ownsRow.alloc h o

/-- What is owned stays owned where nothing below the heap's end has turned. -/
theorem OwnB.below {w w' : World} {base : Nat} {e : TypeId} {v : Value} {bs : List Int} (h : OwnB w base e v bs) (hb : Below w.heap.size w w') : OwnB w' base e v bs := by
  refine ⟨h.1, ?_⟩
  rcases h.2 with hn | ⟨g, cap, cur, rfl, hb', hh, r⟩
  · exact .inl hn
  · exact .inr ⟨g, cap, cur, rfl, hb', by rw [hb.block g (Array.getElem?_eq_some_iff.1 hh).1]; exact hh, r⟩

theorem OwnB.mono {w : World} {base base' : Nat} {e : TypeId} {v : Value} {bs : List Int} (h : OwnB w base e v bs) (hb : base' ≤ base) : OwnB w base' e v bs := by
  refine ⟨h.1, ?_⟩
  rcases h.2 with hn | ⟨g, cap, cur, rfl, hb', r⟩
  · exact .inl hn
  · exact .inr ⟨g, cap, cur, rfl, by omega, r⟩

/-- A literal '[]byte{..}' just laid. -/
theorem own_lit (w : World) (e base : Nat) (bs : List Int) (cs : Array Value) (hcs : cs.toList = bs.map (Value.int .u8)) (hb : base ≤ w.heap.size) (hm : bs.length ≤ maxLen) :
    OwnB (w.alloc (.cells cs e)) base e (.slice (some ⟨w.heap.size, 0, none⟩) bs.length bs.length) bs := by
  have hsz : cs.size = bs.length := by rw [← Array.length_toList, hcs, List.length_map]
  refine ⟨by simp, .inr ⟨w.heap.size, bs.length, cs, rfl, hb, heap_alloc_new w _, Nat.le_refl _, hm, by omega, ?_⟩⟩
  rw [hcs, List.take_of_length_le (by simp)]

section
variable {P : Program} {t e : TypeId} {w : World} {ops : Array Oper} {rest : List Oper} {o : Oper} {a : Act} {Q : Exit → Act → World → Prop}

theorem own_block_ge {base : Nat} {v : Value} {n : Nat} {xs : List Value} (h : w.ownsRow base e 1 v n xs) : ∀ k, v.ownBlock = some k → base ≤ k := fun k hk => (h.lt k hk).1

/-- 'append(v, y)' of one byte, v the call's own. -/
theorem wp_app1 (B : ByteT P t e) {y : Int} (hgd : o.guard = none) (s x : Operand)
    (ho : o.op = .call { callee := .builtin .append, args := #[s, x], argTypes := #[t, t] })
    {base : Nat} {v : Value} {xs : List Int} (hs : a.eval s = v) (hown : OwnB w base e v xs)
    (hx : a.eval x = .slice (some ⟨w.heap.size, 0, none⟩) 1 1) (hlen : xs.length ≤ 140737488351232) (hbase : base ≤ w.heap.size)
    (h : ∀ v' w', OwnB w' base e v' (xs ++ [y]) → Below base w w' → wpList P ops Q rest (a.put o.dst v') w') :
    wpList P ops Q (o :: rest) a (w.alloc (.cells #[.int .u8 y] e)) := by
  obtain ⟨i0, hi, hz0, hz1, hz2⟩ := info_parts B.info
  refine wpList_append_own _ hgd s x t ho base e i0 (.int .u8 0) 1 1 B.ht hi hz0 hz1 hz2 rfl (by decide) v xs.length _ hs (World.ownsRow.alloc hown _) ⟨w.heap.size, 0, none⟩ 1 1 [.int .u8 y] hx rfl ?_ ?_ ?_ ?_ ?_ ?_
  · intro j u hj
    match j, hj with
    | 0, hj => simp at hj; subst hj; simp [Addr.add]
  · intro u hu; simp at hu; subst hu; rfl
  · unfold maxLen; omega
  · omega
  · simp; omega
  · intro v' w' h1 h2 _
    refine h v' w' (by unfold OwnB; simpa using h1) ?_
    exact ((Below.refl base w).alloc hbase _).grown h2 (by simp; omega) (own_block_ge hown)

/-- 'append(v, src...)', v the call's own. -/
theorem wp_appS (B : ByteT P t e) (hgd : o.guard = none) (s x : Operand)
    (ho : o.op = .call { callee := .builtin .append, args := #[s, x], argTypes := #[t, t] })
    {base : Nat} {v u : Value} {xs ys : List Int} (hs : a.eval s = v) (hown : OwnB w base e v xs)
    (hx : a.eval x = u) (hu : Bs w u ys) (hlen : xs.length + ys.length ≤ 140737488355328) (hbase : base ≤ w.heap.size)
    (h : ∀ v' w', OwnB w' base e v' (xs ++ ys) → Below base w w' → wpList P ops Q rest (a.put o.dst v') w') :
    wpList P ops Q (o :: rest) a w := by
  obtain ⟨i0, hi, hz0, hz1, hz2⟩ := info_parts B.info
  obtain ⟨ao, cap, rfl, hl, hm, hn, hc⟩ := hu
  cases ao with
  | none =>
    have hcap := hn rfl
    subst hcap
    have hy : ys = [] := List.length_eq_zero_iff.1 (by omega)
    subst hy
    exact wpList_append_own_none hgd s x t ho base e i0 1 B.ht hi v xs.length _ hs hown hx (h v w (by simpa [OwnB] using hown) (Below.refl _ _))
  | some ad =>
    refine wpList_append_own _ hgd s x t ho base e i0 (.int .u8 0) 1 1 B.ht hi hz0 hz1 hz2 rfl (by decide) v xs.length _ hs hown ad ys.length cap (ys.map (Value.int .u8)) hx (by simp) ?_ ?_ ?_ ?_ hbase ?_
    · intro j u hj
      have hjl : j < ys.length := by
        rcases Nat.lt_or_ge j ys.length with h | h
        · exact h
        · simp [List.getElem?_eq_none (show (ys.map (Value.int .u8)).length ≤ j by simpa using h)] at hj
      rw [hc ad rfl j hjl]
      simp [List.getElem?_eq_getElem hjl] at hj
      subst hj
      simp [List.getD, List.getElem?_eq_getElem hjl]
    · intro u hu; simp at hu; obtain ⟨z, _, rfl⟩ := hu; rfl
    · unfold maxLen; omega
    · omega
    · intro v' w' h1 h2 _
      refine h v' w' (by unfold OwnB; simpa using h1) ?_
      exact (Below.refl base w).grown h2 hbase (own_block_ge hown)

/-- 'make([]byte, n)'. -/
theorem wp_makeB (B : ByteT P t e) (hg : o.guard = none) (l c : Operand) (hop : o.op = Op.makeSlice t l c) {base : Nat} {kl kc : IntKind} {L C : Int} (n : Nat) (hl : a.eval l = .int kl L) (hc : a.eval c = .int kc C) (hL : L = (n : Int)) (hC : C = (n : Int))
    (hn : n ≤ 140737488355328) (hbase : base ≤ w.heap.size)
    (h : ∀ w', OwnB w' base e (.slice (some ⟨w.heap.size, 0, none⟩) n n) (List.replicate n 0) → Below base w w' → wpList P ops Q rest (a.put o.dst (.slice (some ⟨w.heap.size, 0, none⟩) n n)) w') :
    wpList P ops Q (o :: rest) a w := by
  obtain ⟨i0, hi, hz0, hz1, hz2⟩ := info_parts B.info
  refine wpList_make_full w hg l c t hop base e i0 (.int .u8 0) 1 B.ht hi hz0 hz1 kl kc L C n hl hc hL hC (by rw [hz2]; omega) (by unfold maxLen; omega) hbase fun w' h1 h2 => h w' ?_ ((Below.refl base w).grown h2 hbase (by simp))
  have e1 : (madeCells (Value.int IntKind.u8 0).cells (n * 1)).toList = List.replicate n (Value.int .u8 0) := by rw [Nat.mul_one]; exact toList_madeCells_one _ _
  rw [e1] at h1
  unfold OwnB
  simpa using h1

theorem OwnB.len {base g n cap : Nat} {xs : List Int} (h : OwnB w base e (.slice (some ⟨g, 0, none⟩) n cap) xs) : n = xs.length := by
  rcases h.2 with ⟨h', _⟩ | ⟨g', cap', cur, h', _⟩
  · simp at h'
  · simp only [Value.slice.injEq] at h'; exact h'.2.1

theorem OwnB.cellAt {base g n cap : Nat} {xs : List Int} (h : OwnB w base e (.slice (some ⟨g, 0, none⟩) n cap) xs) (j : Nat) (hj : j < xs.length) : w.cell? ⟨g, j, none⟩ = some (.int .u8 (xs.getD j 0)) := by
  have hn := h.len
  subst hn
  have := World.ownsRow.cellAt h j (by omega)
  rw [this]
  simp [List.getElem?_eq_getElem hj]

theorem OwnB.frozenAt {base g n cap : Nat} {xs : List Int} (h : OwnB w base e (.slice (some ⟨g, 0, none⟩) n cap) xs) (j : Nat) : w.frozen? ⟨g, j, none⟩ = false := by
  have hn := h.len
  subst hn
  exact World.ownsRow.frozenAt h j

theorem OwnB.stored {base g n cap : Nat} {xs : List Int} (h : OwnB w base e (.slice (some ⟨g, 0, none⟩) n cap) xs) (hg : base ≤ g) (j : Nat) (y : Int) :
    OwnB (w.setCell ⟨g, j, none⟩ (.int .u8 y)) base e (.slice (some ⟨g, 0, none⟩) n cap) (xs.set j y) ∧ Below base w (w.setCell ⟨g, j, none⟩ (.int .u8 y)) := by
  have hn := h.len
  subst hn
  refine ⟨?_, (Below.refl _ _).setCell hg _⟩
  have := (World.ownsRow.stored h j (.int .u8 y)).1
  unfold OwnB
  simpa [List.map_set] using this

/-- 'string(b)'. -/
theorem run_str (B : ByteT P t e) {v : Value} {bs : List Int} (h : Bs w v bs) (dst : TypeId) (hd : P.underlying dst = some .string) :
    (convert t dst v).run P w = .ok (.string (strOfNums bs)) w := by
  rcases h.cases with ⟨rfl, a, cap, rfl, hm, hn⟩ | ⟨hb, b, off, cap, rfl, hl, hm, _, hc⟩
  · cases a with
    | none => rw [run_convert_bytes_nil w t e B.ht B.he 0 cap dst hd]; rfl
    | some x =>
      rw [run_convert_bytes_string w t dst e _ 0 cap B.ht B.he hd, run_bytesToString w x 0 cap [] (by simpa using run_loadCells_list (P := P) w x [] (by simp))]
      rfl
  · exact run_convert_bytes_arg w t e B.ht B.he b off bs.length cap bs rfl hc dst hd
end
end Go.Proofs.Ythohpbppfihoiaa.Oct
