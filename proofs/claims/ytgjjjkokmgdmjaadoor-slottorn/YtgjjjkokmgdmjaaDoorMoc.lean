/- Texts joined into one: OcPure, OcBase, OcW1, OcW2, OcW3, OcW4, OcW5, OcW6, OcW7, OcPure3, OcW8, OcW9, OcW10, OcW11, OcW12, OcW13, OcW14, OcW15. -/
import Derived.WalkKit
import Derived.WalkSpells
import Derived.WalkLawsBesides
import Derived.Laws.AppendOwnNone
import Derived.Laws.BytesArg
import Derived.Laws.BitsAllLaws
import Derived.Test.YtgjjjkokmgdmjaaDoorRows
import Derived.Outline
import Derived.BigQuiet
import Derived.Deep.QuietTactic
import Derived.Deep.RegionWith
/- Plain mathematics of layer 1: numbers in groups of seven bits, numbers of a fixed width. -/
namespace Go.Proofs.YtgjjjkokmgdmjaaDoor.Oc

/-- A number's bytes, the lowest seven bits first. -/
def numB (n : Nat) : List Int := if n < 128 then [(n : Int)] else ((n % 128 + 128 : Nat) : Int) :: numB (n / 128)
termination_by n
decreasing_by omega

theorem numB_small (n : Nat) (h : n < 128) : numB n = [(n : Int)] := by rw [numB]; simp [h]
theorem numB_big (n : Nat) (h : ¬ n < 128) : numB n = ((n % 128 + 128 : Nat) : Int) :: numB (n / 128) := by rw [numB]; simp [h]

theorem numB_length (k : Nat) : ∀ n : Nat, n < 128 ^ (k + 1) → (numB n).length ≤ k + 1 := by
  induction k with
  | zero => intro n h; rw [numB_small n (by simpa using h)]; simp
  | succ k ih =>
    intro n h
    by_cases hs : n < 128
    · rw [numB_small n hs]; simp
    · rw [numB_big n hs]
      have := ih (n / 128) (by rw [Nat.pow_succ] at h; exact Nat.div_lt_of_lt_mul (by omega))
      simp; omega

theorem numB_len8 (n : Nat) (h : n ≤ 9007199254740991) : (numB n).length ≤ 8 := numB_length 7 n (by omega)

theorem numB_pos (n : Nat) : 0 < (numB n).length := by rw [numB]; split <;> simp

theorem numB_byte (n : Nat) : ∀ x ∈ numB n, 0 ≤ x ∧ x < 256 := by
  induction n using numB.induct with
  | case1 n h => rw [numB_small n h]; intro x hx; simp at hx; omega
  | case2 n h ih => rw [numB_big n h]; intro x hx; simp at hx; rcases hx with hx | hx; · omega
                    · exact ih x hx

/-- The number that begins a list, behind j bytes that gave m: the number, how many bytes it has, and the error (3 short, 4 form, 6 limit). -/
def tkGo : Nat → Nat → List Int → Int × Int × Int
  | _, _, [] => (0, 0, 3)
  | j, m, x :: r => if j = 7 ∧ 15 < x then (0, 0, 6) else if 128 ≤ x then tkGo (j + 1) (m + (x % 128).toNat * 128 ^ j) r else if x = 0 ∧ 0 < j then (0, 0, 4) else (((m + x.toNat * 128 ^ j : Nat) : Int), (j : Int) + 1, 0)

theorem tkGo_lim (j m : Nat) (x : Int) (r : List Int) (h : j = 7 ∧ 15 < x) : tkGo j m (x :: r) = (0, 0, 6) := by simp [tkGo, h]
theorem tkGo_more (j m : Nat) (x : Int) (r : List Int) (h : j < 7) (hx : 128 ≤ x) : tkGo j m (x :: r) = tkGo (j + 1) (m + (x % 128).toNat * 128 ^ j) r := by
  rw [tkGo, if_neg (by omega), if_pos hx]
theorem tkGo_form (j m : Nat) (r : List Int) (h : 0 < j) : tkGo j m (0 :: r) = (0, 0, 4) := by
  rw [tkGo, if_neg (by omega), if_neg (by omega), if_pos (by omega)]
theorem tkGo_last (j m : Nat) (x : Int) (r : List Int) (h : ¬ (j = 7 ∧ 15 < x)) (hx : x < 128) (h0 : ¬ (x = 0 ∧ 0 < j)) : tkGo j m (x :: r) = (((m + x.toNat * 128 ^ j : Nat) : Int), (j : Int) + 1, 0) := by
  rw [tkGo, if_neg h, if_neg (by omega), if_neg h0]

/-- A number that was read from place k on: the place behind it is told where there is no error. -/
def fin (k : Int) (t : Int × Int × Int) : Int × Int × Int := (t.1, if t.2.2 = 0 then k + t.2.1 else 0, t.2.2)

/-- What TakeNum tells. -/
def tkNum (bs : List Int) (i : Int) : Int × Int × Int :=
  if 0 ≤ i ∧ i ≤ bs.length then fin i (tkGo 0 0 (bs.drop i.toNat)) else (0, 0, 2)

theorem tkNum_out (bs : List Int) (i : Int) (h : i < 0 ∨ (bs.length : Int) < i) : tkNum bs i = (0, 0, 2) := by unfold tkNum; rw [if_neg (by omega)]
theorem tkNum_in (bs : List Int) (k : Nat) (h : k ≤ bs.length) : tkNum bs k = fin k (tkGo 0 0 (bs.drop k)) := by unfold tkNum; rw [if_pos (by omega)]; simp
theorem tkNum_end (bs : List Int) (k : Nat) (h : k = bs.length) : tkNum bs k = (0, 0, 3) := by rw [tkNum_in bs k (by omega), List.drop_eq_nil_of_le (by omega)]; rfl

theorem drop_cons (bs : List Int) (k : Nat) (h : k < bs.length) : bs.drop k = bs.getD k 0 :: bs.drop (k + 1) := by
  rw [List.drop_eq_getElem_cons h, List.getD_eq_getElem?_getD, List.getElem?_eq_getElem h]; rfl

theorem pow_step {m j : Nat} {x : Int} (hm : m < 128 ^ j) (_h0 : 0 ≤ x) : m + (x % 128).toNat * 128 ^ j < 128 ^ (j + 1) := by
  have h1 : (x % 128).toNat ≤ 127 := by omega
  have h2 : (x % 128).toNat * 128 ^ j ≤ 127 * 128 ^ j := Nat.mul_le_mul_right _ h1
  rw [Nat.pow_succ]; omega

theorem pow_le7 (j : Nat) (h : j ≤ 7) : 128 ^ j ≤ 562949953421312 := by
  have := Nat.pow_le_pow_right (n := 128) (by decide) h
  simpa using this

/-- The lowest i bytes of a number, the highest first. -/
def fixB (n : Nat) : Nat → List Int
  | 0 => []
  | i + 1 => ((n / 256 ^ i % 256 : Nat) : Int) :: fixB n i

theorem fixB_length (n i : Nat) : (fixB n i).length = i := by induction i with | zero => rfl | succ i ih => simp [fixB, ih]

theorem fixB_byte (n i : Nat) : ∀ x ∈ fixB n i, 0 ≤ x ∧ x < 256 := by
  induction i with
  | zero => simp [fixB]
  | succ i ih => intro x hx; simp only [fixB, List.mem_cons] at hx; rcases hx with rfl | hx; · omega
                 · exact ih x hx

/-- One byte more is laid, from the end on. -/
theorem fix_step (n W i : Nat) (h : i < W) : (List.replicate (W - i) (0 : Int) ++ fixB n i).set (W - 1 - i) ((n / 256 ^ i % 256 : Nat) : Int) = List.replicate (W - (i + 1)) 0 ++ fixB n (i + 1) := by
  have e1 : W - i = (W - (i + 1)) + 1 := by omega
  have e2 : W - 1 - i = W - (i + 1) := by omega
  rw [e1, List.replicate_succ', e2, List.append_assoc, List.set_append_right _ _ (by simp)]
  simp [fixB]

/-- What TakeText tells. -/
def tkText (bs : List Int) (i most : Int) : List Int × Int × Int :=
  if (tkNum bs i).2.2 ≠ 0 then ([], 0, (tkNum bs i).2.2)
  else if most < (tkNum bs i).1 then ([], 0, 6)
  else if (bs.length : Int) - (tkNum bs i).2.1 < (tkNum bs i).1 then ([], 0, 3)
  else ((bs.drop (tkNum bs i).2.1.toNat).take (tkNum bs i).1.toNat, (tkNum bs i).2.1 + (tkNum bs i).1, 0)

theorem tkGo_ok (r : List Int) : ∀ (j m : Nat), j ≤ 7 → m < 128 ^ j → (∀ x ∈ r, 0 ≤ x ∧ x < 256) → (tkGo j m r).2.2 = 0 →
    0 ≤ (tkGo j m r).1 ∧ (tkGo j m r).1 ≤ 9007199254740991 ∧ (j : Int) < (tkGo j m r).2.1 ∧ (tkGo j m r).2.1 ≤ j + r.length := by
  induction r with
  | nil => intro j m _ _ _ h; simp [tkGo] at h
  | cons x r ih =>
    intro j m hj hm hb h
    have hx := hb x (by simp)
    by_cases h1 : j = 7 ∧ 15 < x
    · rw [tkGo_lim _ _ _ _ h1] at h; simp at h
    · by_cases h2 : 128 ≤ x
      · have h7 : j < 7 := by omega
        rw [tkGo_more _ _ _ _ h7 h2] at h ⊢
        have := ih (j + 1) _ (by omega) (pow_step hm hx.1) (fun y hy => hb y (by simp [hy])) h
        simp only [List.length_cons]
        omega
      · by_cases h3 : x = 0 ∧ 0 < j
        · rw [h3.1, tkGo_form _ _ _ h3.2] at h; simp at h
        · rw [tkGo_last _ _ _ _ h1 (by omega) h3]
          simp only [List.length_cons]
          have hp := pow_le7 j hj
          have hb : m + x.toNat * 128 ^ j ≤ 9007199254740991 := by
            by_cases h7 : j = 7
            · subst h7
              have : x.toNat * 128 ^ 7 ≤ 15 * 128 ^ 7 := Nat.mul_le_mul_right _ (by omega)
              omega
            · have hp6 : 128 ^ j ≤ 128 ^ 6 := Nat.pow_le_pow_right (by decide) (by omega)
              have : x.toNat * 128 ^ j ≤ 127 * 128 ^ 6 := Nat.mul_le_mul (by omega) hp6
              omega
          omega

/-- A number that was read ends within the bytes. -/
theorem tkNum_ok (bs : List Int) (i : Int) (hb : ∀ x ∈ bs, 0 ≤ x ∧ x < 256) (h : (tkNum bs i).2.2 = 0) :
    0 ≤ i ∧ 0 ≤ (tkNum bs i).1 ∧ (tkNum bs i).1 ≤ 9007199254740991 ∧ i < (tkNum bs i).2.1 ∧ (tkNum bs i).2.1 ≤ bs.length := by
  unfold tkNum at h ⊢
  by_cases hi : 0 ≤ i ∧ i ≤ bs.length
  · rw [if_pos hi] at h ⊢
    have h' : (tkGo 0 0 (bs.drop i.toNat)).2.2 = 0 := h
    have := tkGo_ok (bs.drop i.toNat) 0 0 (by omega) (by decide) (fun x hx => hb x (List.mem_of_mem_drop hx)) h'
    simp only [fin, h', if_true]
    rw [List.length_drop] at this
    omega
  · rw [if_neg hi] at h; simp at h
end Go.Proofs.YtgjjjkokmgdmjaaDoor.Oc

/- Laws on slices of bytes over any program: what a slice reads, what an append leaves, what string(b) gives. -/
namespace Go.Proofs.YtgjjjkokmgdmjaaDoor.Oc
open Go.RowKit

theorem i64_or_nat (a b : Nat) (ha : a < 9223372036854775808) (hb : b < 9223372036854775808) : bits .or .i64 (a : Int) (b : Int) = ((a ||| b : Nat) : Int) := by
  have hx : a ||| b < 2 ^ 63 := Nat.or_lt_two_pow (by omega) (by omega)
  show IntKind.i64.wrap ((BitVec.ofInt 64 (a : Int) ||| BitVec.ofInt 64 (b : Int)).toNat : Int) = _
  rw [BitVec.toNat_or, ofInt_u64 a (by omega), ofInt_u64 b (by omega), IntKind.wrap_i64]
  omega

/-- Two numbers that share no bit are joined by their sum. -/
theorem i64_join (j m : Nat) (y : Int) (hj : j ≤ 7) (hm : m < 128 ^ j) (h0 : 0 ≤ y) (h1 : y < 128) : bits .or .i64 (m : Int) (wrap64 (y * 2 ^ (7 * j))) = ((m + y.toNat * 128 ^ j : Nat) : Int) := by
  obtain ⟨Y, rfl⟩ := Int.eq_ofNat_of_zero_le h0
  have hp : 128 ^ j ≤ 562949953421312 := by
    have := Nat.pow_le_pow_right (n := 128) (by decide) hj
    simpa using this
  have e2 : (2 : Nat) ^ (7 * j) = 128 ^ j := by rw [Nat.pow_mul]
  have hb : Y * 128 ^ j ≤ 127 * 562949953421312 := Nat.mul_le_mul (by omega) hp
  have e1 : (Y : Int) * 2 ^ (7 * j) = ((Y * 128 ^ j : Nat) : Int) := by rw [← e2]; simp
  rw [e1, IntWalk.wrap64_in _ ⟨by omega, by omega⟩, i64_or_nat _ _ (by omega) (by omega)]
  have e3 : m ||| Y * 128 ^ j = m + Y * 128 ^ j := by
    rw [Nat.or_comm, Nat.add_comm]
    exact nat_join (7 * j) _ _ (by rw [e2]; exact Nat.mul_mod_left _ _) (by rw [e2]; exact hm)
  rw [e3]; simp

/-- The types '[]byte' and 'byte' of a program. -/
structure ByteT (P : Program) (t e : TypeId) : Prop where
  ht : P.underlying t = some (.slice e)
  he : P.underlying e = some (.int .u8)
  info : (P.info? e).map (fun i => (i.zero, i.size, i.bytes)) = some (some (.int .u8 0), 1, 1)

/-- The value v is a slice that reads the numbers bs. -/
def Bs (w : World) (v : Value) (bs : List Int) : Prop :=
  ∃ a cap, v = .slice a bs.length cap ∧ bs.length ≤ cap ∧ cap ≤ maxLen ∧ (a = none → cap = 0) ∧ ∀ x, a = some x → ∀ i, i < bs.length → w.cell? (x.add i) = some (.int .u8 (bs.getD i 0))

/-- The call owns v, from block 'base' on, and v reads xs. -/
def OwnB (w : World) (base : Nat) (e : TypeId) (v : Value) (xs : List Int) : Prop := w.ownsRow base e 1 v xs.length (xs.map (Value.int .u8))

theorem Bs.nil (w : World) : Bs w (.slice none 0 0) [] := ⟨none, 0, rfl, Nat.le_refl _, Nat.zero_le _, fun _ => rfl, fun x h => by cases h⟩

theorem add_plain (b off i : Nat) : (⟨b, off, none⟩ : Addr).add i = ⟨b, off + i, none⟩ := by unfold Addr.add; split <;> simp_all

/-- Either it is empty, or it lies at a plain place. -/
theorem Bs.cases {w : World} {v : Value} {bs : List Int} (h : Bs w v bs) :
    (bs = [] ∧ ∃ a cap, v = .slice a 0 cap ∧ cap ≤ maxLen ∧ (a = none → cap = 0)) ∨
    (bs ≠ [] ∧ ∃ b off cap, v = .slice (some ⟨b, off, none⟩) bs.length cap ∧ bs.length ≤ cap ∧ cap ≤ maxLen ∧ b < w.heap.size ∧ ∀ i, i < bs.length → w.cell? ⟨b, off + i, none⟩ = some (.int .u8 (bs.getD i 0))) := by
  obtain ⟨a, cap, rfl, hl, hm, hn, hc⟩ := h
  by_cases hb : bs = []
  · subst hb; exact .inl ⟨rfl, a, cap, rfl, hm, hn⟩
  · have hp : 0 < bs.length := List.length_pos_iff.2 hb
    cases a with
    | none => have := hn rfl; omega
    | some x =>
      obtain ⟨b, off, spot⟩ := x
      have h0 := hc _ rfl 0 hp
      have hs : spot = none := by simpa [Addr.add] using World.cell?_spot h0
      subst hs
      refine .inr ⟨hb, b, off, cap, rfl, hl, hm, ?_, fun i hi => by rw [← add_plain]; exact hc _ rfl i hi⟩
      simpa [Addr.add] using World.block_lt_of_cell? w _ h0

theorem Bs.len {w : World} {v : Value} {bs : List Int} (h : Bs w v bs) : bs.length ≤ maxLen := by
  obtain ⟨a, cap, rfl, hl, hm, hn, hc⟩ := h; omega

/-- What a world further on still reads. -/
theorem Bs.below {w w' : World} {v : Value} {bs : List Int} (h : Bs w v bs) (hb : Below w.heap.size w w') : Bs w' v bs := by
  obtain ⟨a, cap, rfl, hl, hm, hn, hc⟩ := h
  exact ⟨a, cap, rfl, hl, hm, hn, fun x hx i hi => (hb.cell (World.block_lt_of_cell? _ _ (hc x hx i hi))).trans (hc x hx i hi)⟩

theorem Bs.alloc {w : World} {v : Value} {bs : List Int} (h : Bs w v bs) (o : Obj) : Bs (w.alloc o) v bs := h.below ((Below.refl _ _).alloc (Nat.le_refl _) _)

/-- What is owned is read. -/
theorem OwnB.bs {w : World} {base : Nat} {e : TypeId} {v : Value} {bs : List Int} (h : OwnB w base e v bs) : Bs w v bs := by
  obtain ⟨_, h⟩ := h
  rcases h with ⟨rfl, h0⟩ | ⟨g, cap, cur, rfl, hb, hh, hc, hm, hcs, ht⟩
  · rw [List.length_eq_zero_iff.1 h0]; exact Bs.nil w
  · refine ⟨_, _, rfl, hc, hm, by simp, fun x hx i hi => ?_⟩
    cases hx
    have e1 : (⟨g, 0, none⟩ : Addr).add i = ⟨g, i, none⟩ := by rw [add_plain]; simp
    have e2 : (cur.toList.take (bs.length * 1))[i]? = (bs.map (Value.int .u8))[i]? := by rw [ht]
    rw [List.getElem?_take, if_pos (by omega)] at e2
    rw [e1]
    simp [World.cell?, hh, List.getD_eq_getElem?_getD, List.getElem?_eq_getElem hi] at e2 ⊢
    exact e2

theorem OwnB.nil (w : World) (base : Nat) (e : TypeId) : OwnB w base e (.slice none 0 0) [] := World.ownsRow_nil _ _ _ _

theorem OwnB.alloc {w : World} {base : Nat} {e : TypeId} {v : Value} {bs : List Int} (h : OwnB w base e v bs) (o : Obj) : OwnB (w.alloc o) base e v bs := World.ownsRow.alloc h o

/-- What is owned stays owned where nothing below the heap's end has turned. -/
theorem OwnB.below {w w' : World} {base : Nat} {e : TypeId} {v : Value} {bs : List Int} (h : OwnB w base e v bs) (hb : Below w.heap.size w w') : OwnB w' base e v bs := by
  refine ⟨h.1, ?_⟩
  rcases h.2 with hn | ⟨g, cap, cur, rfl, hb', hh, r⟩
  · exact .inl hn
  · exact .inr ⟨g, cap, cur, rfl, hb', by rw [hb.block g (Array.getElem?_eq_some_iff.1 hh).1]; exact hh, r⟩

theorem OwnB.mono {w : World} {base base' : Nat} {e : TypeId} {v : Value} {bs : List Int} (h : OwnB w base e v bs) (hb : base' ≤ base) : OwnB w base' e v bs := by
  refine ⟨h.1, ?_⟩
  rcases h.2 with hn | ⟨g, cap, cur, rfl, hb', r⟩
  · exact .inl hn
  · exact .inr ⟨g, cap, cur, rfl, by omega, r⟩

/-- A literal '[]byte{..}' just laid. -/
theorem own_lit (w : World) (e base : Nat) (bs : List Int) (cs : Array Value) (hcs : cs.toList = bs.map (Value.int .u8)) (hb : base ≤ w.heap.size) (hm : bs.length ≤ maxLen) :
    OwnB (w.alloc (.cells cs e)) base e (.slice (some ⟨w.heap.size, 0, none⟩) bs.length bs.length) bs := by
  have hsz : cs.size = bs.length := by rw [← Array.length_toList, hcs, List.length_map]
  refine ⟨by simp, .inr ⟨w.heap.size, bs.length, cs, rfl, hb, heap_alloc_new w _, Nat.le_refl _, hm, by omega, ?_⟩⟩
  rw [hcs, List.take_of_length_le (by simp)]

section
variable {P : Program} {t e : TypeId} {w : World} {ops : Array Oper} {rest : List Oper} {o : Oper} {a : Act} {Q : Exit → Act → World → Prop}

theorem own_block_ge {base : Nat} {v : Value} {n : Nat} {xs : List Value} (h : w.ownsRow base e 1 v n xs) : ∀ k, v.ownBlock = some k → base ≤ k := fun k hk => (h.lt k hk).1

/-- 'append(v, y)' of one byte, v the call's own. -/
theorem wp_app1 (B : ByteT P t e) {y : Int} (hgd : o.guard = none) (s x : Operand)
    (ho : o.op = .call { callee := .builtin .append, args := #[s, x], argTypes := #[t, t] })
    {base : Nat} {v : Value} {xs : List Int} (hs : a.eval s = v) (hown : OwnB w base e v xs)
    (hx : a.eval x = .slice (some ⟨w.heap.size, 0, none⟩) 1 1) (hlen : xs.length ≤ 140737488351232) (hbase : base ≤ w.heap.size)
    (h : ∀ v' w', OwnB w' base e v' (xs ++ [y]) → Below base w w' → wpList P ops Q rest (a.put o.dst v') w') :
    wpList P ops Q (o :: rest) a (w.alloc (.cells #[.int .u8 y] e)) := by
  obtain ⟨i0, hi, hz0, hz1, hz2⟩ := info_parts B.info
  refine wpList_append_own _ hgd s x t ho base e i0 (.int .u8 0) 1 1 B.ht hi hz0 hz1 hz2 rfl (by decide) v xs.length _ hs (World.ownsRow.alloc hown _) ⟨w.heap.size, 0, none⟩ 1 1 [.int .u8 y] hx rfl ?_ ?_ ?_ ?_ ?_ ?_
  · intro j u hj
    match j, hj with
    | 0, hj => simp at hj; subst hj; simp [Addr.add]
  · intro u hu; simp at hu; subst hu; rfl
  · unfold maxLen; omega
  · omega
  · simp; omega
  · intro v' w' h1 h2 _
    refine h v' w' (by unfold OwnB; simpa using h1) ?_
    exact ((Below.refl base w).alloc hbase _).grown h2 (by simp; omega) (own_block_ge hown)

/-- 'append(v, src...)', v the call's own. -/
theorem wp_appS (B : ByteT P t e) (hgd : o.guard = none) (s x : Operand)
    (ho : o.op = .call { callee := .builtin .append, args := #[s, x], argTypes := #[t, t] })
    {base : Nat} {v u : Value} {xs ys : List Int} (hs : a.eval s = v) (hown : OwnB w base e v xs)
    (hx : a.eval x = u) (hu : Bs w u ys) (hlen : xs.length + ys.length ≤ 140737488355328) (hbase : base ≤ w.heap.size)
    (h : ∀ v' w', OwnB w' base e v' (xs ++ ys) → Below base w w' → wpList P ops Q rest (a.put o.dst v') w') :
    wpList P ops Q (o :: rest) a w := by
  obtain ⟨i0, hi, hz0, hz1, hz2⟩ := info_parts B.info
  obtain ⟨ao, cap, rfl, hl, hm, hn, hc⟩ := hu
  cases ao with
  | none =>
    have hcap := hn rfl
    subst hcap
    have hy : ys = [] := List.length_eq_zero_iff.1 (by omega)
    subst hy
    exact wpList_append_own_none hgd s x t ho base e i0 1 B.ht hi v xs.length _ hs hown hx (h v w (by simpa [OwnB] using hown) (Below.refl _ _))
  | some ad =>
    refine wpList_append_own _ hgd s x t ho base e i0 (.int .u8 0) 1 1 B.ht hi hz0 hz1 hz2 rfl (by decide) v xs.length _ hs hown ad ys.length cap (ys.map (Value.int .u8)) hx (by simp) ?_ ?_ ?_ ?_ hbase ?_
    · intro j u hj
      have hjl : j < ys.length := by
        rcases Nat.lt_or_ge j ys.length with h | h
        · exact h
        · simp [List.getElem?_eq_none (show (ys.map (Value.int .u8)).length ≤ j by simpa using h)] at hj
      rw [hc ad rfl j hjl]
      simp [List.getElem?_eq_getElem hjl] at hj
      subst hj
      simp [List.getD, List.getElem?_eq_getElem hjl]
    · intro u hu; simp at hu; obtain ⟨z, _, rfl⟩ := hu; rfl
    · unfold maxLen; omega
    · omega
    · intro v' w' h1 h2 _
      refine h v' w' (by unfold OwnB; simpa using h1) ?_
      exact (Below.refl base w).grown h2 hbase (own_block_ge hown)

/-- 'make([]byte, n)'. -/
theorem wp_makeB (B : ByteT P t e) (hg : o.guard = none) (l c : Operand) (hop : o.op = Op.makeSlice t l c) {base : Nat} {kl kc : IntKind} {L C : Int} (n : Nat) (hl : a.eval l = .int kl L) (hc : a.eval c = .int kc C) (hL : L = (n : Int)) (hC : C = (n : Int))
    (hn : n ≤ 140737488355328) (hbase : base ≤ w.heap.size)
    (h : ∀ w', OwnB w' base e (.slice (some ⟨w.heap.size, 0, none⟩) n n) (List.replicate n 0) → Below base w w' → wpList P ops Q rest (a.put o.dst (.slice (some ⟨w.heap.size, 0, none⟩) n n)) w') :
    wpList P ops Q (o :: rest) a w := by
  obtain ⟨i0, hi, hz0, hz1, hz2⟩ := info_parts B.info
  refine wpList_make_full w hg l c t hop base e i0 (.int .u8 0) 1 B.ht hi hz0 hz1 kl kc L C n hl hc hL hC (by rw [hz2]; omega) (by unfold maxLen; omega) hbase fun w' h1 h2 => h w' ?_ ((Below.refl base w).grown h2 hbase (by simp))
  have e1 : (madeCells (Value.int IntKind.u8 0).cells (n * 1)).toList = List.replicate n (Value.int .u8 0) := by rw [Nat.mul_one]; exact toList_madeCells_one _ _
  rw [e1] at h1
  unfold OwnB
  simpa using h1

theorem OwnB.len {base g n cap : Nat} {xs : List Int} (h : OwnB w base e (.slice (some ⟨g, 0, none⟩) n cap) xs) : n = xs.length := by
  rcases h.2 with ⟨h', _⟩ | ⟨g', cap', cur, h', _⟩
  · simp at h'
  · simp only [Value.slice.injEq] at h'; exact h'.2.1

theorem OwnB.cellAt {base g n cap : Nat} {xs : List Int} (h : OwnB w base e (.slice (some ⟨g, 0, none⟩) n cap) xs) (j : Nat) (hj : j < xs.length) : w.cell? ⟨g, j, none⟩ = some (.int .u8 (xs.getD j 0)) := by
  have hn := h.len
  subst hn
  have := World.ownsRow.cellAt h j (by omega)
  rw [this]
  simp [List.getElem?_eq_getElem hj]

theorem OwnB.frozenAt {base g n cap : Nat} {xs : List Int} (h : OwnB w base e (.slice (some ⟨g, 0, none⟩) n cap) xs) (j : Nat) : w.frozen? ⟨g, j, none⟩ = false := by
  have hn := h.len
  subst hn
  exact World.ownsRow.frozenAt h j

theorem OwnB.stored {base g n cap : Nat} {xs : List Int} (h : OwnB w base e (.slice (some ⟨g, 0, none⟩) n cap) xs) (hg : base ≤ g) (j : Nat) (y : Int) :
    OwnB (w.setCell ⟨g, j, none⟩ (.int .u8 y)) base e (.slice (some ⟨g, 0, none⟩) n cap) (xs.set j y) ∧ Below base w (w.setCell ⟨g, j, none⟩ (.int .u8 y)) := by
  have hn := h.len
  subst hn
  refine ⟨?_, (Below.refl _ _).setCell hg _⟩
  have := (World.ownsRow.stored h j (.int .u8 y)).1
  unfold OwnB
  simpa [List.map_set] using this

/-- 'string(b)'. -/
theorem run_str (B : ByteT P t e) {v : Value} {bs : List Int} (h : Bs w v bs) (dst : TypeId) (hd : P.underlying dst = some .string) :
    (convert t dst v).run P w = .ok (.string (strOfNums bs)) w := by
  rcases h.cases with ⟨rfl, a, cap, rfl, hm, hn⟩ | ⟨hb, b, off, cap, rfl, hl, hm, _, hc⟩
  · cases a with
    | none => rw [run_convert_bytes_nil w t e B.ht B.he 0 cap dst hd]; rfl
    | some x =>
      rw [run_convert_bytes_string w t dst e _ 0 cap B.ht B.he hd, run_bytesToString w x 0 cap [] (by simpa using run_loadCells_list (P := P) w x [] (by simp))]
      rfl
  · exact run_convert_bytes_arg w t e B.ht B.he b off bs.length cap bs rfl hc dst hd
end
end Go.Proofs.YtgjjjkokmgdmjaaDoor.Oc

/- Contracts of octet.within, octet.Num. -/
namespace Go.Proofs.YtgjjjkokmgdmjaaDoor.Oc
open Go.RowKit

theorem Tryd.bt : ByteT Tryd.prog 23 5 := ⟨Tryd.underlying23, Tryd.underlying5, by kernel_rfl⟩

theorem ret_bool {a b : Bool} (h : a = b) : Ending.returned (.bool a) = .returned (.bool b) := by rw [h]

theorem within_yes (a : Option Addr) (len cap : Nat) (i : Int) (w : World) (h0 : 0 ≤ i) (h1 : i ≤ len) :
    Calls Tryd.prog 62 #[.slice a len cap, .int .i64 i] w fun e w' => e = .returned (.bool true) ∧ w = w' := by
  go_enter Tryd.func62, Tryd.ntmps62
  go_wp2
  go_ret
  exact ⟨by simp, rfl⟩

theorem within_no (a : Option Addr) (len cap : Nat) (i : Int) (w : World) (h : i < 0 ∨ (len : Int) < i) :
    Calls Tryd.prog 62 #[.slice a len cap, .int .i64 i] w fun e w' => e = .returned (.bool false) ∧ w = w' := by
  by_cases h0 : 0 ≤ i
  · go_enter Tryd.func62, Tryd.ntmps62
    go_wp2
    go_ret
    exact ⟨ret_bool (by simp; omega), rfl⟩
  · go_enter Tryd.func62, Tryd.ntmps62
    go_wp2
    go_ret
    exact ⟨rfl, rfl⟩


theorem num_step {n m : Nat} {pre : List Int} (h : numB n = pre ++ numB m) (hlt : ¬ m < 128) : numB n = pre ++ [(m : Int) % 128 + 128] ++ numB (m / 128) := by
  rw [h, numB_big m hlt]; simp



end Go.Proofs.YtgjjjkokmgdmjaaDoor.Oc

/- Contracts of octet.TakeNum and of the document's. -/
namespace Go.Proofs.YtgjjjkokmgdmjaaDoor.Oc
open Go.RowKit

theorem ret3 {k l p : IntKind} {a b c x y z : Int} (h1 : a = x) (h2 : b = y) (h3 : c = z) : Ending.returned (.tuple #[.int k a, .int l b, .int p c]) = .returned (.tuple #[.int k x, .int l y, .int p z]) := by rw [h1, h2, h3]




end Go.Proofs.YtgjjjkokmgdmjaaDoor.Oc

/- Contracts of the document's TakeNum; both of them at every slice. -/
namespace Go.Proofs.YtgjjjkokmgdmjaaDoor.Oc
open Go.RowKit



theorem join_mul (j m : Nat) (y : Int) (hj : j ≤ 7) (hm : m < 128 ^ j) (h0 : 0 ≤ y) (h1 : y < 128) : wrap64 ((m : Int) + wrap64 (((128 ^ j : Nat) : Int) * y)) = ((m + y.toNat * 128 ^ j : Nat) : Int) := by
  obtain ⟨Y, rfl⟩ := Int.eq_ofNat_of_zero_le h0
  have hp := pow_le7 j hj
  have hb : Y * 128 ^ j ≤ 127 * 562949953421312 := Nat.mul_le_mul (by omega) hp
  have e1 : ((128 ^ j : Nat) : Int) * (Y : Int) = ((Y * 128 ^ j : Nat) : Int) := by rw [Nat.mul_comm Y]; simp
  rw [e1, IntWalk.wrap64_in (n := ((Y * 128 ^ j : Nat) : Int)) ⟨by omega, by omega⟩, IntWalk.wrap64_in _ ⟨by omega, by omega⟩]
  simp



end Go.Proofs.YtgjjjkokmgdmjaaDoor.Oc

/- Contracts of octet.Fixed and of the document's. -/
namespace Go.Proofs.YtgjjjkokmgdmjaaDoor.Oc
open Go.RowKit

theorem width_yes (n : Int) (w : World) (h0 : 1 ≤ n) (h1 : n ≤ 8) : Calls Tryd.prog 48 #[.int .i64 n] w fun e w' => e = .returned (.bool true) ∧ w = w' := by
  go_enter Tryd.func48, Tryd.ntmps48
  go_wp2
  go_ret
  exact ⟨by simp, rfl⟩

theorem width_no (n : Int) (w : World) (h : n < 1 ∨ 8 < n) : Calls Tryd.prog 48 #[.int .i64 n] w fun e w' => e = .returned (.bool false) ∧ w = w' := by
  by_cases h0 : 1 ≤ n
  · go_enter Tryd.func48, Tryd.ntmps48
    go_wp2
    go_ret
    exact ⟨ret_bool (by simp; omega), rfl⟩
  · go_enter Tryd.func48, Tryd.ntmps48
    go_wp2
    go_ret
    exact ⟨rfl, rfl⟩

theorem pow8 (i : Nat) : (2 : Nat) ^ (8 * i) = 256 ^ i := by rw [Nat.pow_mul]

theorem shr8 (n i : Nat) : (n : Int) / 2 ^ (8 * i) = ((n / 256 ^ i : Nat) : Int) := by rw [← pow8]; simp

theorem fixed_arg (n W : Int) (w : World) (h : W < 1 ∨ 8 < W) :
    Calls Tryd.prog 39 #[.int .i64 n, .int .i64 W] w fun e w' => e = .returned (.tuple #[.slice none 0 0, .int .i64 2]) ∧ w = w' := by
  go_enter Tryd.func39, Tryd.ntmps39
  go_wp2_with (go_at_call 48; refine (width_no _ _ h).mono ?_; rintro e w' ⟨rfl, rfl⟩)
  go_ret2
  exact ⟨rfl, rfl⟩

theorem fixed_lim (n W : Int) (w : World) (h : n < 0 ∨ 9007199254740991 < n) (hW : 1 ≤ W) (hW8 : W ≤ 8) :
    Calls Tryd.prog 39 #[.int .i64 n, .int .i64 W] w fun e w' => e = .returned (.tuple #[.slice none 0 0, .int .i64 6]) ∧ w = w' := by
  rcases h with h | h
  · go_enter Tryd.func39, Tryd.ntmps39
    go_wp2_with (go_at_call 48; refine (width_yes _ _ (by omega) (by omega)).mono ?_; rintro e w' ⟨rfl, rfl⟩)
    go_ret2
    exact ⟨rfl, rfl⟩
  · have h' : ¬ n < 0 := by omega
    go_enter Tryd.func39, Tryd.ntmps39
    go_wp2_with (go_at_call 48; refine (width_yes _ _ (by omega) (by omega)).mono ?_; rintro e w' ⟨rfl, rfl⟩)
    go_ret2
    exact ⟨rfl, rfl⟩

theorem fixed_wide (n W : Nat) (w : World) (h : n ≤ 9007199254740991) (hW : 1 ≤ W) (hW8 : W ≤ 8) (hn : n / 256 ^ W ≠ 0) :
    Calls Tryd.prog 39 #[.int .i64 n, .int .i64 W] w fun e w' => e = .returned (.tuple #[.slice none 0 0, .int .i64 6]) ∧ w = w' := by
  have h0 : ¬ (n : Int) < 0 := by omega
  have h1 : ¬ 9007199254740991 < (n : Int) := by omega
  have hs : ((n : Int) / 2 ^ (8 * W) != 0) = true := by rw [shr8, bne_iff_ne]; exact fun q => hn (by exact_mod_cast q)
  go_enter Tryd.func39, Tryd.ntmps39
  go_wp2_with (go_at_call 48; refine (width_yes _ _ (by omega) (by omega)).mono ?_; rintro e w' ⟨rfl, rfl⟩)
  go_ret2
  exact ⟨rfl, rfl⟩

set_option maxHeartbeats 1000000 in
set_option maxRecDepth 1000000 in
theorem fixed_good (n W : Nat) (w : World) (h : n ≤ 9007199254740991) (hW : 1 ≤ W) (hW8 : W ≤ 8) (hn : n / 256 ^ W = 0) :
    Calls Tryd.prog 39 #[.int .i64 n, .int .i64 W] w fun e w' => ∃ v, e = .returned (.tuple #[v, .int .i64 0]) ∧ OwnB w' w.heap.size 5 v (fixB n W) ∧ Below w.heap.size w w' := by
  have h0 : ¬ (n : Int) < 0 := by omega
  have h1 : ¬ 9007199254740991 < (n : Int) := by omega
  have hs : ((n : Int) / 2 ^ (8 * W) != 0) = false := by rw [shr8, hn]; simp
  clear hn
  go_enter Tryd.func39, Tryd.ntmps39
  go_wp2_with (first
    | (go_at_call 48; refine (width_yes _ _ (by omega) (by omega)).mono ?_; rintro e w' ⟨rfl, rfl⟩)
    | (at_make; refine wp_makeB Tryd.bt rfl _ _ rfl W rfl rfl rfl rfl (by omega) (Nat.le_refl _) ?_; intro w1 hown hnx))
  go_loopw [27] (fun i wr => ∃ k : Nat, k ≤ W ∧ i = .int .i64 k ∧ OwnB wr w.heap.size 5 (.slice (some ⟨w.heap.size, 0, none⟩) W W) (List.replicate (W - k) 0 ++ fixB n k) ∧ Below w.heap.size w wr) (fun i _ => W - (intOf i).toNat)
  case atStart => exact ⟨0, Nat.zero_le _, rfl, by simpa [fixB] using hown, hnx⟩
  case round =>
    clear hown hnx
    obtain ⟨k, hk, rfl, hown, hnx⟩ := hrel
    by_cases hlt : k < W
    · have hcell := hown.cellAt (W - 1 - k) (by simp [fixB_length]; omega)
      have hfz := hown.frozenAt (W - 1 - k)
      go_wp2
      go_roundw
      case rel =>
        obtain ⟨g1, g2⟩ := hown.stored (Nat.le_refl _) (W - 1 - k) ((n : Int) / 2 ^ (8 * k) % 256)
        refine ⟨k + 1, by omega, by go_num, ?_, hnx.trans g2⟩
        rw [← fix_step n W k hlt]
        have e : ((n / 256 ^ k % 256 : Nat) : Int) = (n : Int) / 2 ^ (8 * k) % 256 := by rw [shr8]; simp
        rw [e]; exact g1
      case measure => simp [intOf]; omega
    · have : k = W := by omega
      subst this
      go_wp2
      go_ret2
      exact ⟨_, rfl, by simpa using hown, hnx⟩
end Go.Proofs.YtgjjjkokmgdmjaaDoor.Oc

/- Contracts of octet.fresh, octet.TakeText. -/
namespace Go.Proofs.YtgjjjkokmgdmjaaDoor.Oc
open Go.RowKit

theorem fresh_any (v : Value) (bs : List Int) (w : World) (hv : Bs w v bs) (hl : bs.length ≤ 140737488355328) :
    Calls Tryd.prog 54 #[v] w fun e w' => ∃ v', e = .returned v' ∧ OwnB w' w.heap.size 5 v' bs ∧ Below w.heap.size w w' := by
  go_enter Tryd.func54, Tryd.ntmps54
  go_wp2_with (at_builtin; refine wp_appS Tryd.bt rfl _ _ rfl rfl (OwnB.nil _ w.heap.size 5) rfl hv (by simpa using hl) (Nat.le_refl _) ?_)
  intro v' w1 hown hb
  go_wp2
  go_ret
  exact ⟨_, rfl, hown, hb⟩

/-- A piece of a slice. -/
theorem Bs_piece (w : World) (b off L n f : Nat) (bs : List Int) (hL : bs.length = L) (h2 : n + f ≤ L) (hm : L ≤ maxLen)
    (hc : ∀ i, i < L → w.cell? ⟨b, off + i, none⟩ = some (.int .u8 (bs.getD i 0))) : Bs w (.slice (some ⟨b, off + f, none⟩) n n) ((bs.drop f).take n) := by
  have hlen : ((bs.drop f).take n).length = n := by simp; omega
  refine ⟨some ⟨b, off + f, none⟩, n, by rw [hlen], by omega, by omega, by simp, fun x hx i hi => ?_⟩
  cases hx
  rw [add_plain, Nat.add_assoc, hc (f + i) (by omega)]
  simp only [List.getD_eq_getElem?_getD, List.getElem?_take, List.getElem?_drop]
  rw [if_pos (by omega)]





end Go.Proofs.YtgjjjkokmgdmjaaDoor.Oc

/- Contracts of the reader: its steps. -/
namespace Go.Proofs.YtgjjjkokmgdmjaaDoor.Oc
open Go.RowKit

theorem OwnB.slice {w : World} {base : Nat} {e : TypeId} {v : Value} {bs : List Int} (h : OwnB w base e v bs) : ∃ a c, v = .slice a bs.length c := by
  obtain ⟨a, c, h, _⟩ := h.bs
  exact ⟨a, c, h⟩

theorem Bs.drew {w : World} {v : Value} {bs : List Int} (h : Bs w v bs) : Bs w.drew v bs := h

set_option maxHeartbeats 1000000 in
set_option maxRecDepth 1000000 in
theorem read_any (v : Value) (bs : List Int) (w : World) (hv : Bs w v bs) (hl : bs.length ≤ 140737488355328) :
    Calls Tryd.prog 45 #[v] w fun e w' => ∃ g a c, e = .returned (.pointer (some ⟨g, 0, none⟩)) ∧ w.heap.size ≤ g ∧ w'.heap[g]? = some (.cells #[.int .i64 0, .slice a bs.length c, .int .i64 0] 98 (0, 0)) ∧
      OwnB w' w.heap.size 5 (.slice a bs.length c) bs ∧ Below w.heap.size w w' := by
  go_enter Tryd.func45, Tryd.ntmps45
  go_wp2_with fail
  refine (fresh_any _ _ _ hv hl).mono ?_
  rintro e w1 ⟨v', rfl, hown, hb⟩
  obtain ⟨a, c, rfl⟩ := hown.slice
  go_wp2
  go_ret
  have hs := hb.size
  exact ⟨w1.heap.size, a, c, rfl, hb.size, heap_alloc_new w1 _, hown.alloc _, hb.alloc hs _⟩

theorem reads_yes (g : Nat) (w : World) (hc0 : w.cell? ⟨g, 0, none⟩ = some (.int .i64 0)) :
    Calls Tryd.prog 55 #[.pointer (some ⟨g, 0, none⟩)] w fun e w' => e = .returned (.bool true) ∧ w = w' := by
  go_enter Tryd.func55, Tryd.ntmps55
  go_wp2
  go_ret
  exact ⟨rfl, rfl⟩

theorem reads_no (g : Nat) (er : Int) (w : World) (hc0 : w.cell? ⟨g, 0, none⟩ = some (.int .i64 er)) (her : er ≠ 0) :
    Calls Tryd.prog 55 #[.pointer (some ⟨g, 0, none⟩)] w fun e w' => e = .returned (.bool false) ∧ w = w' := by
  have h : (er != 0) = true := by simpa using her
  go_enter Tryd.func55, Tryd.ntmps55
  go_wp2
  go_ret
  exact ⟨rfl, rfl⟩

theorem reads_nil (w : World) : Calls Tryd.prog 55 #[.pointer none] w fun e w' => e = .returned (.bool false) ∧ w = w' := by
  go_enter Tryd.func55, Tryd.ntmps55
  go_wp2
  go_ret
  exact ⟨rfl, rfl⟩

theorem step_ok (g : Nat) (i nx : Int) (w : World) (hc2 : w.cell? ⟨g, 2, none⟩ = some (.int .i64 i)) (hf2 : w.frozen? ⟨g, 2, none⟩ = false) :
    Calls Tryd.prog 57 #[.pointer (some ⟨g, 0, none⟩), .int .i64 nx, .int .i64 0] w fun e w' => e = .returned (.tuple #[]) ∧ w' = w.setCell ⟨g, 2, none⟩ (.int .i64 nx) := by
  go_enter Tryd.func57, Tryd.ntmps57
  go_wp2
  go_end0
  exact ⟨rfl, rfl⟩

theorem fail_any (g : Nat) (e0 er : Int) (w : World) (hc0 : w.cell? ⟨g, 0, none⟩ = some (.int .i64 e0)) (hf0 : w.frozen? ⟨g, 0, none⟩ = false) :
    Calls Tryd.prog 63 #[.pointer (some ⟨g, 0, none⟩), .int .i64 er] w fun e w' => e = .returned (.tuple #[]) ∧ w' = w.setCell ⟨g, 0, none⟩ (.int .i64 er) := by
  go_enter Tryd.func63, Tryd.ntmps63
  go_wp2
  go_end0
  exact ⟨rfl, rfl⟩

theorem step_err (g : Nat) (e0 nx er : Int) (w : World) (hc0 : w.cell? ⟨g, 0, none⟩ = some (.int .i64 e0)) (hf0 : w.frozen? ⟨g, 0, none⟩ = false) (her : er ≠ 0) :
    Calls Tryd.prog 57 #[.pointer (some ⟨g, 0, none⟩), .int .i64 nx, .int .i64 er] w fun e w' => e = .returned (.tuple #[]) ∧ w' = w.setCell ⟨g, 0, none⟩ (.int .i64 er) := by
  have h : (er != 0) = true := by simpa using her
  go_enter Tryd.func57, Tryd.ntmps57
  go_wp2_with fail
  refine (fail_any g e0 er w hc0 hf0).mono ?_
  rintro e w' ⟨rfl, rfl⟩
  go_wp2
  exact bodyPost_ret (v := .tuple #[]) (by simp [results, Tryd.results57, go_sem]) rfl ⟨rfl, rfl⟩

/-- What a world behind a call keeps of a reader's cells. -/
theorem kept_cells {w w1 : World} {g : Nat} (hb : Below w.heap.size w w1) (hg : g < w.heap.size) (j : Nat) : w1.cell? ⟨g, j, none⟩ = w.cell? ⟨g, j, none⟩ ∧ w1.frozen? ⟨g, j, none⟩ = w.frozen? ⟨g, j, none⟩ :=
  ⟨hb.cell (p := ⟨g, j, none⟩) hg, hb.frozen (p := ⟨g, j, none⟩) hg⟩




end Go.Proofs.YtgjjjkokmgdmjaaDoor.Oc

/- Contracts of the reader's End and At, and that the package lives. -/
namespace Go.Proofs.YtgjjjkokmgdmjaaDoor.Oc
end Go.Proofs.YtgjjjkokmgdmjaaDoor.Oc

/- Plain mathematics of layer 1: numbers of a fixed width. -/
namespace Go.Proofs.YtgjjjkokmgdmjaaDoor.Oc

/-- The number of some bytes, the highest first, behind n. -/
def valB (n : Nat) : List Int → Nat
  | [] => n
  | x :: r => valB (n * 256 + x.toNat) r

theorem valB_snoc (r : List Int) (x : Int) : ∀ n, valB n (r ++ [x]) = valB n r * 256 + x.toNat := by
  induction r with
  | nil => intro n; rfl
  | cons y r ih => intro n; simp only [List.cons_append, valB]; exact ih _

theorem valB_bound (r : List Int) (hb : ∀ x ∈ r, 0 ≤ x ∧ x < 256) : ∀ n, valB n r < (n + 1) * 256 ^ r.length := by
  induction r with
  | nil => intro n; simp [valB]
  | cons y r ih =>
    intro n
    have hy := hb y (by simp)
    simp only [valB, List.length_cons, Nat.pow_succ]
    refine Nat.lt_of_lt_of_le (ih (fun x hx => hb x (by simp [hx])) _) ?_
    rw [Nat.mul_comm (256 ^ r.length) 256, ← Nat.mul_assoc]
    exact Nat.mul_le_mul_right _ (by omega)

theorem valB_mono (r : List Int) : ∀ n, n * 256 ^ r.length ≤ valB n r := by
  induction r with
  | nil => intro n; simp [valB]
  | cons y r ih =>
    intro n
    simp only [valB, List.length_cons, Nat.pow_succ]
    refine Nat.le_trans ?_ (ih _)
    rw [Nat.mul_comm (256 ^ r.length) 256, ← Nat.mul_assoc]
    exact Nat.mul_le_mul_right _ (by omega)

/-- What TakeFixed tells. -/
def tkFix (bs : List Int) (i W : Int) : Int × Int × Int :=
  if W < 1 ∨ 8 < W ∨ i < 0 ∨ (bs.length : Int) < i then (0, 0, 2)
  else if (bs.length : Int) - i < W then (0, 0, 3)
  else if 9007199254740991 < valB 0 ((bs.drop i.toNat).take W.toNat) then (0, 0, 6)
  else ((valB 0 ((bs.drop i.toNat).take W.toNat) : Int), i + W, 0)

theorem take_snoc (bs : List Int) (k : Nat) (h : k < bs.length) : bs.take (k + 1) = bs.take k ++ [bs.getD k 0] := by
  rw [List.take_succ_eq_append_getElem h, List.getD_eq_getElem?_getD, List.getElem?_eq_getElem h]; rfl

/-- TakeFixed of Fixed: the number. -/
theorem valB_fixB (n i : Nat) : ∀ m, valB m (fixB n i) = m * 256 ^ i + n % 256 ^ i := by
  induction i with
  | zero => intro m; simp [fixB, valB, Nat.mod_one]
  | succ i ih =>
    intro m
    simp only [fixB, valB]
    rw [ih]
    have e1 : ((n / 256 ^ i % 256 : Nat) : Int).toNat = n / 256 ^ i % 256 := by omega
    rw [e1, Nat.pow_succ, Nat.mod_mul, Nat.add_mul, Nat.mul_assoc, Nat.mul_comm 256 (256 ^ i), Nat.mul_comm (n / 256 ^ i % 256), Nat.add_assoc, Nat.add_comm (256 ^ i * _)]
end Go.Proofs.YtgjjjkokmgdmjaaDoor.Oc

/- Contracts of the document's Fixed, and of both TakeFixed. -/
namespace Go.Proofs.YtgjjjkokmgdmjaaDoor.Oc
open Go.RowKit




end Go.Proofs.YtgjjjkokmgdmjaaDoor.Oc

/- Contracts of both TakeFixed. -/
namespace Go.Proofs.YtgjjjkokmgdmjaaDoor.Oc
open Go.RowKit

set_option maxHeartbeats 1000000 in
set_option maxRecDepth 1000000 in
theorem tf_arg (a : Option Addr) (L cap : Nat) (i W : Int) (w : World) (h : W < 1 ∨ 8 < W ∨ i < 0 ∨ (L : Int) < i) :
    Calls Tryd.prog 56 #[.slice a L cap, .int .i64 i, .int .i64 W] w fun e w' => e = .returned (.tuple #[.int .i64 0, .int .i64 0, .int .i64 2]) ∧ w = w' := by
  by_cases hW : W < 1 ∨ 8 < W
  · go_enter Tryd.func56, Tryd.ntmps56
    go_wp2_with (go_at_call 48; refine (width_no _ _ hW).mono ?_; rintro e w' ⟨rfl, rfl⟩)
    go_ret3
    exact ⟨rfl, rfl⟩
  · have hi : i < 0 ∨ (L : Int) < i := by omega
    have w1 : 1 ≤ W := by omega
    have w8 : W ≤ 8 := by omega
    clear h hW
    go_enter Tryd.func56, Tryd.ntmps56
    go_wp2_with (first | (go_at_call 48; refine (width_yes _ _ w1 w8).mono ?_; rintro e w' ⟨rfl, rfl⟩) | (go_at_call 62; refine (within_no _ _ _ _ _ hi).mono ?_; rintro e w' ⟨rfl, rfl⟩))
    go_ret3
    exact ⟨rfl, rfl⟩

set_option maxHeartbeats 1000000 in
set_option maxRecDepth 1000000 in
theorem tf_short (a : Option Addr) (L cap : Nat) (i W : Int) (w : World) (_hL : L ≤ maxLen) (w1 : 1 ≤ W) (w8 : W ≤ 8) (h0 : 0 ≤ i) (hi : i ≤ L) (h : (L : Int) - i < W) :
    Calls Tryd.prog 56 #[.slice a L cap, .int .i64 i, .int .i64 W] w fun e w' => e = .returned (.tuple #[.int .i64 0, .int .i64 0, .int .i64 3]) ∧ w = w' := by
  unfold maxLen at _hL
  go_enter Tryd.func56, Tryd.ntmps56
  go_wp2_with (first | (go_at_call 48; refine (width_yes _ _ w1 w8).mono ?_; rintro e w' ⟨rfl, rfl⟩) | (go_at_call 62; refine (within_yes _ _ _ _ _ h0 hi).mono ?_; rintro e w' ⟨rfl, rfl⟩))
  go_ret3
  exact ⟨rfl, rfl⟩

theorem u64_join8 (m : Nat) (x : Int) (hm : m < 72057594037927936) (h0 : 0 ≤ x) (h1 : x < 256) : bits .or .u64 ((m : Int) * 256) x = ((m * 256 + x.toNat : Nat) : Int) := by
  obtain ⟨X, rfl⟩ := Int.eq_ofNat_of_zero_le h0
  have e1 : (m : Int) * 256 = ((m * 256 : Nat) : Int) := by simp
  rw [e1, u64_or_nat _ _ (by omega) (by omega), nat_join 8 _ _ (by omega) (by omega)]
  simp

theorem valB_lt (bs : List Int) (k i : Nat) (hb : ∀ x ∈ bs, 0 ≤ x ∧ x < 256) : valB 0 ((bs.drop i).take k) < 256 ^ k := by
  have h := valB_bound ((bs.drop i).take k) (fun x hx => hb x (List.mem_of_mem_drop (List.mem_of_mem_take hx))) 0
  refine Nat.lt_of_lt_of_le h ?_
  rw [Nat.one_mul]
  exact Nat.pow_le_pow_right (by decide) (by simp; omega)

theorem valB_step (bs : List Int) (i k : Nat) (h : i + k < bs.length) : valB 0 ((bs.drop i).take (k + 1)) = valB 0 ((bs.drop i).take k) * 256 + (bs.getD (i + k) 0).toNat := by
  rw [take_snoc (bs.drop i) k (by simp; omega), valB_snoc]
  simp [List.getD_eq_getElem?_getD, List.getElem?_drop]

theorem getD_byte (bs : List Int) (k : Nat) (h : k < bs.length) (hb : ∀ x ∈ bs, 0 ≤ x ∧ x < 256) : 0 ≤ bs.getD k 0 ∧ bs.getD k 0 < 256 := by
  apply hb
  rw [List.getD_eq_getElem?_getD, List.getElem?_eq_getElem h]
  exact List.getElem_mem _

set_option maxHeartbeats 1000000 in
set_option maxRecDepth 1000000 in
theorem tf_run (b off L cap i W : Nat) (bs : List Int) (w : World) (hL : bs.length = L) (hl : L ≤ cap) (hm : cap ≤ maxLen) (w1 : 1 ≤ W) (w8 : W ≤ 8) (hi : i + W ≤ L) (hby : ∀ x ∈ bs, 0 ≤ x ∧ x < 256)
    (hc : ∀ i, i < L → w.cell? ⟨b, off + i, none⟩ = some (.int .u8 (bs.getD i 0))) (V : Nat) (HV : Hid (V = valB 0 ((bs.drop i).take W))) :
    Calls Tryd.prog 56 #[.slice (some ⟨b, off, none⟩) L cap, .int .i64 i, .int .i64 W] w fun e w' => (e = if 9007199254740991 < V then .returned (.tuple #[.int .i64 0, .int .i64 0, .int .i64 6]) else .returned (.tuple #[.int .i64 V, .int .i64 (i + W), .int .i64 0])) ∧ w = w' := by
  unfold maxLen at hm
  have g1 : (1 : Int) ≤ W := by omega
  have g2 : (W : Int) ≤ 8 := by omega
  have g3 : (0 : Int) ≤ i := by omega
  have g4 : (i : Int) ≤ L := by omega
  have g5 : ¬ (L : Int) - i < W := by omega
  obtain ⟨E, HE⟩ : ∃ E : Ending, Hid (E = if 9007199254740991 < V then .returned (.tuple #[.int .i64 0, .int .i64 0, .int .i64 6]) else .returned (.tuple #[.int .i64 V, .int .i64 (i + W), .int .i64 0])) := ⟨_, rfl⟩
  rw [← HE.out]
  go_enter Tryd.func56, Tryd.ntmps56
  go_wp2_with (first | (go_at_call 48; refine (width_yes _ _ g1 g2).mono ?_; rintro e w' ⟨rfl, rfl⟩) | (go_at_call 62; refine (within_yes _ _ _ _ _ g3 g4).mono ?_; rintro e w' ⟨rfl, rfl⟩))
  go_loop [10, 37] (fun n j => ∃ k m : Nat, k ≤ W ∧ m < 18446744073709551616 ∧ j = .int .i64 k ∧ n = .int .u64 m ∧ Hid (m = valB 0 ((bs.drop i).take k))) (fun _ j => W - (intOf j).toNat)
  case atStart => exact ⟨0, 0, Nat.zero_le _, by omega, rfl, rfl, (by simp [valB] : 0 = valB 0 ((bs.drop i).take 0))⟩
  case round =>
    obtain ⟨k, m, hk, hm64, rfl, rfl, HM⟩ := hrel
    by_cases hlt : k < W
    · obtain ⟨x, HX⟩ : ∃ x, Hid (x = bs.getD (i + k) 0) := ⟨_, rfl⟩
      have hc' : w.cell? ⟨b, off + i + k, none⟩ = some (.int .u8 x) := by have := hc (i + k) (by omega); rw [HX.out, Nat.add_assoc]; exact this
      have hx := getD_byte bs (i + k) (by omega) hby
      rw [← HX.out] at hx
      obtain ⟨hx0, hx1⟩ := hx
      have hmb : m < 72057594037927936 := by
        have := valB_lt bs k i hby
        have hp : 256 ^ k ≤ 256 ^ 7 := Nat.pow_le_pow_right (by decide) (by omega)
        rw [← HM.out] at this
        omega
      have HJ : Hid (bits .or .u64 ((m : Int) * 256) x = ((m * 256 + x.toNat : Nat) : Int)) := u64_join8 m x hmb hx0 hx1
      clear hc
      go_wp2
      go_round
      case rel =>
        refine ⟨k + 1, m * 256 + x.toNat, by omega, by omega, by go_num, by rw [HJ.out], ?_⟩
        show m * 256 + x.toNat = _
        rw [valB_step bs i k (by omega), ← HM.out, ← HX.out]
      case measure => simp [intOf]; omega
    · have : k = W := by omega
      subst this
      have hmV : m = V := by rw [HM.out, HV.out]
      subst hmV
      clear HM HV
      by_cases hbig : 9007199254740991 < m
      · have hb' : (9007199254740991 : Int) < m := by omega
        have HEE : Hid (E = .returned (.tuple #[.int .i64 0, .int .i64 0, .int .i64 6])) := by have := HE.out; rw [if_pos hbig] at this; exact this
        clear HE
        go_wp2
        go_ret3
        exact ⟨HEE.out.symm, rfl⟩
      · have hb' : ¬ (9007199254740991 : Int) < m := by omega
        have HEE : Hid (E = .returned (.tuple #[.int .i64 m, .int .i64 (i + k), .int .i64 0])) := by have := HE.out; rw [if_neg hbig] at this; exact this
        clear HE
        go_wp2
        go_ret3
        exact ⟨HEE.out.symm, rfl⟩

/-- TakeFixed, at every slice, place and width. -/
theorem takeFixed_any (v : Value) (bs : List Int) (i W : Int) (w : World) (hv : Bs w v bs) (hby : ∀ x ∈ bs, 0 ≤ x ∧ x < 256) :
    Calls Tryd.prog 56 #[v, .int .i64 i, .int .i64 W] w fun e w' => e = .returned (.tuple #[.int .i64 (tkFix bs i W).1, .int .i64 (tkFix bs i W).2.1, .int .i64 (tkFix bs i W).2.2]) ∧ w = w' := by
  unfold tkFix
  by_cases h : W < 1 ∨ 8 < W ∨ i < 0 ∨ (bs.length : Int) < i
  · rw [if_pos h]
    obtain ⟨a, cap, rfl, _⟩ := hv
    exact tf_arg a bs.length cap i W w h
  · rw [if_neg h]
    by_cases h2 : (bs.length : Int) - i < W
    · rw [if_pos h2]
      have hlen := hv.len
      obtain ⟨a, cap, rfl, _⟩ := hv
      exact tf_short a bs.length cap i W w hlen (by omega) (by omega) (by omega) (by omega) h2
    · rw [if_neg h2]
      obtain ⟨I, rfl⟩ := Int.eq_ofNat_of_zero_le (show 0 ≤ i by omega)
      obtain ⟨K, rfl⟩ := Int.eq_ofNat_of_zero_le (show 0 ≤ W by omega)
      rcases hv.cases with ⟨rfl, _⟩ | ⟨hb, b, off, cap, rfl, hl, hm, _, hc⟩
      · simp at h h2; omega
      · refine (tf_run b off bs.length cap I K bs w rfl hl hm (by omega) (by omega) (by omega) hby hc _ rfl).mono ?_
        rintro e w' ⟨rfl, rfl⟩
        simp only [Int.toNat_natCast]
        refine ⟨?_, trivial⟩
        by_cases hbig : 9007199254740991 < valB 0 ((bs.drop I).take K)
        · rw [if_pos hbig, if_pos hbig]
        · rw [if_neg hbig, if_neg hbig]
end Go.Proofs.YtgjjjkokmgdmjaaDoor.Oc

/- Contract of the document's TakeFixed. -/
namespace Go.Proofs.YtgjjjkokmgdmjaaDoor.Oc
open Go.RowKit




end Go.Proofs.YtgjjjkokmgdmjaaDoor.Oc

/- Contracts of both Text, and of the document's TakeText. -/
namespace Go.Proofs.YtgjjjkokmgdmjaaDoor.Oc
open Go.RowKit









/-- A piece of a slice, whatever room is behind it. -/
theorem Bs_piece' (w : World) (b off L n f c : Nat) (bs : List Int) (hL : bs.length = L) (h2 : n + f ≤ L) (hc' : n ≤ c) (hm : c ≤ maxLen)
    (hc : ∀ i, i < L → w.cell? ⟨b, off + i, none⟩ = some (.int .u8 (bs.getD i 0))) : Bs w (.slice (some ⟨b, off + f, none⟩) n c) ((bs.drop f).take n) := by
  have hlen : ((bs.drop f).take n).length = n := by simp; omega
  refine ⟨some ⟨b, off + f, none⟩, c, by rw [hlen], by omega, by omega, by simp, fun x hx i hi => ?_⟩
  cases hx
  rw [add_plain, Nat.add_assoc, hc (f + i) (by omega)]
  simp only [List.getD_eq_getElem?_getD, List.getElem?_take, List.getElem?_drop]
  rw [if_pos (by omega)]


end Go.Proofs.YtgjjjkokmgdmjaaDoor.Oc

/- Contracts of both readers' Num and Fixed, at their cells. -/
namespace Go.Proofs.YtgjjjkokmgdmjaaDoor.Oc
open Go.RowKit





set_option maxHeartbeats 1000000 in
set_option maxRecDepth 1000000 in
theorem xfix_ok (g : Nat) (a : Option Addr) (L c : Nat) (i W n nx : Int) (w : World)
    (hc0 : w.cell? ⟨g, 0, none⟩ = some (.int .i64 0)) (hc1 : w.cell? ⟨g, 1, none⟩ = some (.slice a L c)) (hc2 : w.cell? ⟨g, 2, none⟩ = some (.int .i64 i))
    (hf2 : w.frozen? ⟨g, 2, none⟩ = false)
    (hT : Calls Tryd.prog 56 #[.slice a L c, .int .i64 i, .int .i64 W] w.drew fun e w' => e = .returned (.tuple #[.int .i64 n, .int .i64 nx, .int .i64 0]) ∧ w.drew = w') :
    Calls Tryd.prog 46 #[.pointer (some ⟨g, 0, none⟩), .int .i64 W] w fun e w' => e = .returned (.int .i64 n) ∧ w' = w.drew.setCell ⟨g, 2, none⟩ (.int .i64 nx) := by
  have HT : Hid (_) := hT
  clear hT
  go_enter Tryd.func46, Tryd.ntmps46
  go_wp2_with (go_at_call 55; refine (reads_yes g _ hc0).mono ?_; rintro e w' ⟨rfl, rfl⟩)
  go_region_with (go_at_call 56; refine Calls.mono HT.out ?_; rintro e w1 ⟨rfl, rfl⟩)
  all_goals
    go_wp2_with (go_at_call 57; refine (step_ok g i nx _ (by exact hc2) (by exact hf2)).mono ?_; rintro e w' ⟨rfl, rfl⟩)
    go_ret
    exact ⟨rfl, rfl⟩

set_option maxHeartbeats 1000000 in
set_option maxRecDepth 1000000 in
theorem xfix_err (g : Nat) (a : Option Addr) (L c : Nat) (i W n nx er : Int) (w : World)
    (hc0 : w.cell? ⟨g, 0, none⟩ = some (.int .i64 0)) (hc1 : w.cell? ⟨g, 1, none⟩ = some (.slice a L c)) (hc2 : w.cell? ⟨g, 2, none⟩ = some (.int .i64 i))
    (hf0 : w.frozen? ⟨g, 0, none⟩ = false) (her : er ≠ 0)
    (hT : Calls Tryd.prog 56 #[.slice a L c, .int .i64 i, .int .i64 W] w.drew fun e w' => e = .returned (.tuple #[.int .i64 n, .int .i64 nx, .int .i64 er]) ∧ w.drew = w') :
    Calls Tryd.prog 46 #[.pointer (some ⟨g, 0, none⟩), .int .i64 W] w fun e w' => e = .returned (.int .i64 n) ∧ w' = w.drew.setCell ⟨g, 0, none⟩ (.int .i64 er) := by
  have HT : Hid (_) := hT
  clear hT
  go_enter Tryd.func46, Tryd.ntmps46
  go_wp2_with (go_at_call 55; refine (reads_yes g _ hc0).mono ?_; rintro e w' ⟨rfl, rfl⟩)
  go_region_with (go_at_call 56; refine Calls.mono HT.out ?_; rintro e w1 ⟨rfl, rfl⟩)
  all_goals
    go_wp2_with (go_at_call 57; refine (step_err g 0 nx er _ (by exact hc0) (by exact hf0) her).mono ?_; rintro e w' ⟨rfl, rfl⟩)
    go_ret
    exact ⟨rfl, rfl⟩

theorem xfix_no (g : Nat) (er W : Int) (w : World) (hc0 : w.cell? ⟨g, 0, none⟩ = some (.int .i64 er)) (her : er ≠ 0) :
    Calls Tryd.prog 46 #[.pointer (some ⟨g, 0, none⟩), .int .i64 W] w fun e w' => e = .returned (.int .i64 0) ∧ w = w' := by
  go_enter Tryd.func46, Tryd.ntmps46
  go_wp2_with (go_at_call 55; refine (reads_no g er _ hc0 her).mono ?_; rintro e w' ⟨rfl, rfl⟩)
  go_ret
  exact ⟨rfl, rfl⟩

theorem xfix_nil (W : Int) (w : World) : Calls Tryd.prog 46 #[.pointer none, .int .i64 W] w fun e w' => e = .returned (.int .i64 0) ∧ w = w' := by
  go_enter Tryd.func46, Tryd.ntmps46
  go_wp2_with (go_at_call 55; refine (reads_nil _).mono ?_; rintro e w' ⟨rfl, rfl⟩)
  go_ret
  exact ⟨rfl, rfl⟩
end Go.Proofs.YtgjjjkokmgdmjaaDoor.Oc

/- Contracts of the document's reader's Num and Fixed, at their cells. -/
namespace Go.Proofs.YtgjjjkokmgdmjaaDoor.Oc
open Go.RowKit






end Go.Proofs.YtgjjjkokmgdmjaaDoor.Oc

/- Contracts of the document's reader: Read, Text, End. -/
namespace Go.Proofs.YtgjjjkokmgdmjaaDoor.Oc
open Go.RowKit








end Go.Proofs.YtgjjjkokmgdmjaaDoor.Oc

/- Contracts of both readers, whole: what a step tells, and what the reader is then. -/
namespace Go.Proofs.YtgjjjkokmgdmjaaDoor.Oc
open Go.RowKit

/-- A reader in memory: its fault, its bytes, its place. -/
def XO (e i : Int) (a : Option Addr) (L c : Nat) : Obj := .cells #[.int .i64 e, .slice a L c, .int .i64 i] 98 (0, 0)
/-- The document's reader in memory. -/
def YO (e i : Int) (a : Option Addr) (L c : Nat) : Obj := .cells #[.slice a L c, .int .i64 i, .int .i64 e] 51 (0, 0)

/-- What a step tells, and the place and the fault behind it. -/
def stepI (e i : Int) (T : Int × Int × Int) : Int × Int × Int := if e = 0 then (T.1, if T.2.2 = 0 then T.2.1 else i, T.2.2) else (0, i, e)
def stepT (e i : Int) (T : List Int × Int × Int) : List Int × Int × Int := if e = 0 then (T.1, if T.2.2 = 0 then T.2.1 else i, T.2.2) else ([], i, e)
def endV (e i : Int) (L : Nat) : Int := if e = 0 then (if i < L then 4 else 0) else e

theorem set_obj {w w1 : World} {g : Nat} {cur : Array Value} {t : TypeId} (hb : Below w.heap.size w w1) (hh : w.heap[g]? = some (.cells cur t (0, 0))) (j : Nat) (u : Value) :
    (w1.setCell ⟨g, j, none⟩ u).heap[g]? = some (.cells (cur.setIfInBounds j u) t (0, 0)) ∧ w.grownBy (w1.setCell ⟨g, j, none⟩ u) (some g) := by
  have hg : g < w.heap.size := (Array.getElem?_eq_some_iff.1 hh).1
  have h1 : w1.heap[g]? = some (.cells cur t (0, 0)) := (hb.block g hg).trans hh
  refine ⟨heap_setCell_same w1 g j cur t u h1, ⟨hb.os, hb.tape, hb.output, by simpa using hb.size, fun k hk hne => ?_⟩⟩
  rw [heap_setCell_other w1 ⟨g, j, none⟩ k u (fun e => hne (by simp [e]))]
  exact hb.block k hk

theorem grown_of_below {w w1 : World} {g : Option Nat} (hb : Below w.heap.size w w1) : w.grownBy w1 g := ⟨hb.os, hb.tape, hb.output, hb.size, fun k hk _ => hb.block k hk⟩

theorem grown_twice {w w1 w2 : World} {g : Nat} (h1 : w.grownBy w1 (some g)) (h2 : w1.grownBy w2 (some g)) : w.grownBy w2 (some g) :=
  ⟨h2.os.trans h1.os, h2.tape.trans h1.tape, h2.output.trans h1.output, Nat.le_trans h1.size h2.size, fun k hk hne => (h2.block k (Nat.lt_of_lt_of_le hk h1.size) hne).trans (h1.block k hk hne)⟩

theorem OwnB.setLow {w : World} {base : Nat} {e : TypeId} {v : Value} {t : List Int} (h : OwnB w base e v t) {g : Nat} (hg : g < base) (j : Nat) (u : Value) : OwnB (w.setCell ⟨g, j, none⟩ u) base e v t :=
  ownsRow_setCell_below h hg u

theorem xo_cells {w : World} {g : Nat} {e i : Int} {a : Option Addr} {L c : Nat} (hh : w.heap[g]? = some (XO e i a L c)) :
    w.cell? ⟨g, 0, none⟩ = some (.int .i64 e) ∧ w.cell? ⟨g, 1, none⟩ = some (.slice a L c) ∧ w.cell? ⟨g, 2, none⟩ = some (.int .i64 i) ∧ w.frozen? ⟨g, 0, none⟩ = false ∧ w.frozen? ⟨g, 2, none⟩ = false := by
  unfold XO at hh
  refine ⟨?_, ?_, ?_, ?_, ?_⟩ <;> simp [World.cell?, World.frozen?, hh]

theorem yo_cells {w : World} {g : Nat} {e i : Int} {a : Option Addr} {L c : Nat} (hh : w.heap[g]? = some (YO e i a L c)) :
    w.cell? ⟨g, 0, none⟩ = some (.slice a L c) ∧ w.cell? ⟨g, 1, none⟩ = some (.int .i64 i) ∧ w.cell? ⟨g, 2, none⟩ = some (.int .i64 e) ∧ w.frozen? ⟨g, 1, none⟩ = false ∧ w.frozen? ⟨g, 2, none⟩ = false := by
  unfold YO at hh
  refine ⟨?_, ?_, ?_, ?_, ?_⟩ <;> simp [World.cell?, World.frozen?, hh]


theorem xfix_any (g : Nat) (a : Option Addr) (L c : Nat) (bs : List Int) (e i W : Int) (w : World) (hh : w.heap[g]? = some (XO e i a L c)) (hv : Bs w (.slice a L c) bs) (hby : ∀ x ∈ bs, 0 ≤ x ∧ x < 256) :
    Calls Tryd.prog 46 #[.pointer (some ⟨g, 0, none⟩), .int .i64 W] w fun r w' => r = .returned (.int .i64 (stepI e i (tkFix bs i W)).1) ∧ w'.heap[g]? = some (XO (stepI e i (tkFix bs i W)).2.2 (stepI e i (tkFix bs i W)).2.1 a L c) ∧ w.grownBy w' (some g) := by
  obtain ⟨c0, c1, c2, f0, f2⟩ := xo_cells hh
  have hT := takeFixed_any _ bs i W w.drew hv.drew hby
  unfold stepI
  by_cases he : e = 0
  · subst he
    by_cases h0 : (tkFix bs i W).2.2 = 0
    · rw [h0] at hT
      refine (xfix_ok g a L c i W _ _ w c0 c1 c2 f2 hT).mono ?_
      rintro r w' ⟨rfl, rfl⟩
      obtain ⟨s1, s2⟩ := set_obj (Below.refl _ w).drew hh 2 (.int .i64 (tkFix bs i W).2.1)
      exact ⟨by simp, by simpa [XO, h0] using s1, s2⟩
    · refine (xfix_err g a L c i W _ _ _ w c0 c1 c2 f0 h0 hT).mono ?_
      rintro r w' ⟨rfl, rfl⟩
      obtain ⟨s1, s2⟩ := set_obj (Below.refl _ w).drew hh 0 (.int .i64 (tkFix bs i W).2.2)
      exact ⟨by simp, by simpa [XO, h0] using s1, s2⟩
  · refine (xfix_no g e W w c0 he).mono ?_
    rintro r w' ⟨rfl, rfl⟩
    exact ⟨by simp [he], by simpa [he] using hh, grown_of_below (Below.refl _ _)⟩






end Go.Proofs.YtgjjjkokmgdmjaaDoor.Oc
