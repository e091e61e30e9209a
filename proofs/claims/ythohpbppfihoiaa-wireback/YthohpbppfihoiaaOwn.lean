/- Memory, over whatever program: what stays (Chg), slices whose rows are owned, append told where the new slice lies, rows of one-cell elements that are read (Rd). -/
import Derived.Laws.AppendOwn
import Derived.Laws.AppendOwnNone
import Derived.Laws.Rows
import Derived.WalkKit
import Derived.ProofKit
namespace Go.Proofs.Ythohpbppfihoiaa
open Go.RowKit

/-- A fact that the walk does not see. -/
structure Hid (P : Prop) : Prop where
  out : P
/-- What was there stays, but for some blocks. -/
structure Chg (X : List Nat) (w w' : World) : Prop where
  os : w'.os = w.os
  tape : w'.tape = w.tape
  output : w'.output = w.output
  size : w.heap.size ≤ w'.heap.size
  block : ∀ k, k < w.heap.size → k ∉ X → w'.heap[k]? = w.heap[k]?

theorem Chg.refl (X : List Nat) (w : World) : Chg X w w := ⟨rfl, rfl, rfl, Nat.le_refl _, fun _ _ _ => rfl⟩
theorem Chg.trans {X : List Nat} {w w1 w2 : World} (h : Chg X w w1) (k : Chg X w1 w2) : Chg X w w2 :=
  ⟨k.os.trans h.os, k.tape.trans h.tape, k.output.trans h.output, Nat.le_trans h.size k.size, fun i hi hx => (k.block i (Nat.lt_of_lt_of_le hi h.size) hx).trans (h.block i hi hx)⟩
theorem Chg.ofBelow {X : List Nat} {w w' : World} (h : Below w.heap.size w w') : Chg X w w' := ⟨h.os, h.tape, h.output, h.size, fun k hk _ => h.block k hk⟩
theorem Chg.below {X : List Nat} {w w' : World} (h : Chg X w w') {B : Nat} (hB : B ≤ w.heap.size) (hX : ∀ x ∈ X, B ≤ x) : Below B w w' :=
  ⟨h.os, h.tape, h.output, h.size, fun k hk => h.block k (by omega) (fun hx => by have := hX k hx; omega)⟩
theorem Chg.mono {X Y : List Nat} {w w' : World} (h : Chg X w w') (hX : ∀ x ∈ X, x ∈ Y ∨ w.heap.size ≤ x) : Chg Y w w' :=
  ⟨h.os, h.tape, h.output, h.size, fun k hk hy => h.block k hk (fun hx => by rcases hX k hx with h | h; exact hy h; omega)⟩
theorem Chg.thenNew {X Y : List Nat} {w w1 w2 : World} (h : Chg X w w1) (k : Chg Y w1 w2) (hY : ∀ x ∈ Y, x ∈ X ∨ w.heap.size ≤ x) : Chg X w w2 :=
  ⟨k.os.trans h.os, k.tape.trans h.tape, k.output.trans h.output, Nat.le_trans h.size k.size, fun i hi hx => (k.block i (Nat.lt_of_lt_of_le hi h.size) (fun hy => by rcases hY i hy with q | q; exact hx q; omega)).trans (h.block i hi hx)⟩
theorem Chg.cell {X : List Nat} {w w' : World} (h : Chg X w w') {a : Addr} (ha : a.block < w.heap.size) (hx : a.block ∉ X) : w'.cell? a = w.cell? a := World.cell?_of_block (h.block _ ha hx)
theorem Chg.setCell {X : List Nat} {w w' : World} (h : Chg X w w') {a : Addr} (ha : a.block ∈ X ∨ w.heap.size ≤ a.block) (v : Value) : Chg X w (w'.setCell a v) :=
  ⟨h.os, h.tape, h.output, by simpa using h.size, fun k hk hx => (heap_setCell_other w' a k v (fun e => by subst e; rcases ha with q | q; exact hx q; omega)).trans (h.block k hk hx)⟩
theorem Chg.drew {X : List Nat} {w w' : World} (h : Chg X w w') : Chg X w w'.drew := ⟨h.os, h.tape, h.output, h.size, h.block⟩
theorem add_plain (b off i : Nat) : (⟨b, off, none⟩ : Addr).add i = ⟨b, off + i, none⟩ := by unfold Addr.add; split <;> simp_all
theorem add_block (x : Addr) (i : Nat) : (x.add i).block = x.block := by unfold Addr.add; split <;> rfl
theorem info_parts' {P : Program} {e : TypeId} {z : Value} {k b : Nat} (h : (P.info? e).map (fun i => (i.zero, i.size, i.bytes)) = some (some z, k, b)) : ∃ i, P.info? e = some i ∧ i.zero = some z ∧ i.size = k ∧ i.bytes = b := by
  cases hi : P.info? e with
  | none => rw [hi] at h; simp at h
  | some i => rw [hi] at h; simp at h; exact ⟨i, rfl, h.1, h.2.1, h.2.2⟩
/-- The block of a slice, if there is one. -/
def ob (v : Value) : List Nat := v.ownBlock.toList
theorem mem_ob {v : Value} {k : Nat} : k ∈ ob v ↔ v.ownBlock = some k := by unfold ob; simp [eq_comm]
theorem Chg.ofGrown {w w' : World} {v : Value} (h : w.grownBy w' v.ownBlock) : Chg (ob v) w w' :=
  ⟨h.os, h.tape, h.output, h.size, fun k hk hx => h.block k hk (fun e => hx (mem_ob.2 e.symm))⟩
/-- Block k holds a row of elements of type e, none of them frozen. -/
def Ty (w : World) (e : TypeId) (k : Nat) : Prop := ∃ cs, w.heap[k]? = some (.cells cs e (0, 0))
theorem Ty.lt {w : World} {e : TypeId} {k : Nat} (h : Ty w e k) : k < w.heap.size := by obtain ⟨cs, h⟩ := h; exact (Array.getElem?_eq_some_iff.1 h).1
theorem Ty.ne {w : World} {e f : TypeId} {k j : Nat} (h : Ty w e k) (h2 : Ty w f j) (hne : e ≠ f) : k ≠ j := by
  rintro rfl
  obtain ⟨cs, h⟩ := h
  obtain ⟨ds, h2⟩ := h2
  rw [h] at h2
  simp at h2
  exact hne h2.2
theorem Ty.chg {w w' : World} {e : TypeId} {k : Nat} {X : List Nat} (h : Ty w e k) (hc : Chg X w w') (hx : k ∉ X) : Ty w' e k := by
  obtain ⟨cs, h'⟩ := h
  exact ⟨cs, (hc.block k (Ty.lt ⟨cs, h'⟩) hx).trans h'⟩
/-- A cell's store leaves a row a row. -/
theorem Ty.set {w : World} {e : TypeId} {k b o : Nat} {u : Value} (h : Ty w e k) : Ty (w.setCell ⟨b, o, none⟩ u) e k := by
  obtain ⟨cs, h'⟩ := h
  by_cases hb : k = b
  · subst hb; exact ⟨_, heap_setCell_same w k o cs e u h'⟩
  · exact ⟨cs, (heap_setCell_other w ⟨b, o, none⟩ k u hb).trans h'⟩
theorem own_ty {w : World} {base : Nat} {e : TypeId} {k : Nat} {v : Value} {n : Nat} {xs : List Value} (h : w.ownsRow base e k v n xs) {g : Nat} (hg : v.ownBlock = some g) : Ty w e g := by
  rcases h.2 with ⟨rfl, _⟩ | ⟨g', cap, cur, rfl, hb, hh, _⟩
  · simp [Value.ownBlock] at hg
  · simp [Value.ownBlock] at hg
    subst hg
    exact ⟨cur, hh⟩
theorem own_far {w w' : World} {base : Nat} {e : TypeId} {k : Nat} {v : Value} {n : Nat} {xs : List Value} {X : List Nat} (h : w.ownsRow base e k v n xs) (hc : Chg X w w') (hx : ∀ g, v.ownBlock = some g → g ∉ X) : w'.ownsRow base e k v n xs := by
  refine ⟨h.1, ?_⟩
  rcases h.2 with hn | ⟨g, cap, cur, rfl, hb, hh, rest⟩
  · exact .inl hn
  · exact .inr ⟨g, cap, cur, rfl, hb, (hc.block g (Array.getElem?_eq_some_iff.1 hh).1 (hx g rfl)).trans hh, rest⟩
theorem own_base {w : World} {base b' : Nat} {e : TypeId} {k : Nat} {v : Value} {n : Nat} {xs : List Value} (h : w.ownsRow base e k v n xs) (hx : ∀ g, v.ownBlock = some g → b' ≤ g) : w.ownsRow b' e k v n xs := by
  refine ⟨h.1, ?_⟩
  rcases h.2 with hn | ⟨g, cap, cur, rfl, hb, rest⟩
  · exact .inl hn
  · exact .inr ⟨g, cap, cur, rfl, hx g rfl, rest⟩

/-- The cells vs[0], .. stand from v on. -/
def Rd (w : World) (v : Value) (vs : List Value) : Prop :=
  ∃ a cap, v = .slice a vs.length cap ∧ vs.length ≤ cap ∧ cap ≤ maxLen ∧ (a = none → cap = 0) ∧ ∀ x, a = some x → ∀ i, i < vs.length → w.cell? (x.add i) = vs[i]?
theorem Rd.far {w w' : World} {v : Value} {vs : List Value} {X : List Nat} (h : Rd w v vs) (hc : Chg X w w') (hx : 0 < vs.length → ∀ k, v.ownBlock = some k → k ∉ X) : Rd w' v vs := by
  obtain ⟨a, cap, rfl, hl, hm, hn, hcell⟩ := h
  refine ⟨a, cap, rfl, hl, hm, hn, fun x hxa i hi => ?_⟩
  subst hxa
  have h0 := hcell x rfl i hi
  exact (hc.cell (World.block_lt_of_cell? _ _ (h0.trans (List.getElem?_eq_getElem hi))) (by rw [add_block]; exact hx (by omega) _ rfl)).trans h0
theorem own_rd {w : World} {base : Nat} {e : TypeId} {v : Value} {n : Nat} {xs : List Value} (h : w.ownsRow base e 1 v n xs) : Rd w v xs := by
  have hn : n = xs.length := by have := h.1; omega
  subst hn
  rcases h.2 with ⟨rfl, hn⟩ | ⟨g, cap, cur, rfl, hb, hh, h1, h2, h3, h4⟩
  · exact ⟨none, 0, by rw [hn], by omega, by omega, fun _ => rfl, fun x hx => by cases hx⟩
  · refine ⟨_, cap, rfl, h1, h2, by simp, fun x hx i hi => ?_⟩
    cases hx
    rw [add_plain, Nat.zero_add, cell_of_row w g i cur e _ hh, ← h4, List.getElem?_take, if_pos (by omega)]
    simp
theorem Rd.cases {w : World} {v : Value} {vs : List Value} (h : Rd w v vs) :
    (vs = [] ∧ ∃ a cap, v = .slice a 0 cap ∧ cap ≤ maxLen ∧ (a = none → cap = 0)) ∨
    (vs ≠ [] ∧ ∃ b off cap, v = .slice (some ⟨b, off, none⟩) vs.length cap ∧ vs.length ≤ cap ∧ cap ≤ maxLen ∧ ∀ i, i < vs.length → w.cell? ⟨b, off + i, none⟩ = vs[i]?) := by
  obtain ⟨a, cap, rfl, hl, hm, hn, hc⟩ := h
  by_cases hb : vs = []
  · subst hb; exact .inl ⟨rfl, a, cap, rfl, hm, hn⟩
  · have hp : 0 < vs.length := List.length_pos_iff.2 hb
    cases a with
    | none => have := hn rfl; omega
    | some x =>
      obtain ⟨b, off, spot⟩ := x
      have h0 := (hc _ rfl 0 hp).trans (List.getElem?_eq_getElem hp)
      have hs : spot = none := by simpa [Addr.add] using World.cell?_spot h0
      subst hs
      exact .inr ⟨hb, b, off, cap, rfl, hl, hm, fun i hi => by rw [← add_plain]; exact hc _ rfl i hi⟩
theorem run_append_at {P : Program} (w : World) (base : Nat) (t ty e : TypeId) (i : TypeInfo) (z : Value) (bytes : Nat) (ht : P.underlying t = some (.slice e)) (hi : P.info? e = some i) (hz : i.zero = some z)
    (hsize : i.size = 1) (hby : i.bytes = bytes) (hzs : z.cells.size = 1)
    (v : Value) (n : Nat) (xs : List Value) (hown : w.ownsRow base e 1 v n xs)
    (a : Addr) (m c : Nat) (news : List Value) (hl : news.length = m) (hnews : ∀ j u, news[j]? = some u → w.cell? (a.add j) = some u) (h1 : ∀ u ∈ news, u.oneCell' = true)
    (h63 : n + m ≤ maxLen) (hbytes : (n + m) * bytes ≤ 140737488355328) (hbase : base ≤ w.heap.size) :
    ∃ v' w', (Builtin.append_ #[t, t] ty #[v, .slice (some a) m c]).run P w = .ok v' w' ∧ w'.ownsRow base e 1 v' (n + m) (xs ++ news) ∧ w.grownBy w' v.ownBlock ∧
      (v'.ownBlock = v.ownBlock ∨ v'.ownBlock = some w.heap.size) := by
  have hl' : news.length = m * 1 := by omega
  obtain ⟨v', w', hr, h2, h3, -⟩ := run_append_own (P := P) w base t ty e i z 1 bytes ht hi hz hsize hby hzs (by decide) v n xs hown a m c news hl' hnews h1 h63 hbytes hbase
  refine ⟨v', w', hr, h2, h3, ?_⟩
  have hsmall : n + m ≤ 9223372036854775807 := by simp only [maxLen] at h63; omega
  have hl2 : news.length = m * i.size := by rw [hsize]; exact hl'
  rcases hown.2 with ⟨rfl, rfl⟩ | ⟨g, cap, cur, rfl, hbg, hg, hnc, hcm, hcs, htake⟩
  · by_cases hm : m = 0
    · subst hm
      have hn : news = [] := List.eq_nil_of_length_eq_zero (by simpa using hl)
      subst hn
      have e1 : (Builtin.append_ #[t, t] ty #[.slice none 0 0, .slice (some a) 0 c]).run P w = .ok (.slice none 0 0) w := by
        simp [Builtin.append_, run_underlying ht, sizeOf, typeInfo, hi, Builtin.lenOf, Builtin.firstCells, loadCells, loadCellsFrom]
      rw [e1] at hr
      cases hr
      exact .inl rfl
    · have e1 := run_append_nil (P := P) w t ty e i z ht hi hz a m c news hl2 hnews (by omega) (by omega) (by have hb := hbytes; simp only [Nat.zero_add] at hb; rw [hby]; omega)
      rw [e1] at hr
      cases hr
      exact .inr rfl
  · by_cases hroom : n + m ≤ cap
    · have hfit : n * i.size + news.length ≤ cur.size := by rw [hl, hcs, hsize]; omega
      have e1 := run_append_room (P := P) w t ty e i ht hi g n cap cur hg a m c news hl2 hnews h1 hroom hfit
      rw [e1] at hr
      cases hr
      exact .inl rfl
    · have holds : ∀ j u, xs[j]? = some u → w.cell? ((⟨g, 0, none⟩ : Addr).add j) = some u := hown.cells (g := g) rfl
      have e1 := run_append_grow (P := P) w t ty e i z ht hi hz ⟨g, 0, none⟩ n cap xs (by rw [hsize]; exact hown.1) holds a m c news hl2 hnews (by omega) (by omega) (growslice_fits (by omega) (by rw [hby]; exact hbytes))
      rw [e1] at hr
      cases hr
      exact .inr rfl
theorem wpList_append_at {P : Program} {w : World} {ops : Array Oper} {rest : List Oper} {o : Oper} {ac : Act} {Q : Exit → Act → World → Prop} (hgd : o.guard = none) (s x : Operand) (t : TypeId)
    (ho : o.op = .call { callee := .builtin .append, args := #[s, x], argTypes := #[t, t] })
    (base : Nat) (e : TypeId) (i : TypeInfo) (z : Value) (bytes : Nat) (ht : P.underlying t = some (.slice e)) (hi : P.info? e = some i) (hz : i.zero = some z)
    (hsize : i.size = 1) (hby : i.bytes = bytes) (hzs : z.cells.size = 1)
    (v : Value) (n : Nat) (xs : List Value) (hs : ac.eval s = v) (hown : w.ownsRow base e 1 v n xs)
    (a : Addr) (m c : Nat) (news : List Value) (hx : ac.eval x = .slice (some a) m c) (hl : news.length = m) (hnews : ∀ j u, news[j]? = some u → w.cell? (a.add j) = some u) (h1 : ∀ u ∈ news, u.oneCell' = true)
    (h63 : n + m ≤ maxLen) (hbytes : (n + m) * bytes ≤ 140737488355328) (hbase : base ≤ w.heap.size)
    (h : ∀ v' w', w'.ownsRow base e 1 v' (n + m) (xs ++ news) → w.grownBy w' v.ownBlock → (v'.ownBlock = v.ownBlock ∨ v'.ownBlock = some w.heap.size) → wpList P ops Q rest (ac.put o.dst v') w') : wpList P ops Q (o :: rest) ac w :=
  wpList_plain hgd fun _ hK => by
    obtain ⟨v', w', hr, h2, h3, h4⟩ := run_append_at (P := P) w base t o.type e i z bytes ht hi hz hsize hby hzs v n xs hown a m c news hl hnews h1 h63 hbytes hbase
    unfold Oper.wp execOp
    simp only [ho, resolve, invoke, builtin, Sem.run_bind, Sem.run_pure, Result.andThen_ok, List.map_toArray, List.map_cons, List.map_nil, hs, hx, hr]
    exact hK _ _ (h v' w' h2 h3 h4)
end Go.Proofs.Ythohpbppfihoiaa
