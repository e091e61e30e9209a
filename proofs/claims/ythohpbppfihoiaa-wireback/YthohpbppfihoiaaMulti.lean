/- Rows whose elements have k cells, over whatever program: read (RdE), owned (OwnE), appended to. f: an element's cells; d: some element. -/
import Derived.Test.YthohpbppfihoiaaOwn
import Derived.Laws.OwnMore
import Derived.Great.BuildSlice
namespace Go.Proofs.Ythohpbppfihoiaa
open Go.RowKit

section
variable {α : Type}
/-- The cells of elements, one behind the other. -/
def fl (f : α → List Value) (L : List α) : List Value := (L.map f).flatten
theorem fl_app (f : α → List Value) (L M : List α) : fl f (L ++ M) = fl f L ++ fl f M := by simp [fl]
theorem fl_len (f : α → List Value) (k : Nat) : ∀ (L : List α), (∀ x ∈ L, (f x).length = k) → (fl f L).length = L.length * k
  | [], _ => by simp [fl]
  | x :: L, h => by
    have h1 := fl_len f k L (fun y hy => h y (by simp [hy]))
    have h2 := h x (by simp)
    unfold fl at h1 ⊢
    simp only [List.map_cons, List.flatten_cons, List.length_append, List.length_cons, h1, h2, Nat.succ_mul]
    omega
theorem fl_get (f : α → List Value) (k : Nat) (d : α) : ∀ (L : List α), (∀ x ∈ L, (f x).length = k) → ∀ i j, i < L.length → j < k → (fl f L)[i * k + j]? = (f (L.getD i d))[j]?
  | [], _, i, j, hi, _ => by simp at hi
  | x :: L, h, 0, j, _, hj => by
    have h2 := h x (by simp)
    unfold fl
    simp only [List.map_cons, List.flatten_cons, Nat.zero_mul, Nat.zero_add, List.getD_cons_zero]
    rw [List.getElem?_append_left (by omega)]
  | x :: L, h, i + 1, j, hi, hj => by
    have h2 := h x (by simp)
    have h3 := fl_get f k d L (fun y hy => h y (by simp [hy])) i j (by simpa using hi) hj
    unfold fl at h3 ⊢
    simp only [List.map_cons, List.flatten_cons, List.getD_cons_succ]
    rw [List.getElem?_append_right (by rw [h2, Nat.succ_mul]; omega), h2, show (i + 1) * k + j - k = i * k + j by rw [Nat.succ_mul]; omega]
    exact h3
/-- A row of elements, read. -/
structure RdE (f : α → List Value) (k : Nat) (d : α) (w : World) (v : Value) (L : List α) : Prop where
  shape : ∃ a cap, v = .slice a L.length cap ∧ L.length ≤ cap ∧ cap ≤ maxLen ∧ (a = none → cap = 0)
  at' : ∀ i, i < L.length → ∃ b off cap, v = .slice (some ⟨b, off, none⟩) L.length cap ∧ ∀ j, j < k → w.cell? ⟨b, off + i * k + j, none⟩ = (f (L.getD i d))[j]?
  each : ∀ x ∈ L, (f x).length = k ∧ ∀ u ∈ f x, u.oneCell' = true
/-- A row of elements, owned. -/
structure OwnE (f : α → List Value) (k : Nat) (e : TypeId) (w : World) (base : Nat) (v : Value) (L : List α) : Prop where
  own : w.ownsRow base e k v L.length (fl f L)
  each : ∀ x ∈ L, (f x).length = k ∧ ∀ u ∈ f x, u.oneCell' = true
theorem getD_mem' {L : List α} {i : Nat} {d : α} (h : i < L.length) : L.getD i d ∈ L := by
  simp only [List.getD, List.getElem?_eq_getElem h, Option.getD_some]
  exact List.getElem_mem h
theorem OwnE.rd {f : α → List Value} {k : Nat} {e : TypeId} {w : World} {base : Nat} {v : Value} {L : List α} (h : OwnE f k e w base v L) (d : α) : RdE f k d w v L := by
  rcases h.own.2 with ⟨rfl, hn⟩ | ⟨g, cap, cur, rfl, hb, hh, h1, h2, h3, h4⟩
  · exact ⟨⟨none, 0, by rw [hn], by omega, by omega, fun _ => rfl⟩, fun i hi => by omega, h.each⟩
  · refine ⟨⟨_, cap, rfl, h1, h2, by simp⟩, fun i hi => ⟨g, 0, cap, rfl, fun j hj => ?_⟩, h.each⟩
    rw [cell_of_row w g _ cur e _ hh, Nat.zero_add, ← fl_get f k d L (fun x hx => (h.each x hx).1) i j hi hj, ← h4, List.getElem?_take, if_pos]
    · simp
    · have : i * k + k ≤ L.length * k := by rw [← Nat.succ_mul]; exact Nat.mul_le_mul_right k hi
      omega
theorem OwnE.lt {f : α → List Value} {k : Nat} {e : TypeId} {w : World} {base : Nat} {v : Value} {L : List α} (h : OwnE f k e w base v L) : ∀ g ∈ ob v, base ≤ g ∧ g < w.heap.size := fun g hg => h.own.lt g (mem_ob.1 hg)
theorem OwnE.far {f : α → List Value} {k : Nat} {e : TypeId} {w w' : World} {base : Nat} {v : Value} {L : List α} {X : List Nat} (h : OwnE f k e w base v L) (hc : Chg X w w') (hx : ∀ g ∈ ob v, g ∉ X) : OwnE f k e w' base v L :=
  ⟨own_far h.own hc (fun g hg => hx g (mem_ob.2 hg)), h.each⟩
theorem OwnE.base {f : α → List Value} {k : Nat} {e : TypeId} {w : World} {base b' : Nat} {v : Value} {L : List α} (h : OwnE f k e w base v L) (hb : b' ≤ base) : OwnE f k e w b' v L :=
  ⟨own_base h.own (fun _ hg => Nat.le_trans hb (h.own.lt _ hg).1), h.each⟩
theorem OwnE.nil (f : α → List Value) (k : Nat) (e : TypeId) (w : World) (base : Nat) : OwnE f k e w base (.slice none 0 0) [] := ⟨World.ownsRow_nil w base e k, fun x hx => by cases hx⟩
theorem OwnE.none (f : α → List Value) (k : Nat) (e : TypeId) (w : World) : OwnE f k e (w.alloc (.cells #[] e)) w.heap.size (.slice (some ⟨w.heap.size, 0, none⟩) 0 0) [] :=
  ⟨⟨by simp [fl], .inr ⟨w.heap.size, 0, #[], rfl, Nat.le_refl _, heap_alloc_new w _, Nat.le_refl _, by decide, by simp, by simp [fl]⟩⟩, fun x hx => by cases hx⟩
theorem OwnE.ty {f : α → List Value} {k : Nat} {e : TypeId} {w : World} {base : Nat} {v : Value} {L : List α} (h : OwnE f k e w base v L) : ∀ g ∈ ob v, Ty w e g := fun _ hg => own_ty h.own (mem_ob.1 hg)
theorem RdE.far {f : α → List Value} {k : Nat} {d : α} {w w' : World} {v : Value} {L : List α} {X : List Nat} (h : RdE f k d w v L) (hc : Chg X w w') (hx : 0 < L.length → ∀ g ∈ ob v, g ∉ X) : RdE f k d w' v L :=
  ⟨h.shape, fun i hi => by
    obtain ⟨b, off, cap, e, hcell⟩ := h.at' i hi
    refine ⟨b, off, cap, e, fun j hj => ?_⟩
    have hl := (h.each _ (getD_mem' (d := d) hi)).1
    have h0 := hcell j hj
    have h1 := h0
    rw [List.getElem?_eq_getElem (by omega)] at h1
    exact (hc.cell (World.block_lt_of_cell? _ _ h1) (hx (by omega) b (mem_ob.2 (by rw [e]; rfl)))).trans h0, h.each⟩
/-- The block of a row that is read is there. -/
theorem RdE.lt {f : α → List Value} {k : Nat} {d : α} {w : World} {v : Value} {L : List α} (h : RdE f k d w v L) (hk : 0 < k) (hL : 0 < L.length) : ∀ g ∈ ob v, g < w.heap.size := fun g hg => by
  obtain ⟨b, off, cap, e, hcell⟩ := h.at' 0 hL
  have hl := (h.each _ (getD_mem' (d := d) hL)).1
  have h1 := hcell 0 hk
  rw [List.getElem?_eq_getElem (by omega)] at h1
  have h2 : b < w.heap.size := World.block_lt_of_cell? _ _ h1
  rw [e] at hg
  have h3 := mem_ob.1 hg
  simp [Value.ownBlock] at h3
  omega
end
theorem run_append_atK {P : Program} (w : World) (base : Nat) (t ty e : TypeId) (i : TypeInfo) (z : Value) (k bytes : Nat) (ht : P.underlying t = some (.slice e)) (hi : P.info? e = some i) (hz : i.zero = some z)
    (hsize : i.size = k) (hby : i.bytes = bytes) (hzs : z.cells.size = k) (hk : 0 < k)
    (v : Value) (n : Nat) (xs : List Value) (hown : w.ownsRow base e k v n xs)
    (a : Addr) (m c : Nat) (news : List Value) (hl : news.length = m * k) (hnews : ∀ j u, news[j]? = some u → w.cell? (a.add j) = some u) (h1 : ∀ u ∈ news, u.oneCell' = true)
    (h63 : n + m ≤ maxLen) (hbytes : (n + m) * bytes ≤ 140737488355328) (hbase : base ≤ w.heap.size) :
    ∃ v' w', (Builtin.append_ #[t, t] ty #[v, .slice (some a) m c]).run P w = .ok v' w' ∧ w'.ownsRow base e k v' (n + m) (xs ++ news) ∧ w.grownBy w' v.ownBlock ∧
      (v'.ownBlock = v.ownBlock ∨ v'.ownBlock = some w.heap.size) := by
  obtain ⟨v', w', hr, h2, h3, -⟩ := run_append_own (P := P) w base t ty e i z k bytes ht hi hz hsize hby hzs hk v n xs hown a m c news hl hnews h1 h63 hbytes hbase
  refine ⟨v', w', hr, h2, h3, ?_⟩
  have hsmall : n + m ≤ 9223372036854775807 := by simp only [maxLen] at h63; omega
  have hl2 : news.length = m * i.size := by rw [hsize]; exact hl
  rcases hown.2 with ⟨rfl, rfl⟩ | ⟨g, cap, cur, rfl, hbg, hg, hnc, hcm, hcs, htake⟩
  · by_cases hm : m = 0
    · subst hm
      have hn : news = [] := List.eq_nil_of_length_eq_zero (by simpa using hl)
      subst hn
      have e1 : (Builtin.append_ #[t, t] ty #[.slice none 0 0, .slice (some a) 0 c]).run P w = .ok (.slice none 0 0) w := by
        simp [Builtin.append_, run_underlying ht, sizeOf, typeInfo, hi, Builtin.lenOf, Builtin.firstCells, loadCells, loadCellsFrom]
      rw [e1] at hr
      cases hr
      exact .inl rfl
    · have e1 := run_append_nil (P := P) w t ty e i z ht hi hz a m c news hl2 hnews (by omega) (by omega) (by have hb := hbytes; simp only [Nat.zero_add] at hb; rw [hby]; omega)
      rw [e1] at hr
      cases hr
      exact .inr rfl
  · by_cases hroom : n + m ≤ cap
    · have hfit : n * i.size + news.length ≤ cur.size := by rw [hl, hcs, hsize, ← Nat.add_mul]; exact Nat.mul_le_mul_right k hroom
      have e1 := run_append_room (P := P) w t ty e i ht hi g n cap cur hg a m c news hl2 hnews h1 hroom hfit
      rw [e1] at hr
      cases hr
      exact .inl rfl
    · have holds : ∀ j u, xs[j]? = some u → w.cell? ((⟨g, 0, none⟩ : Addr).add j) = some u := hown.cells (g := g) rfl
      have e1 := run_append_grow (P := P) w t ty e i z ht hi hz ⟨g, 0, none⟩ n cap xs (by rw [hsize]; exact hown.1) holds a m c news hl2 hnews (by omega) (by omega) (growslice_fits (by omega) (by rw [hby]; exact hbytes))
      rw [e1] at hr
      cases hr
      exact .inr rfl
/-- Elements of type e, of which slices are of type t: k cells, so many bytes. -/
structure Elt (P : Program) (t e : TypeId) (k bytes : Nat) : Prop where
  sl : P.underlying t = some (.slice e)
  info : ∃ i z, P.info? e = some i ∧ i.zero = some z ∧ i.size = k ∧ i.bytes = bytes ∧ z.cells.size = k
  pos : 0 < k
section
variable {α : Type} {f : α → List Value} {P : Program} {t e : TypeId} {k bytes : Nat} {d : α}
theorem run_appE (hE : Elt P t e k bytes) (w : World) (ty : TypeId) {base : Nat} {v u : Value} {L M : List α} (hown : OwnE f k e w base v L) (hu : RdE f k d w u M) (hlen : (L.length + M.length) * bytes ≤ 140737488355328) (h63 : L.length + M.length ≤ maxLen) (hbase : base ≤ w.heap.size) :
    ∃ v' w', (Builtin.append_ #[t, t] ty #[v, u]).run P w = .ok v' w' ∧ OwnE f k e w' base v' (L ++ M) ∧ Chg (ob v) w w' ∧ (v'.ownBlock = v.ownBlock ∨ v'.ownBlock = some w.heap.size) := by
  obtain ⟨i, z, hi, hz, hs, hb, hzs⟩ := hE.info
  obtain ⟨a, cap, rfl, hl, hm, hn⟩ := hu.shape
  have hM : ∀ x ∈ M, (f x).length = k := fun x hx => (hu.each x hx).1
  cases a with
  | none =>
    have hc := hn rfl
    subst hc
    have : M = [] := List.length_eq_zero_iff.1 (by omega)
    subst this
    refine ⟨v, w, run_append_owned_none (P := P) (w := w) base t ty e i k hE.sl hi v L.length _ hown.own, by rw [List.append_nil]; exact hown, Chg.refl _ _, .inl rfl⟩
  | some ad =>
    obtain ⟨v', w', hr, h2, h3, h4⟩ := run_append_atK (P := P) w base t ty e i z k bytes hE.sl hi hz hs hb hzs hE.pos v L.length _ hown.own ad M.length cap (fl f M) (fl_len f k M hM) (by
      intro j x hj
      have hjl : j < M.length * k := by
        rcases Nat.lt_or_ge j (M.length * k) with q | q
        · exact q
        · rw [List.getElem?_eq_none (by rw [fl_len f k M hM]; exact q)] at hj; cases hj
      have hp := hE.pos
      have hq : j / k < M.length := (Nat.div_lt_iff_lt_mul hp).2 hjl
      obtain ⟨b, off, c2, e2, hcell⟩ := hu.at' (j / k) hq
      obtain ⟨e3, _, _⟩ := Value.slice.inj e2
      have e4 := Option.some.inj e3
      subst e4
      have h5 := fl_get f k d M hM (j / k) (j % k) hq (Nat.mod_lt _ hp)
      rw [show j / k * k + j % k = j by rw [Nat.mul_comm]; exact Nat.div_add_mod j k] at h5
      rw [add_plain]
      have h6 := hcell (j % k) (Nat.mod_lt _ hp)
      rw [Nat.add_assoc, show j / k * k + j % k = j by rw [Nat.mul_comm]; exact Nat.div_add_mod j k] at h6
      rw [h6, ← h5]
      exact hj) (by
      intro x hx
      obtain ⟨l, hl2, hxl⟩ := List.mem_flatten.1 hx
      obtain ⟨y, hy, rfl⟩ := List.mem_map.1 hl2
      exact (hu.each y hy).2 x hxl) h63 hlen hbase
    refine ⟨v', w', hr, ⟨by rw [List.length_append, fl_app]; exact h2, fun x hx => ?_⟩, Chg.ofGrown h3, h4⟩
    rcases List.mem_append.1 hx with q | q
    · exact hown.each x q
    · exact hu.each x q
theorem wp_appE {w : World} {ops : Array Oper} {rest : List Oper} {o : Oper} {ac : Act} {Q : Exit → Act → World → Prop} (hE : Elt P t e k bytes) (hgd : o.guard = none) (s x : Operand)
    (ho : o.op = .call { callee := .builtin .append, args := #[s, x], argTypes := #[t, t] })
    {base : Nat} {v u : Value} {L M : List α} (hs : ac.eval s = v) (hown : OwnE f k e w base v L) (hx : ac.eval x = u) (hu : RdE f k d w u M) (hlen : (L.length + M.length) * bytes ≤ 140737488355328) (h63 : L.length + M.length ≤ maxLen) (hbase : base ≤ w.heap.size)
    (h : ∀ v' w', OwnE f k e w' base v' (L ++ M) → Chg (ob v) w w' → (v'.ownBlock = v.ownBlock ∨ v'.ownBlock = some w.heap.size) → wpList P ops Q rest (ac.put o.dst v') w') : wpList P ops Q (o :: rest) ac w :=
  wpList_plain hgd fun _ hK => by
    obtain ⟨v', w', hr, h2, h3, h4⟩ := run_appE hE w o.type hown hu hlen h63 hbase
    unfold Oper.wp execOp
    simp only [ho, resolve, invoke, builtin, Sem.run_bind, Sem.run_pure, Result.andThen_ok, List.map_toArray, List.map_cons, List.map_nil, hs, hx, hr]
    exact hK _ _ (h v' w' h2 h3 h4)
theorem op_appE {w : World} {o : Oper} {ac : Act} {K : Act → World → Prop} {Q : Exit → Act → World → Prop} (hE : Elt P t e k bytes) (s x : Operand)
    (ho : o.op = .call { callee := .builtin .append, args := #[s, x], argTypes := #[t, t] })
    {base : Nat} {v u : Value} {L M : List α} (hs : ac.eval s = v) (hown : OwnE f k e w base v L) (hx : ac.eval x = u) (hu : RdE f k d w u M) (hlen : (L.length + M.length) * bytes ≤ 140737488355328) (h63 : L.length + M.length ≤ maxLen) (hbase : base ≤ w.heap.size)
    (h : ∀ v' w', OwnE f k e w' base v' (L ++ M) → Chg (ob v) w w' → (v'.ownBlock = v.ownBlock ∨ v'.ownBlock = some w.heap.size) → K (ac.put o.dst v') w') : Oper.wp P o ac w K Q := by
  obtain ⟨v', w', hr, h2, h3, h4⟩ := run_appE hE w o.type hown hu hlen h63 hbase
  unfold Oper.wp execOp
  simp only [ho, resolve, invoke, builtin, Sem.run_bind, Sem.run_pure, Result.andThen_ok, List.map_toArray, List.map_cons, List.map_nil, hs, hx, hr]
  exact h v' w' h2 h3 h4
theorem fold_fill : ∀ (l : List Value) (n : Nat) (arr : Array Value), n + l.length ≤ arr.size →
    ((l.zipIdx n).foldl (fun c x => c.setIfInBounds (0 + x.2) x.1) arr).toList = arr.toList.take n ++ l ++ arr.toList.drop (n + l.length)
  | [], n, arr, _ => by simp
  | x :: l, n, arr, h => by
    have h' : n + (l.length + 1) ≤ arr.size := by simpa using h
    rw [List.zipIdx_cons, List.foldl_cons, fold_fill l (n + 1) _ (by simp; omega)]
    simp only [Nat.zero_add, Array.toList_setIfInBounds, List.length_cons]
    apply List.ext_getElem?
    intro i
    have hn : n < arr.size := by omega
    rcases Nat.lt_trichotomy i n with q | q | q
    · have h1 : i < min (n + 1) (arr.size) := by omega
      have h2 : i < min n arr.size := by omega
      rw [List.append_assoc, List.append_assoc, List.getElem?_append_left (by simp; omega), List.getElem?_append_left (by simp; omega)]
      rw [List.getElem?_take, if_pos (by omega), List.getElem?_take, if_pos q, List.getElem?_set_ne (by omega)]
    · subst q
      rw [List.append_assoc, List.append_assoc, List.getElem?_append_left (by simp; omega), List.getElem?_append_right (by simp; omega)]
      rw [List.getElem?_take, if_pos (by omega), List.getElem?_set_self (by simpa using hn)]
      simp [Nat.min_eq_left (Nat.le_of_lt hn)]
    · rw [List.append_assoc, List.append_assoc, List.getElem?_append_right (l₁ := List.take (n + 1) (arr.toList.set n x)) (by simp; omega), List.getElem?_append_right (l₁ := List.take n arr.toList) (by simp; omega)]
      simp only [List.length_take, List.length_set, Array.length_toList, Nat.min_eq_left (show n + 1 ≤ arr.size by omega), Nat.min_eq_left (Nat.le_of_lt hn)]
      rw [List.cons_append, show i - n = (i - (n + 1)) + 1 by omega, List.getElem?_cons_succ]
      by_cases hl : i - (n + 1) < l.length
      · rw [List.getElem?_append_left hl, List.getElem?_append_left hl]
      · rw [List.getElem?_append_right (by omega), List.getElem?_append_right (by omega), List.getElem?_drop, List.getElem?_drop, List.getElem?_set_ne (by omega)]
        congr 1
        omega
theorem run_sliceE (hE : Elt P t e k bytes) (w : World) (cs : Array Value) (hcs : cs.size = k) (hk : k ≤ 1000) : (Instr.buildSlice t 1 #[(0, .agg cs)]).run P w = .ok (.slice (some ⟨w.heap.size, 0, none⟩) 1 1) (w.alloc (.cells cs e)) := by
  obtain ⟨i, z, hi, hz, hs, hb, hzs⟩ := hE.info
  have hp := hE.pos
  refine run_buildSlice w t e 1 _ cs i z hE.sl hi hz (by rw [hs]; omega) (by rw [hs]; omega) ?_
  rw [hs]
  simp only [Instr.fill, Value.cells, Nat.zero_mul, Nat.zero_add, hcs, Nat.one_mul, Array.size_map, Array.size_range]
  rw [if_neg (by simp)]
  congr 1
  apply Array.ext'
  have h := fold_fill cs.toList 0 ((Array.range k).map (z.cells[· % z.cells.size]!)) (by simp [hcs])
  simp only [Nat.zero_add, List.take_zero, List.nil_append] at h
  rw [List.drop_of_length_le (by simp [hcs]), List.append_nil] at h
  rw [← Array.foldl_toList, Array.toList_zipIdx]
  exact h
theorem wp_sliceE {w : World} {ops : Array Oper} {rest : List Oper} {o : Oper} {ac : Act} {Q : Exit → Act → World → Prop} (hE : Elt P t e k bytes) (hgd : o.guard = none) (x : Operand) (ho : o.op = .buildSlice t 1 #[(0, x)])
    (cs : Array Value) (hx : ac.eval x = .agg cs) (hcs : cs.size = k) (hk : k ≤ 1000)
    (h : wpList P ops Q rest (ac.put o.dst (.slice (some ⟨w.heap.size, 0, none⟩) 1 1)) (w.alloc (.cells cs e))) : wpList P ops Q (o :: rest) ac w :=
  wpList_plain hgd fun _ hK => by
    unfold Oper.wp execOp
    simp only [ho, Sem.run_bind, List.map_toArray, List.map_cons, List.map_nil, hx, run_sliceE hE w cs hcs hk, Result.andThen_ok]
    exact hK _ _ h
theorem op_sliceE {w : World} {o : Oper} {ac : Act} {K : Act → World → Prop} {Q : Exit → Act → World → Prop} (hE : Elt P t e k bytes) (x : Operand) (ho : o.op = .buildSlice t 1 #[(0, x)])
    (cs : Array Value) (hx : ac.eval x = .agg cs) (hcs : cs.size = k) (hk : k ≤ 1000)
    (h : K (ac.put o.dst (.slice (some ⟨w.heap.size, 0, none⟩) 1 1)) (w.alloc (.cells cs e))) : Oper.wp P o ac w K Q := by
  unfold Oper.wp execOp
  simp only [ho, Sem.run_bind, List.map_toArray, List.map_cons, List.map_nil, hx, run_sliceE hE w cs hcs hk, Result.andThen_ok]
  exact h
/-- A new row of one element. -/
theorem rde_one (w : World) (x : α) (hx : (f x).length = k) (h1 : ∀ u ∈ f x, u.oneCell' = true) (fr : TypeId) : RdE f k d (w.alloc (.cells (f x).toArray fr)) (.slice (some ⟨w.heap.size, 0, none⟩) 1 1) [x] := by
  refine ⟨⟨_, _, rfl, Nat.le_refl _, by unfold maxLen; omega, by simp⟩, fun i hi => ?_, fun y hy => by simp at hy; subst hy; exact ⟨hx, h1⟩⟩
  simp at hi
  subst hi
  refine ⟨_, _, _, rfl, fun j hj => ?_⟩
  rw [cell_of_row _ _ _ _ _ _ (heap_alloc_new w _)]
  simp
end
end Go.Proofs.Ythohpbppfihoiaa
