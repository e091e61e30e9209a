/- The program's right, putNums, Put. -/
import Derived.Test.YtkkcdmdkjedkjaaRefs
import Derived.Test.YtkkcdmdkjedkjaaBytes
import Derived.Test.YtkkcdmdkjedkjaaOctN
import Derived.Laws.OwnMore
namespace Go.Proofs.Ytkkcdmdkjedkjaa
open Go.RowKit Go.Lib

section
variable {w : World}
set_option maxHeartbeats 2000000 in
set_option maxRecDepth 100000 in
theorem right_any (r : Rf) (hs : Sm r.s) : Calls Try.prog 46 #[.agg (rc r).toArray] w fun e w' => e = .returned (.bool (rt r)) ∧ Below w.heap.size w w' := by
  have hbox := run_box28
  have hn := rc_num r hs
  have HB : Hid (Below w.heap.size w (w.alloc (.cells (rc r).toArray 56))) := ⟨(Below.refl _ w).alloc (Nat.le_refl _) _⟩
  have d0 : (w.alloc (.cells (rc r).toArray 56)).cell? ⟨w.heap.size, 32, none⟩ = some (.int .i64 r.l) := by rw [cell_of_row _ _ _ _ _ _ (heap_alloc_new w _)]; simpa using hn.1
  have d1 : (w.alloc (.cells (rc r).toArray 56)).cell? ⟨w.heap.size, 33, none⟩ = some (.int .i64 r.b) := by rw [cell_of_row _ _ _ _ _ _ (heap_alloc_new w _)]; simpa using hn.2.1
  have d2 : (w.alloc (.cells (rc r).toArray 56)).cell? ⟨w.heap.size, 34, none⟩ = some (.int .i64 r.o) := by rw [cell_of_row _ _ _ _ _ _ (heap_alloc_new w _)]; simpa using hn.2.2
  have HR : Hid (rt r = decide (1 ≤ r.l ∧ r.l ≤ 512 ∧ 0 ≤ r.b ∧ r.b < 4096 ∧ 0 ≤ r.o ∧ r.o < 64)) := ⟨rfl⟩
  generalize (rc r).toArray = cs at HB d0 d1 d2 ⊢
  generalize rt r = R at HR ⊢
  generalize r.l = l at d0 HR
  generalize r.b = b at d1 HR
  generalize r.o = o at d2 HR
  clear hn
  by_cases h0 : 1 ≤ l
  · skip
    by_cases h1 : l ≤ 512
    · skip
      by_cases h2 : 0 ≤ b
      · skip
        by_cases h3 : b < 4096
        · skip
          by_cases h4 : 0 ≤ o
          · skip
            by_cases h5 : o < 64
            · skip
              go_enter Try.func46, Try.ntmps46
              go_wp2
              go_ret
              exact ⟨by rw [HR.out, decide_eq_true (by omega)]; rfl, HB.out⟩
            · go_enter Try.func46, Try.ntmps46
              go_wp2
              go_ret
              exact ⟨by rw [HR.out, decide_eq_false (by omega)]; rfl, HB.out⟩
          · go_enter Try.func46, Try.ntmps46
            go_wp2
            go_ret
            exact ⟨by rw [HR.out, decide_eq_false (by omega)]; rfl, HB.out⟩
        · go_enter Try.func46, Try.ntmps46
          go_wp2
          go_ret
          exact ⟨by rw [HR.out, decide_eq_false (by omega)]; rfl, HB.out⟩
      · go_enter Try.func46, Try.ntmps46
        go_wp2
        go_ret
        exact ⟨by rw [HR.out, decide_eq_false (by omega)]; rfl, HB.out⟩
    · go_enter Try.func46, Try.ntmps46
      go_wp2
      go_ret
      exact ⟨by rw [HR.out, decide_eq_false (by omega)]; rfl, HB.out⟩
  · go_enter Try.func46, Try.ntmps46
    go_wp2
    go_ret
    exact ⟨by rw [HR.out, decide_eq_false (by omega)]; rfl, HB.out⟩
end

/-- The bytes of numbers, one behind the other. -/
def nums (ns : List Int) : List Int := (ns.map (fun n => Oct.numB n.toNat)).flatten
theorem nums_snoc (ns : List Int) (k : Nat) (hk : k < ns.length) : nums (ns.take (k + 1)) = nums (ns.take k) ++ Oct.numB (ns.getD k 0).toNat := by
  unfold nums
  rw [List.take_add_one, List.getElem?_eq_getElem hk, List.map_append, List.flatten_append]
  simp [List.getD, List.getElem?_eq_getElem hk]
section
variable {w : World}
set_option maxHeartbeats 2000000 in
set_option maxRecDepth 100000 in
theorem putn_any {base : Nat} {v u : Value} {bs ns : List Int} (hO : OwnY w base v bs) (hbase : base ≤ w.heap.size) (hu : RdI w u ns) (hun : ∀ k, u.ownBlock = some k → k ∉ ob v) (hn : ∀ n ∈ ns, 0 ≤ n ∧ n ≤ 9007199254740991) (hlen : ∀ k, k ≤ ns.length → (bs ++ nums (ns.take k)).length ≤ 1000000) (hnl : ns.length ≤ 1000000) :
    Calls Try.prog 45 #[v, u] w fun e w' => ∃ v', e = .returned v' ∧ OwnY w' base v' (bs ++ nums ns) ∧ Chg (ob v) w w' ∧ (∀ k ∈ ob v', k ∈ ob v ∨ w.heap.size ≤ k) := by
  have HO := Hid.mk hO
  have HU := Hid.mk hu
  have Hun := Hid.mk hun
  have Hn := Hid.mk hn
  have Hlen := Hid.mk hlen
  obtain ⟨X, HX⟩ : ∃ X, Hid (ob v = X) := ⟨_, ⟨rfl⟩⟩
  rw [HX.out] at Hun ⊢
  obtain ⟨au, cu, rfl, hcu, _⟩ := hu.shape
  obtain ⟨m, Hm⟩ : ∃ m, Hid (ns.length = m) := ⟨_, ⟨rfl⟩⟩
  rw [Hm.out] at hnl hcu Hun HU ⊢
  obtain ⟨av, cv, rfl, _⟩ := hO.shape
  have HXs : Hid (∀ k ∈ ob (.slice av bs.length cv), k ∈ X ∨ w.heap.size ≤ k) := ⟨fun k hk => .inl (by rw [← HX.out]; exact hk)⟩
  obtain ⟨nb, Hnb⟩ : ∃ n, Hid (bs.length = n) := ⟨_, ⟨rfl⟩⟩
  rw [Hnb.out] at HO HXs ⊢
  clear hO hu hun hn hlen HX
  go_enter Try.func45, Try.ntmps45
  go_wp2_with fail
  go_loopg [0, 6, 7, 8, 11] m (fun gg s0 _ _ _ s11 wr => ∃ kk : Nat, kk ≤ m ∧ m - kk ≤ gg ∧ s11 = .int .i64 (kk : Int) ∧ Hid (OwnY wr base s0 (bs ++ nums (ns.take kk))) ∧ Hid (Chg X w wr) ∧ Hid (∀ k ∈ ob s0, k ∈ X ∨ w.heap.size ≤ k))
  case atStart => exact ⟨0, Nat.zero_le _, by omega, rfl, ⟨by simpa [nums] using HO.out⟩, ⟨Chg.refl _ _⟩, HXs⟩
  case round =>
    clear HO HXs
    obtain ⟨kk, hkk, hgg, rfl, HO, HG, HV⟩ := hrel
    obtain ⟨a0, c0, e0, _⟩ := HO.out.shape
    subst e0
    obtain ⟨n0, Hn0⟩ : ∃ n, Hid ((bs ++ nums (ns.take kk)).length = n) := ⟨_, ⟨rfl⟩⟩
    rw [Hn0.out] at HO HV ⊢
    by_cases hlt : kk < m
    · have hltz : (kk : Int) < (m : Int) := by omega
      have hkL : kk < ns.length := by rw [Hm.out]; exact hlt
      have hrd : RdI wr (.slice au m cu) ns := HU.out.far HG.out (fun _ k hk => Hun.out k hk)
      obtain ⟨b1, o1, c1, e1, _, hcell⟩ := hrd.at hkL
      rw [Hm.out] at e1
      simp at e1
      obtain ⟨rfl, rfl⟩ := e1
      have hx := hcell kk hkL
      have hxn := Hn.out _ (getD_mem' (d := 0) hkL)
      have HS := Hid.mk (nums_snoc ns kk hkL)
      have hl2 := Hlen.out (kk + 1) (by omega)
      rw [HS.out] at hl2
      clear hcell hrd
      generalize ns.getD kk 0 = x at hx hxn HS hl2
      obtain ⟨y, rfl⟩ := Int.eq_ofNat_of_zero_le hxn.1
      have t := Oct.num_good y wr (by omega)
      obtain ⟨Y, HY⟩ : ∃ Y, Hid (Oct.numB y = Y) := ⟨_, ⟨rfl⟩⟩
      rw [HY.out] at t
      have eY : ((y : Nat) : Int).toNat = y := rfl
      rw [eY, HY.out] at HS hl2
      have hl3 : (bs ++ nums (ns.take kk)).length + Y.length ≤ 1000000000000 := by simp at hl2 ⊢; omega
      have hbw : base ≤ wr.heap.size := Nat.le_trans hbase HG.out.size
      clear hl2
      go_upto_region 5 with (go_at_call 54; refine t.mono ?_; rintro e w2 ⟨v2, rfl, hO2, hb2⟩)
      have HO2 : Hid (OwnY w2 base (.slice a0 n0 c0) (bs ++ nums (ns.take kk))) := ⟨own_far HO.out (Chg.ofBelow (X := []) hb2) (by simp)⟩
      have HR2 : Hid (RdY w2 v2 Y) := ⟨own_rd hO2⟩
      have HB2 := Hid.mk hb2
      have hb3 : base ≤ w2.heap.size := Nat.le_trans hbw hb2.size
      obtain ⟨a2, c2, e2, _⟩ := HR2.out.shape
      subst e2
      obtain ⟨nY, HnY⟩ : ∃ n, Hid (Y.length = n) := ⟨_, ⟨rfl⟩⟩
      rw [HnY.out] at HR2 ⊢
      clear hO2 hb2 t
      go_wp2_with (at_builtin; refine wp_appY rfl (.tmp 20) (.tmp 21) rfl rfl HO2.out rfl HR2.out hl3 hb3 ?_; intro v3 w3 hO3 hG3 hV3; replace hG3 : Chg (ob (.slice a0 n0 c0)) w2 w3 := hG3; replace hV3 : v3.ownBlock = Value.ownBlock (.slice a0 n0 c0) ∨ v3.ownBlock = some w2.heap.size := hV3)
      go_roundg (m - (kk + 1))
      case measure => omega
      case rel =>
        refine ⟨kk + 1, by omega, by omega, by go_num, ⟨by rw [HS.out, ← List.append_assoc]; exact hO3⟩, ⟨(HG.out.thenNew (Chg.ofBelow (X := []) HB2.out) (by simp)).thenNew hG3 (fun x hx => HV.out x hx)⟩, ⟨fun k hk => ?_⟩⟩
        rcases hV3 with q | q
        · exact HV.out k (mem_ob.2 (by rw [← q]; exact mem_ob.1 hk))
        · have e := mem_ob.1 hk
          rw [q] at e
          cases e
          exact .inr (Nat.le_trans HG.out.size HB2.out.size)
    · obtain rfl : m = kk := by omega
      have HT : Hid (ns.take m = ns) := ⟨List.take_of_length_le (by rw [Hm.out]; exact Nat.le_refl _)⟩
      rw [HT.out] at HO
      go_wp2_with fail
      go_ret
      exact ⟨_, rfl, HO.out, HG.out, HV.out⟩
end

/-- The bytes of a ref. -/
def refB (r : Rf) : List Int := r.s ++ nums [r.l, r.b, r.o]
def refsB (L : List Rf) : List Int := (L.map refB).flatten
/-- What Put answers: the bytes, and the error. -/
def putR (L : List Rf) : List Int × Int := if 64 < L.length then ([], 6) else if L.all rt then (Oct.numB L.length ++ refsB L, 0) else ([], 2)
theorem rt_iff (r : Rf) : rt r = true ↔ (1 ≤ r.l ∧ r.l ≤ 512 ∧ 0 ≤ r.b ∧ r.b < 4096 ∧ 0 ≤ r.o ∧ r.o < 64) := by unfold rt; exact decide_eq_true_iff
theorem nums3 (a b c : Int) : nums [a, b, c] = Oct.numB a.toNat ++ (Oct.numB b.toNat ++ Oct.numB c.toNat) := by unfold nums; simp
theorem nums_take_len (a b c : Int) (ha : a ≤ 9007199254740991) (hb : b ≤ 9007199254740991) (hc : c ≤ 9007199254740991) : ∀ k, (nums ([a, b, c].take k)).length ≤ 24 := by
  have h1 := Oct.numB_len8 a.toNat (by omega)
  have h2 := Oct.numB_len8 b.toNat (by omega)
  have h3 := Oct.numB_len8 c.toNat (by omega)
  intro k
  match k with
  | 0 => simp [nums]
  | 1 => simp [nums]; omega
  | 2 => simp [nums]; omega
  | k + 3 => simp [nums]; omega
theorem refB_len {r : Rf} (hs : Sm r.s) (h : rt r = true) : (refB r).length ≤ 56 := by
  have := (rt_iff r).1 h
  have := nums_take_len r.l r.b r.o (by omega) (by omega) (by omega) 3
  unfold refB
  rw [List.length_append, hs.len]
  simp only [List.take] at this
  omega
theorem refsB_len : ∀ (L : List Rf), (∀ r ∈ L, Sm r.s ∧ rt r = true) → (refsB L).length ≤ 56 * L.length
  | [], _ => by simp [refsB]
  | r :: L, h => by
    have h1 := refsB_len L (fun x hx => h x (by simp [hx]))
    have h2 := refB_len (h r (by simp)).1 (h r (by simp)).2
    unfold refsB at h1 ⊢
    simp only [List.map_cons, List.flatten_cons, List.length_append, List.length_cons]
    omega
theorem refsB_snoc (L : List Rf) (k : Nat) (hk : k < L.length) : refsB (L.take (k + 1)) = refsB (L.take k) ++ refB (L.getD k r0) := by
  unfold refsB
  rw [List.take_add_one, List.getElem?_eq_getElem hk, List.map_append, List.flatten_append]
  simp [List.getD, List.getElem?_eq_getElem hk]
section
variable {w : World} {o : Oper} {a : Act} {K : Act → World → Prop} {Q : Exit → Act → World → Prop}
theorem op_appY (s x : Operand)
    (ho : o.op = .call { callee := .builtin .append, args := #[s, x], argTypes := #[72, 72] })
    {base : Nat} {v u : Value} {xs ys : List Int} (hs : a.eval s = v) (hown : OwnY w base v xs)
    (hx : a.eval x = u) (hu : RdY w u ys) (hlen : xs.length + ys.length ≤ 1000000000000) (hbase : base ≤ w.heap.size)
    (h : ∀ v' w', OwnY w' base v' (xs ++ ys) → Chg (ob v) w w' → (v'.ownBlock = v.ownBlock ∨ v'.ownBlock = some w.heap.size) → K (a.put o.dst v') w') :
    Oper.wp Try.prog o a w K Q := by
  obtain ⟨i0, hi, hz0, hz1, hz2⟩ := info_parts' infoByte
  obtain ⟨ao, cap, rfl, hl, hm, hn, hc⟩ := hu
  cases ao with
  | none =>
    have hcap := hn rfl
    subst hcap
    have hy : ys = [] := by rw [yv_len] at hl; exact List.length_eq_zero_iff.1 (by omega)
    subst hy
    have hrun := run_append_owned_none (P := Try.prog) (w := w) base 72 o.type 5 i0 1 Try.underlying72 hi v xs.length _ hown
    unfold Oper.wp
    simp [execOp, ho, resolve, invoke, builtin, hs, hx, hrun, Result.andThen, yv_len]
    exact h v w (by simpa [OwnY] using hown) (Chg.refl _ _) (.inl rfl)
  | some ad =>
    rw [yv_len] at hx hl hc
    obtain ⟨v', w', hr, h2, h3, h4⟩ := run_append_at (P := Try.prog) w base 72 o.type 5 i0 (.int .u8 0) 1 Try.underlying72 hi hz0 hz1 hz2 rfl v xs.length _ hown ad ys.length cap (yv ys) (yv_len ys) (by
      intro j u hj
      have hjl : j < ys.length := by
        rcases Nat.lt_or_ge j ys.length with h | h
        · exact h
        · rw [List.getElem?_eq_none (by rw [yv_len]; exact h)] at hj; cases hj
      rw [hc ad rfl j hjl]
      exact hj) (yv_one ys) (by unfold maxLen; omega) (by omega) hbase
    unfold Oper.wp execOp
    simp only [ho, resolve, invoke, builtin, Sem.run_bind, Sem.run_pure, Result.andThen_ok, List.map_toArray, List.map_cons, List.map_nil, hs, hx, hr]
    exact h v' w' (by unfold OwnY; rw [yv_app, List.length_append]; exact h2) (Chg.ofGrown h3) h4
end
/-- A ref in a block of its own. -/
structure RefAt (w : World) (q : Nat) (r : Rf) : Prop where
  row : w.heap[q]? = some (.cells (rc r).toArray 56 (0, 0))
  sm : Sm r.s
theorem RefAt.cell {w : World} {q : Nat} {r : Rf} (h : RefAt w q r) (j : Nat) : w.cell? ⟨q, j, none⟩ = (rc r)[j]? := by rw [cell_of_row _ _ _ _ _ _ h.row]; simp
theorem RefAt.lt {w : World} {q : Nat} {r : Rf} (h : RefAt w q r) : q < w.heap.size := (Array.getElem?_eq_some_iff.1 h.row).1
theorem RefAt.far {w w' : World} {q : Nat} {r : Rf} {X : List Nat} (h : RefAt w q r) (hc : Chg X w w') (hx : q ∉ X) : RefAt w' q r := ⟨(hc.block q h.lt hx).trans h.row, h.sm⟩
theorem RefAt.cells {w : World} {q : Nat} {sx : List Int} {lx bx ox : Int} (h : RefAt w q ⟨sx, lx, bx, ox⟩) : w.cell? ⟨q, 32, none⟩ = some (.int .i64 lx) ∧ w.cell? ⟨q, 33, none⟩ = some (.int .i64 bx) ∧ w.cell? ⟨q, 34, none⟩ = some (.int .i64 ox) := by
  have hn := rc_num ⟨sx, lx, bx, ox⟩ h.sm
  rw [h.cell 32, h.cell 33, h.cell 34]
  exact hn
theorem rdy_of {c : Bool} {p q : Prop} (hc : c = true) (h : p) : if c = true then p else q := by rw [if_pos hc]; exact h
theorem rdi3 (w : World) (a b c : Int) : RdI (w.alloc (.cells #[.int .i64 a, .int .i64 b, .int .i64 c] 3)) (.slice (some ⟨w.heap.size, 0, none⟩) 3 3) [a, b, c] := by
  refine ⟨_, _, rfl, by simp [iv], by unfold maxLen; omega, by simp, fun x hx i hi => ?_⟩
  cases hx
  simp [iv] at hi
  match i, hi with
  | 0, _ => simp [Addr.add, iv]
  | 1, _ => simp [Addr.add, iv]
  | 2, _ => simp [Addr.add, iv]
theorem RefAt.rdS {w : World} {q : Nat} {r : Rf} (h : RefAt w q r) : RdY w (.slice (some ⟨q, 0, none⟩) 32 32) r.s := by
  refine ⟨_, _, by rw [yv_len, h.sm.len], by rw [yv_len, h.sm.len]; exact Nat.le_refl _, by unfold maxLen; omega, by simp, fun x hx i hi => ?_⟩
  cases hx
  rw [yv_len, h.sm.len] at hi
  rw [add_plain, Nat.zero_add, h.cell i, rc_sum r h.sm i hi, yv_get r.s (by rw [h.sm.len]; exact hi)]
section
variable {ops : Array Oper} {rest : List Oper} {o : Oper} {a : Act} {w : World} {Q : Exit → Act → World → Prop}
/-- A ref is stored into a block. -/
theorem wp_storeR (hgd : o.guard = none) (x y : Operand) (ho : o.op = .store 56 x y) (g : Nat) (r : Rf) (hs : Sm r.s) (hx : a.eval x = .pointer (some ⟨g, 0, none⟩)) (hy : a.eval y = .agg (rc r).toArray)
    (old : Array Value) (hg : w.heap[g]? = some (.cells old 56 (0, 0))) (hold : old.size = 35)
    (h : ∀ w', RefAt w' g r → Chg [g] w w' → wpList Try.prog ops Q rest (a.put o.dst undef) w') : wpList Try.prog ops Q (o :: rest) a w := by
  refine wpList_store_row hgd 56 x y ho g (rc r).toArray hx hy 56 old hg (by rw [List.size_toArray, rc_len r hs]; exact info28) (by rw [hold]; simp [rc_len r hs]) (rc_one r) ?_
  exact h _ ⟨setRow_heap _ _ _ _ 56 (0, 0) hg, hs⟩ ⟨rfl, rfl, rfl, by simp, fun k hk hx => setRow_other _ _ k _ (by simpa using hx)⟩
end
section
variable {w : World}
set_option maxHeartbeats 4000000 in
set_option maxRecDepth 100000 in
theorem put_any (v : Value) (L : List Rf) (h : RdR w v L) (hL : L.length ≤ 10000000000000) : Calls Try.prog 33 #[v] w fun e w' => ∃ v', e = .returned (.tuple #[v', .int .i64 (putR L).2]) ∧ OwnY w' w.heap.size v' (putR L).1 ∧ Below w.heap.size w w' := by
  have H := Hid.mk h
  have HP : Hid (putR L = if 64 < L.length then ([], 6) else if L.all rt then (Oct.numB L.length ++ refsB L, 0) else ([], 2)) := ⟨rfl⟩
  obtain ⟨n, Hn⟩ : ∃ n, Hid (L.length = n) := ⟨_, ⟨rfl⟩⟩
  obtain ⟨av, cv, rfl, hcv, hcm, _⟩ := h.shape
  rw [Hn.out] at HP hL H hcv ⊢
  obtain ⟨R, HR⟩ : ∃ R, Hid (putR L = R) := ⟨_, ⟨rfl⟩⟩
  rw [HR.out] at HP ⊢
  clear h
  by_cases h64 : 64 < n
  · have HR' : Hid (R = ([], 6)) := ⟨by rw [HP.out, if_pos h64]⟩
    have e := HR'.out
    subst e
    have hz : (64 : Int) < (n : Int) := by omega
    go_enter Try.func33, Try.ntmps33
    go_wp2
    go_ret2
    exact ⟨_, rfl, owny_nil _ _, Below.refl _ _⟩
  have HR' : Hid (R = if L.all rt then (Oct.numB n ++ refsB L, 0) else ([], 2)) := ⟨by rw [HP.out, if_neg h64]⟩
  have hnz : ¬ (64 : Int) < (n : Int) := by omega
  obtain ⟨w1, Hw1⟩ : ∃ w1, Hid (w.alloc (.cells #[.int .i64 (n : Int)] 3) = w1) := ⟨_, ⟨rfl⟩⟩
  have Hb1 : Hid (Below w.heap.size w w1) := ⟨by rw [← Hw1.out]; exact (Below.refl _ w).alloc (Nat.le_refl _) _⟩
  have t1 := putn_any (w := w1) (base := w.heap.size) (bs := []) (u := .slice (some ⟨w.heap.size, 0, none⟩) 1 1) (ns := [(n : Int)]) (owny_nil _ _) Hb1.out.size (by
    rw [← Hw1.out]
    exact ⟨_, _, rfl, by simp [iv], by unfold maxLen; omega, by simp, fun x hx i hi => by
      cases hx
      simp [iv] at hi
      subst hi
      simp [Addr.add, iv]⟩) (by simp [ob, Value.ownBlock]) (by intro x hx; simp at hx; subst hx; omega) (by
    intro k hk
    have h1 := Oct.numB_len8 n (by omega)
    match k with
    | 0 => simp [nums]
    | k + 1 => simp [nums]; omega) (by simp)
  have HN1 : Hid ([] ++ nums [(n : Int)] = Oct.numB n) := ⟨by unfold nums; simp⟩
  rw [HN1.out] at t1
  obtain ⟨NB, HNB⟩ : ∃ NB, Hid (Oct.numB n = NB) := ⟨_, ⟨rfl⟩⟩
  have HNl : Hid (NB.length ≤ 8) := ⟨by rw [← HNB.out]; exact Oct.numB_len8 n (by omega)⟩
  rw [HNB.out] at t1 HR'
  have hnil : ∀ (k : Nat), k ∉ ob (.slice none 0 0) := by simp [ob, Value.ownBlock]
  go_enter Try.func33, Try.ntmps33
  go_upto_region 3 with fail
  go_upto_region 4 with (go_at_call 45; rw [Hw1.out]; refine t1.mono ?_; rintro e w2 ⟨v2, rfl, hO2, hG2, hV2⟩)
  have HO2 := Hid.mk hO2
  have HB2 : Hid (Below w.heap.size w w2) := ⟨Hb1.out.trans (hG2.below Hb1.out.size (fun x hx => (hnil x hx).elim))⟩
  clear hO2 hG2 hV2 t1 Hw1
  obtain ⟨a2, c2, e2, _⟩ := HO2.out.shape
  subst e2
  obtain ⟨n2, Hn2⟩ : ∃ n2, Hid (NB.length = n2) := ⟨_, ⟨rfl⟩⟩
  rw [Hn2.out] at HO2 ⊢
  go_wp2_with fail
  go_loopg [4, 6, 16] n (fun gg s4 _ s16 wr => ∃ kk : Nat, kk ≤ n ∧ n - kk ≤ gg ∧ s16 = .int .i64 (kk : Int) ∧ Hid (OwnY wr w.heap.size s4 (NB ++ refsB (L.take kk))) ∧ Hid (Below w.heap.size w wr) ∧ Hid (∀ r ∈ L.take kk, Sm r.s ∧ rt r = true))
  case atStart => exact ⟨0, Nat.zero_le _, by omega, rfl, ⟨by simpa [refsB] using HO2.out⟩, HB2, ⟨by simp⟩⟩
  case round =>
    clear HO2 HB2
    obtain ⟨kk, hkk, hgg, rfl, HO, HB, HT⟩ := hrel
    obtain ⟨a4, c4, e4, _⟩ := HO.out.shape
    subst e4
    obtain ⟨n4, Hn4⟩ : ∃ m, Hid ((NB ++ refsB (L.take kk)).length = m) := ⟨_, ⟨rfl⟩⟩
    rw [Hn4.out] at HO ⊢
    by_cases hlt : kk < n
    · have hltz : (kk : Int) < (n : Int) := by omega
      have hkL : kk < L.length := by rw [Hn.out]; exact hlt
      have hRd : RdR wr (.slice av n cv) L := H.out.below HB.out
      obtain ⟨b, off, cap, e, hc⟩ := hRd.at' kk hkL
      have hsm := hRd.sum hkL
      rw [Hn.out] at e
      simp at e
      obtain ⟨rfl, rfl⟩ := e
      have HS := Hid.mk (refsB_snoc L kk hkL)
      have HTs : Hid (L.take (kk + 1) = L.take kk ++ [L.getD kk r0]) := ⟨by rw [List.take_add_one, List.getElem?_eq_getElem hkL]; simp [List.getD, List.getElem?_eq_getElem hkL]⟩
      have Hmem : Hid (L.getD kk r0 ∈ L) := ⟨by simp only [List.getD, List.getElem?_eq_getElem hkL, Option.getD_some]; exact List.getElem_mem hkL⟩
      generalize L.getD kk r0 = r at hc hsm HS HTs Hmem
      have Hc : Hid (∀ j v, (rc r)[j]? = some v → wr.cell? ⟨b, off + kk * 35 + j, none⟩ = some v) := ⟨fun j v hv => by
        have hj : j < 35 := by
          rcases Nat.lt_or_ge j 35 with k | k
          · exact k
          · rw [List.getElem?_eq_none (by rw [rc_len r hsm]; exact k)] at hv; cases hv
        exact (hc j hj).trans hv⟩
      have Hi : Hid ((Try.prog.info? 56).map (·.size) = some (rc r).length) := ⟨by rw [rc_len r hsm]; exact info28⟩
      have Hsm := Hid.mk hsm
      clear hc hsm hRd
      go_upto_region 7 with (first
        | (refine wp_loadA rfl 56 (.tmp 18) rfl b (off + kk * 35) rfl (rc r) _ Hc.out Try.underlying56 rfl Hi.out ?_)
        | (refine wp_storeR rfl (.tmp 6) (.tmp 19) rfl wr.heap.size r Hsm.out rfl rfl _ (heap_alloc_new wr _) rfl ?_; intro w3 hA3 hG3; have HA3 := Hid.mk hA3; have HB3 : Hid (Below wr.heap.size wr w3) := ⟨((Chg.ofBelow (X := []) ((Below.refl _ wr).alloc (Nat.le_refl _) _)).thenNew hG3 (by simp)).below (Nat.le_refl _) (by simp)⟩; clear hA3 hG3))
      obtain ⟨q, Hq⟩ : ∃ q, Hid (wr.heap.size = q) := ⟨_, ⟨rfl⟩⟩
      rw [Hq.out] at HA3 HB3 ⊢
      clear Hc
      have t2 := right_any (w := w3) r Hsm.out
      have HcR : Hid (∀ j v, (rc r)[j]? = some v → w3.cell? ⟨q, 0 + j, none⟩ = some v) := ⟨fun j v hv => by rw [Nat.zero_add, HA3.out.cell j]; exact hv⟩
      obtain ⟨T, HT2⟩ : ∃ T, Hid (rt r = T) := ⟨_, ⟨rfl⟩⟩
      rw [HT2.out] at t2
      cases T with
      | false =>
        have HRf : Hid (R = ([], 2)) := ⟨by
          rw [HR'.out, if_neg (fun hall => ?_)]
          have := List.all_eq_true.1 hall r Hmem.out
          rw [HT2.out] at this
          cases this⟩
        have e := HRf.out
        subst e
        go_wp2_with (first
          | (refine wp_loadA rfl 56 (.tmp 6) rfl q 0 rfl (rc r) _ HcR.out Try.underlying56 rfl Hi.out ?_)
          | (go_at_call 46; refine t2.mono ?_; rintro e w4 ⟨rfl, hb4⟩))
        go_ret2
        exact ⟨_, rfl, owny_nil _ _, HB.out.trans ((HB3.out.mono (by rw [← Hq.out]; exact HB.out.size)).trans (hb4.mono (Nat.le_trans HB.out.size (by rw [Hq.out]; exact Nat.le_of_lt HA3.out.lt))))⟩
      | true =>
      have Hrt := HT2
      go_upto_region 9 with (first
        | (refine wp_loadA rfl 56 (.tmp 6) rfl q 0 rfl (rc r) _ HcR.out Try.underlying56 rfl Hi.out ?_)
        | (go_at_call 46; refine t2.mono ?_; rintro e w4 ⟨rfl, hb4⟩))
      obtain ⟨w5, Hw5⟩ : ∃ w5, Hid (w4.drew = w5) := ⟨_, ⟨rfl⟩⟩
      have HB35 : Hid (Below w3.heap.size w3 w5) := ⟨by rw [← Hw5.out]; exact ⟨hb4.os, hb4.tape, hb4.output, hb4.size, hb4.block⟩⟩
      have HA5 : Hid (RefAt w5 q r) := ⟨HA3.out.far (Chg.ofBelow (X := []) HB35.out) (by simp)⟩
      have HwB : Hid (w.heap.size ≤ q) := ⟨by rw [← Hq.out]; exact HB.out.size⟩
      have HB5 : Hid (Below w.heap.size w w5) := ⟨HB.out.trans ((HB3.out.mono HwB.out).trans (HB35.out.mono (Nat.le_trans HwB.out (Nat.le_of_lt HA3.out.lt))))⟩
      have HO5 : Hid (OwnY w5 w.heap.size (.slice a4 n4 c4) (NB ++ refsB (L.take kk))) := ⟨own_far (own_far HO.out (Chg.ofBelow (X := []) (by rw [Hq.out]; exact HB3.out)) (by simp)) (Chg.ofBelow (X := []) HB35.out) (by simp)⟩
      have HV5 : Hid (∀ k ∈ ob (.slice a4 n4 c4), w.heap.size ≤ k ∧ k ≠ q ∧ k ≠ w5.heap.size) := ⟨fun k hk => by
        have h1 := HO.out.lt k (mem_ob.1 hk)
        have h2 := HA5.out.lt
        have h3 := Hq.out
        omega⟩
      have Hlen : Hid ((NB ++ refsB (L.take kk)).length ≤ 8 + 56 * 64) := ⟨by
        have h1 := refsB_len (L.take kk) HT.out
        have h2 := HNl.out
        have h3 : (L.take kk).length ≤ kk := List.length_take_le _ _
        rw [List.length_append]
        omega⟩
      have HBS0 : Hid (NB ++ refsB (L.take kk) = NB ++ refsB (L.take kk)) := ⟨rfl⟩
      obtain ⟨BS, HBS⟩ : ∃ BS, Hid (NB ++ refsB (L.take kk) = BS) := ⟨_, ⟨rfl⟩⟩
      rw [HBS.out] at HO5 Hlen
      obtain ⟨sx, lx, bx, ox⟩ := r
      have hb := (rt_iff _).1 Hrt.out
      have Hrf : Hid (refB ⟨sx, lx, bx, ox⟩ = sx ++ nums [lx, bx, ox]) := ⟨rfl⟩
      have hb5 : w.heap.size ≤ w5.heap.size := HB5.out.size
      have hla : BS.length + sx.length ≤ 1000000000000 := by have := Hlen.out; have := Hsm.out.len; simp only at this; omega
      have Hns : Hid (∀ n ∈ [lx, bx, ox], 0 ≤ n ∧ n ≤ 9007199254740991) := ⟨fun n hn => by simp only at hb; simp at hn; omega⟩
      have Hln : Hid (∀ k, k ≤ [lx, bx, ox].length → (BS ++ sx ++ nums ([lx, bx, ox].take k)).length ≤ 1000000) := ⟨fun k _ => by
        simp only at hb
        have h1 := nums_take_len lx bx ox (by omega) (by omega) (by omega) k
        have h2 := Hlen.out
        have h3 := Hsm.out.len
        simp only at h3
        rw [List.length_append, List.length_append]
        omega⟩
      have hS3 : (fun w' => w'.cell? ⟨q, 32, none⟩ = some (.int .i64 lx) ∧ w'.cell? ⟨q, 33, none⟩ = some (.int .i64 bx) ∧ w'.cell? ⟨q, 34, none⟩ = some (.int .i64 ox)) w4.drew := by rw [Hw5.out]; exact HA5.out.cells
      clear hb t2 hb4
      refine wp_region_held_drew (S := (fun w' => w'.cell? ⟨q, 32, none⟩ = some (.int .i64 lx) ∧ w'.cell? ⟨q, 33, none⟩ = some (.int .i64 bx) ∧ w'.cell? ⟨q, 34, none⟩ = some (.int .i64 ox))) (by kernel_rfl) hS3 (fun hS => ?_)
      refine wpAnyH_take (i := 0) (v := .slice a4 n4 c4) rfl (by kernel_rfl) (by kernel_rfl) (by kernel_rfl) (fun _ _ _ h => h) (Or.inl ⟨by kernel_rfl, fun _ _ => by kernel_rfl⟩) hS ?_
      refine wpAnyH_take (i := 1) (v := .pointer (some ⟨q, 0, none⟩)) rfl (by kernel_rfl) (by kernel_rfl) (by kernel_rfl) (fun _ _ _ h => h) (Or.inl ⟨by kernel_rfl, fun wx hx => by go_simp⟩) hS ?_
      refine wpAnyH_take (i := 2) (v := .slice (some ⟨q, 0, none⟩) 32 32) rfl (by kernel_rfl) (by kernel_rfl) (by kernel_rfl) (fun _ _ _ h => h) (Or.inl ⟨by kernel_rfl, fun wx hx => by go_simp⟩) hS ?_
      refine wpAnyH_take (i := 4) (v := .pointer (some ⟨q, 32, none⟩)) rfl (by kernel_rfl) (by kernel_rfl) (by kernel_rfl) (fun _ _ _ h => h) (Or.inl ⟨by kernel_rfl, fun wx hx => by go_simp⟩) hS ?_
      refine wpAnyH_take (i := 6) (v := .pointer (some ⟨q, 33, none⟩)) rfl (by kernel_rfl) (by kernel_rfl) (by kernel_rfl) (fun _ _ _ h => h) (Or.inl ⟨by kernel_rfl, fun wx hx => by go_simp⟩) hS ?_
      refine wpAnyH_take (i := 8) (v := .pointer (some ⟨q, 34, none⟩)) rfl (by kernel_rfl) (by kernel_rfl) (by kernel_rfl) (fun _ _ _ h => h) (Or.inl ⟨by kernel_rfl, fun wx hx => by go_simp⟩) hS ?_
      refine wpAnyH_take (i := 5) (v := .int .i64 lx) rfl (by kernel_rfl) (by kernel_rfl) (by kernel_rfl) (fun _ _ _ h => h) (Or.inl ⟨by kernel_rfl, fun wx hx => by obtain ⟨hx1, hx2, hx3⟩ := hx; go_simp⟩) hS ?_
      refine wpAnyH_take (i := 7) (v := .int .i64 bx) rfl (by kernel_rfl) (by kernel_rfl) (by kernel_rfl) (fun _ _ _ h => h) (Or.inl ⟨by kernel_rfl, fun wx hx => by obtain ⟨hx1, hx2, hx3⟩ := hx; go_simp⟩) hS ?_
      refine wpAnyH_take (i := 9) (v := .int .i64 ox) rfl (by kernel_rfl) (by kernel_rfl) (by kernel_rfl) (fun _ _ _ h => h) (Or.inl ⟨by kernel_rfl, fun wx hx => by obtain ⟨hx1, hx2, hx3⟩ := hx; go_simp⟩) hS ?_
      clear hS hS3
      rw [Hw5.out]
      refine wpAnyH_ready (rs := [3, 10]) (by kernel_rfl) (by simp) (AllReadyH.cons rfl (fun Kc hK => ?_) (AllReadyH.cons rfl (fun Kc hK => ?_) AllReadyH.nil))
      · refine rdy_of (by kernel_rfl) ?_
        refine op_appY (.tmp 23) (.tmp 25) rfl (by kernel_rfl) HO5.out (by kernel_rfl) HA5.out.rdS hla hb5 ?_
        intro v6 w6 hO6 hG6 hV6
        obtain ⟨a6, c6, rfl, _⟩ := hO6.shape
        obtain ⟨n6, Hn6⟩ : ∃ m, Hid ((BS ++ sx).length = m) := ⟨_, ⟨rfl⟩⟩
        have HO6 := Hid.mk hO6
        have HV6 : Hid (∀ k ∈ ob (.slice a6 n6 c6), w.heap.size ≤ k ∧ k ≠ q ∧ k < w6.heap.size) := ⟨fun k hk => by
          have hkk := hO6.lt k (by rw [Hn6.out]; exact mem_ob.1 hk)
          refine ⟨hkk.1, ?_, hkk.2⟩
          rcases hV6 with e | e
          · have := HV5.out k (mem_ob.2 (by rw [← e, Hn6.out]; exact mem_ob.1 hk)); omega
          · rw [Hn6.out, mem_ob.1 hk] at e
            have := HA5.out.lt
            cases e
            omega⟩
        have HA6 : Hid (RefAt w6 q ⟨sx, lx, bx, ox⟩) := ⟨HA5.out.far hG6 (fun hm => (HV5.out q hm).2.1 rfl)⟩
        have HB6 : Hid (Below w.heap.size w w6) := ⟨HB5.out.trans (hG6.below hb5 (fun x hx => (HV5.out x hx).1))⟩
        rw [Hn6.out] at HO6 ⊢
        clear hO6 hG6 hV6
        refine hK.out _ _ (HA6.out.cells) (fun hS => ?_)
        clear hK
        refine wpAnyH_ready (rs := [10]) (by kernel_rfl) (by simp) (AllReadyH.cons rfl (fun Kc hK => ?_) AllReadyH.nil)
        go_simp
        obtain ⟨w7, Hw7⟩ : ∃ w7, Hid (w6.alloc (.cells #[.int .i64 lx, .int .i64 bx, .int .i64 ox] 3) = w7) := ⟨_, ⟨rfl⟩⟩
        have HbA : Hid (Below w6.heap.size w6 w7) := ⟨by rw [← Hw7.out]; exact (Below.refl _ w6).alloc (Nat.le_refl _) _⟩
        have HRa : Hid (RdI w7 (.slice (some ⟨w6.heap.size, 0, none⟩) 3 3) [lx, bx, ox]) := ⟨by rw [← Hw7.out]; exact rdi3 w6 lx bx ox⟩
        rw [Hw7.out]
        have HOa : Hid (OwnY w7 w.heap.size (.slice a6 n6 c6) (BS ++ sx)) := ⟨own_far HO6.out (Chg.ofBelow (X := []) HbA.out) (by simp)⟩
        have HBa : Hid (Below w.heap.size w w7) := ⟨HB6.out.trans (HbA.out.mono HB6.out.size)⟩
        have HAa : Hid (RefAt w7 q ⟨sx, lx, bx, ox⟩) := ⟨HA6.out.far (Chg.ofBelow (X := []) HbA.out) (by simp)⟩
        have HVa : Hid (∀ k ∈ ob (.slice a6 n6 c6), w.heap.size ≤ k ∧ k ≠ q) := ⟨fun k hk => ⟨(HV6.out k hk).1, (HV6.out k hk).2.1⟩⟩
        have HUa : Hid (∀ k, (Value.slice (some ⟨w6.heap.size, 0, none⟩) 3 3).ownBlock = some k → k ∉ ob (.slice a6 n6 c6)) := ⟨fun k hk hm => by
          have := (HV6.out k hm).2.2
          simp [Value.ownBlock] at hk
          omega⟩
        have HSa : Hid ((fun w' => w'.cell? ⟨q, 32, none⟩ = some (.int .i64 lx) ∧ w'.cell? ⟨q, 33, none⟩ = some (.int .i64 bx) ∧ w'.cell? ⟨q, 34, none⟩ = some (.int .i64 ox)) w7) := ⟨HAa.out.cells⟩
        have HQa : Hid (q < w7.heap.size ∧ q ∉ ob (.slice a6 n6 c6)) := ⟨HAa.out.lt, fun hm => (HVa.out q hm).2 rfl⟩
        have t5 := putn_any HOa.out HBa.out.size HRa.out (HUa.out) Hns.out Hln.out (by simp)
        refine hK.out _ _ HSa.out (fun hS => ?_)
        clear hK
        refine wpAnyH_ready (rs := [11]) (by kernel_rfl) (by simp) (AllReadyH.cons rfl (fun Kc hK => ?_) AllReadyH.nil)
        go_simp
        refine t5.mono ?_
        rintro e w8 ⟨v8, rfl, hO8, hG8, hV8⟩
        have HO8 := Hid.mk hO8
        have HB8 : Hid (Below w.heap.size w w8) := ⟨HBa.out.trans (hG8.below HBa.out.size (fun x hx => (HVa.out x hx).1))⟩
        obtain ⟨a8, c8, rfl, _⟩ := HO8.out.shape
        obtain ⟨n8, Hn8⟩ : ∃ m, Hid ((BS ++ sx ++ nums [lx, bx, ox]).length = m) := ⟨_, ⟨rfl⟩⟩
        rw [Hn8.out] at HO8 ⊢
        have hS8 : (fun w' => w'.cell? ⟨q, 32, none⟩ = some (.int .i64 lx) ∧ w'.cell? ⟨q, 33, none⟩ = some (.int .i64 bx) ∧ w'.cell? ⟨q, 34, none⟩ = some (.int .i64 ox)) w8 := ⟨(hG8.cell (a := ⟨q, 32, none⟩) HQa.out.1 HQa.out.2).trans HSa.out.1, (hG8.cell (a := ⟨q, 33, none⟩) HQa.out.1 HQa.out.2).trans HSa.out.2.1, (hG8.cell (a := ⟨q, 34, none⟩) HQa.out.1 HQa.out.2).trans HSa.out.2.2⟩
        clear hO8 hG8 hV8 t5
        refine hK.out _ _ hS8 (fun hS => ?_)
        clear hK
        refine wpAnyH_take (i := 12) (v := .slice a8 n8 c8) rfl (by kernel_rfl) (by kernel_rfl) (by kernel_rfl) (fun _ _ _ h => h) (Or.inl ⟨by kernel_rfl, fun _ _ => by kernel_rfl⟩) hS ?_
        refine wpAnyH_done (by kernel_rfl) ?_ _
        clear hS hS8
        go_simp
        go_wp2_with fail
        go_roundg (n - (kk + 1))
        case measure => omega
        case rel =>
          refine ⟨kk + 1, by omega, by omega, by go_num, ⟨by rw [HS.out, ← List.append_assoc, HBS.out, Hrf.out, ← List.append_assoc]; exact HO8.out⟩, HB8, ⟨fun x hx => ?_⟩⟩
          rw [HTs.out] at hx
          rcases List.mem_append.1 hx with z | z
          · exact HT.out x z
          · simp at z; subst z; exact ⟨Hsm.out, Hrt.out⟩
      · go_simp
        obtain ⟨w6, Hw6⟩ : ∃ w6, Hid (w5.alloc (.cells #[.int .i64 lx, .int .i64 bx, .int .i64 ox] 3) = w6) := ⟨_, ⟨rfl⟩⟩
        have HbA : Hid (Below w5.heap.size w5 w6) := ⟨by rw [← Hw6.out]; exact (Below.refl _ w5).alloc (Nat.le_refl _) _⟩
        have Hsz : Hid (w6.heap.size = w5.heap.size + 1) := ⟨by rw [← Hw6.out]; simp⟩
        have HR6 : Hid (RdI w6 (.slice (some ⟨w5.heap.size, 0, none⟩) 3 3) [lx, bx, ox]) := ⟨by rw [← Hw6.out]; exact rdi3 w5 lx bx ox⟩
        rw [Hw6.out]
        have HO6 : Hid (OwnY w6 w.heap.size (.slice a4 n4 c4) BS) := ⟨own_far HO5.out (Chg.ofBelow (X := []) HbA.out) (by simp)⟩
        have HA6 : Hid (RefAt w6 q ⟨sx, lx, bx, ox⟩) := ⟨HA5.out.far (Chg.ofBelow (X := []) HbA.out) (by simp)⟩
        have HB6 : Hid (Below w.heap.size w w6) := ⟨HB5.out.trans (HbA.out.mono HB5.out.size)⟩
        refine hK.out _ _ (HA6.out.cells) (fun hS => ?_)
        clear hK
        refine wpAnyH_ready (rs := [3]) (by kernel_rfl) (by simp) (AllReadyH.cons rfl (fun Kc hK => ?_) AllReadyH.nil)
        refine rdy_of (by kernel_rfl) ?_
        refine op_appY (.tmp 23) (.tmp 25) rfl (by kernel_rfl) HO6.out (by kernel_rfl) HA6.out.rdS hla HB6.out.size ?_
        intro v7 w7 hO7 hG7 hV7
        obtain ⟨a6, c6, rfl, _⟩ := hO7.shape
        obtain ⟨n6, Hn6⟩ : ∃ m, Hid ((BS ++ sx).length = m) := ⟨_, ⟨rfl⟩⟩
        have HVa0 : Hid (∀ k ∈ ob (.slice a6 n6 c6), w.heap.size ≤ k ∧ k ≠ q ∧ k ≠ w5.heap.size) := ⟨fun k hk => by
          have hkk := hO7.lt k (by rw [Hn6.out]; exact mem_ob.1 hk)
          refine ⟨hkk.1, ?_, ?_⟩
          · rcases hV7 with e | e
            · have := HV5.out k (mem_ob.2 (by rw [← e, Hn6.out]; exact mem_ob.1 hk)); omega
            · rw [Hn6.out, mem_ob.1 hk] at e
              have := HA6.out.lt
              cases e
              omega
          · rcases hV7 with e | e
            · have := HV5.out k (mem_ob.2 (by rw [← e, Hn6.out]; exact mem_ob.1 hk)); omega
            · rw [Hn6.out, mem_ob.1 hk] at e
              have := Hsz.out
              cases e
              omega⟩
        have HAa : Hid (RefAt w7 q ⟨sx, lx, bx, ox⟩) := ⟨HA6.out.far hG7 (fun hm => (HV5.out q hm).2.1 rfl)⟩
        have HBa : Hid (Below w.heap.size w w7) := ⟨HB6.out.trans (hG7.below HB6.out.size (fun x hx => (HV5.out x hx).1))⟩
        have HRa : Hid (RdI w7 (.slice (some ⟨w5.heap.size, 0, none⟩) 3 3) [lx, bx, ox]) := ⟨HR6.out.far hG7 (fun _ k hk hm => by
          have := (HV5.out k hm).2.2
          simp [Value.ownBlock] at hk
          omega)⟩
        have HOa := Hid.mk hO7
        rw [Hn6.out] at HOa ⊢
        clear hO7 hG7 hV7
        have HVa : Hid (∀ k ∈ ob (.slice a6 n6 c6), w.heap.size ≤ k ∧ k ≠ q) := ⟨fun k hk => ⟨(HVa0.out k hk).1, (HVa0.out k hk).2.1⟩⟩
        have HUa : Hid (∀ k, (Value.slice (some ⟨w5.heap.size, 0, none⟩) 3 3).ownBlock = some k → k ∉ ob (.slice a6 n6 c6)) := ⟨fun k hk hm => by
          have := (HVa0.out k hm).2.2
          simp [Value.ownBlock] at hk
          omega⟩
        have HSa : Hid ((fun w' => w'.cell? ⟨q, 32, none⟩ = some (.int .i64 lx) ∧ w'.cell? ⟨q, 33, none⟩ = some (.int .i64 bx) ∧ w'.cell? ⟨q, 34, none⟩ = some (.int .i64 ox)) w7) := ⟨HAa.out.cells⟩
        have HQa : Hid (q < w7.heap.size ∧ q ∉ ob (.slice a6 n6 c6)) := ⟨HAa.out.lt, fun hm => (HVa.out q hm).2 rfl⟩
        have t5 := putn_any HOa.out HBa.out.size HRa.out (HUa.out) Hns.out Hln.out (by simp)
        refine hK.out _ _ HSa.out (fun hS => ?_)
        clear hK
        refine wpAnyH_ready (rs := [11]) (by kernel_rfl) (by simp) (AllReadyH.cons rfl (fun Kc hK => ?_) AllReadyH.nil)
        go_simp
        refine t5.mono ?_
        rintro e w8 ⟨v8, rfl, hO8, hG8, hV8⟩
        have HO8 := Hid.mk hO8
        have HB8 : Hid (Below w.heap.size w w8) := ⟨HBa.out.trans (hG8.below HBa.out.size (fun x hx => (HVa.out x hx).1))⟩
        obtain ⟨a8, c8, rfl, _⟩ := HO8.out.shape
        obtain ⟨n8, Hn8⟩ : ∃ m, Hid ((BS ++ sx ++ nums [lx, bx, ox]).length = m) := ⟨_, ⟨rfl⟩⟩
        rw [Hn8.out] at HO8 ⊢
        have hS8 : (fun w' => w'.cell? ⟨q, 32, none⟩ = some (.int .i64 lx) ∧ w'.cell? ⟨q, 33, none⟩ = some (.int .i64 bx) ∧ w'.cell? ⟨q, 34, none⟩ = some (.int .i64 ox)) w8 := ⟨(hG8.cell (a := ⟨q, 32, none⟩) HQa.out.1 HQa.out.2).trans HSa.out.1, (hG8.cell (a := ⟨q, 33, none⟩) HQa.out.1 HQa.out.2).trans HSa.out.2.1, (hG8.cell (a := ⟨q, 34, none⟩) HQa.out.1 HQa.out.2).trans HSa.out.2.2⟩
        clear hO8 hG8 hV8 t5
        refine hK.out _ _ hS8 (fun hS => ?_)
        clear hK
        refine wpAnyH_take (i := 12) (v := .slice a8 n8 c8) rfl (by kernel_rfl) (by kernel_rfl) (by kernel_rfl) (fun _ _ _ h => h) (Or.inl ⟨by kernel_rfl, fun _ _ => by kernel_rfl⟩) hS ?_
        refine wpAnyH_done (by kernel_rfl) ?_ _
        clear hS hS8
        go_simp
        go_wp2_with fail
        go_roundg (n - (kk + 1))
        case measure => omega
        case rel =>
          refine ⟨kk + 1, by omega, by omega, by go_num, ⟨by rw [HS.out, ← List.append_assoc, HBS.out, Hrf.out, ← List.append_assoc]; exact HO8.out⟩, HB8, ⟨fun x hx => ?_⟩⟩
          rw [HTs.out] at hx
          rcases List.mem_append.1 hx with z | z
          · exact HT.out x z
          · simp at z; subst z; exact ⟨Hsm.out, Hrt.out⟩

    · obtain rfl : n = kk := by omega
      have HTt : Hid (L.take n = L) := ⟨List.take_of_length_le (by rw [Hn.out]; exact Nat.le_refl _)⟩
      rw [HTt.out] at HO HT
      have HRt : Hid (R = (NB ++ refsB L, 0)) := ⟨by rw [HR'.out, if_pos (List.all_eq_true.2 (fun x hx => (HT.out x hx).2))]⟩
      have e := HRt.out
      subst e
      go_wp2_with fail
      go_ret2
      exact ⟨_, rfl, HO.out, HB.out⟩
end
end Go.Proofs.Ytkkcdmdkjedkjaa
