/- slices.Clone, slices.DeleteFunc of shards; checkShards. -/
import Derived.Test.YtbdmbhpmbklaiaaS8
namespace Go.Proofs.Ytbdmbhpmbklaiaa
open Go.RowKit Gf

theorem run_clearV (w : World) (ty g o n c : Nat) (C : Array Value) (hg : w.heap[g]? = some (.cells C 33 (0, 0))) (hn : 0 < n) (hfit : o + n ≤ C.size) :
    (Builtin.clear_ #[22] ty #[.slice (some ⟨g, o, none⟩) n c]).run Try.prog w = .ok (.tuple #[]) (w.setRow g (C.toList.take o ++ List.replicate n (Value.slice none 0 0) ++ C.toList.drop (o + n)).toArray) := by
  have hzc : (Builtin.zeroCells (Value.slice none 0 0).cells n).toList = List.replicate n (.slice none 0 0) := by
    simp [Builtin.zeroCells, Value.cells]
    apply List.ext_getElem
    · simp
    · intro i h1 h2
      simp [Nat.mod_one]
  have hst := run_storeCells_at Try.prog g o 33 (List.replicate n (.slice none 0 0)) 0 C w hg (by simpa using hfit) (by intro v hv'; rw [List.eq_of_mem_replicate hv']; rfl)
  simp only [Nat.add_zero, List.length_replicate] at hst
  obtain ⟨m, rfl⟩ : ∃ m, n = m + 1 := ⟨n - 1, by omega⟩
  simp [Builtin.clear_, run_underlying Try.underlying22, Try.zeroValue33, hzc, hst]
theorem ownR_cap {w : World} {B : Nat × TypeId} {base : Nat} {v : Value} {L : List Sd} (h : OwnR w B base v L) (h0 : 0 < L.length) : ∃ g c cur, v = .slice (some ⟨g, 0, none⟩) L.length c ∧ L.length ≤ c ∧ c ≤ maxLen ∧ w.heap[g]? = some (.cells cur 33 (0, 0)) ∧ cur.size = c := by
  obtain ⟨vs, h1, h2⟩ := h
  rcases h1.2 with ⟨_, hn⟩ | ⟨g, cap, cur, e, hb, hh, a1, a2, a3, a4⟩
  · omega
  · exact ⟨g, cap, cur, e, a1, a2, hh, by rw [a3, Nat.mul_one]⟩
theorem ownR_stored {w : World} {B : Nat × TypeId} {base g n c : Nat} {L : List Sd} (h : OwnR w B base (.slice (some ⟨g, 0, none⟩) n c) L) (hB : B.1 ≤ base) (hT : B.2 ≠ 33) (j : Nat) {u : Value} {s : Sd} (hs : RdS w B u s) :
    OwnR (w.setCell ⟨g, j, none⟩ u) B base (.slice (some ⟨g, 0, none⟩) n c) (L.set j s) := by
  have hn : n = L.length := by obtain ⟨a', c', e, _⟩ := h.rd.shape; simp at e; exact e.2.1
  subst hn
  have hi := h.inn hB hT
  obtain ⟨vs, h1, h2⟩ := h
  refine ⟨vs.set j u, by rw [List.length_set]; exact (World.ownsRow.stored h1 j u).1, ?_⟩
  have hc := (Chg.refl [g] w).setCell (a := ⟨g, j, none⟩) (.inl (by simp)) u
  exact (h2.set j hs).far hc (fun k hk hm => hi k hk (by simp at hm; subst hm; simp [ob, Value.ownBlock]))
theorem ownR_frozenAt {w : World} {B : Nat × TypeId} {base g n c : Nat} {L : List Sd} (h : OwnR w B base (.slice (some ⟨g, 0, none⟩) n c) L) (j : Nat) : w.frozen? ⟨g, j, none⟩ = false := by
  have hn : n = L.length := by obtain ⟨a', c', e, _⟩ := h.rd.shape; simp at e; exact e.2.1
  subst hn
  obtain ⟨vs, h1, h2⟩ := h
  exact World.ownsRow.frozenAt h1 j
/-- What stands behind is cleared: a beginning stays. -/
theorem ownR_cleared {w : World} {B : Nat × TypeId} {base g n c i : Nat} {L : List Sd} {cur : Array Value} (h : OwnR w B base (.slice (some ⟨g, 0, none⟩) n c) L) (hB : B.1 ≤ base) (hT : B.2 ≠ 33) (hcur : w.heap[g]? = some (.cells cur 33 (0, 0))) (hi : i ≤ n) (D : Array Value) (hD : D.size = cur.size) (hDt : D.toList.take i = cur.toList.take i) :
    OwnR (w.setRow g D) B base (.slice (some ⟨g, 0, none⟩) i c) (L.take i) := by
  have hn : n = L.length := by obtain ⟨a', c', e, _⟩ := h.rd.shape; simp at e; exact e.2.1
  subst hn
  have hin := h.inn hB hT
  obtain ⟨vs, h1, h2⟩ := h
  rcases h1.2 with ⟨e, _⟩ | ⟨g', cap, cur', e, hb, hh, a1, a2, a3, a4⟩
  · simp at e
  · simp only [Value.slice.injEq, Option.some.injEq, Addr.mk.injEq, and_true, true_and] at e
    obtain ⟨rfl, rfl⟩ := e
    rw [hcur] at hh
    simp only [Option.some.injEq, Obj.cells.injEq, and_true] at hh
    subst hh
    have hl : (L.take i).length = i := by rw [List.length_take]; omega
    have hvl : vs.length = L.length := h2.1
    refine ⟨vs.take i, ⟨by rw [hl, List.length_take, hvl, Nat.mul_one]; omega, .inr ⟨g, c, D, by rw [hl], hb, setRow_heap w g _ _ 33 _ hcur, by rw [hl]; omega, a2, by rw [hD]; exact a3, ?_⟩⟩, ?_⟩
    · rw [hl, Nat.mul_one, hDt]
      have a4' : cur.toList.take L.length = vs := by simpa using a4
      rw [← a4', List.take_take, Nat.min_eq_left hi]
    · have hc : Chg [g] w (w.setRow g D) := ⟨rfl, rfl, rfl, by simp [World.setRow], fun k _ hx => setRow_other w g k D (by simpa using hx)⟩
      have h3 := h2.far hc (fun k hk hm => hin k hk (by simp at hm; subst hm; simp [ob, Value.ownBlock]))
      refine ⟨by rw [List.length_take, hl, hvl]; omega, fun j hj => ?_⟩
      rw [hl] at hj
      obtain ⟨u, hu, hs⟩ := h3.2 j (by omega)
      refine ⟨u, by rw [List.getElem?_take, if_pos hj]; exact hu, ?_⟩
      have e : (L.take i).getD j none = L.getD j none := by simp only [List.getD]; rw [List.getElem?_take, if_pos hj]
      rw [e]
      exact hs
theorem flt_take {L : List Sd} {j : Nat} (hj : j < L.length) : (L.take (j + 1)).filter Option.isSome = (L.take j).filter Option.isSome ++ (if (L.getD j none).isSome then [L.getD j none] else []) := by
  rw [List.take_succ_eq_append_getElem hj, List.filter_append]
  have e : L.getD j none = L[j] := by simp [List.getD, List.getElem?_eq_getElem hj]
  rw [e]
  cases h : L[j].isSome <;> simp [h]
section
variable {w : World}
theorem lost_idx {v : Value} {L : List Sd} {B : Nat × TypeId} (hv : RdR w B v L) (hl : L.length ≤ 1000000) : Calls Try.prog 45 #[v, .func (.func 44) #[] #[]] w fun e w' => ∃ z : Int, e = .returned (.int .i64 z) ∧ ((z = -1 ∧ ∀ i, i < L.length → pLost (L.getD i none) = false) ∨ ∃ i : Nat, z = i ∧ i < L.length ∧ pLost (L.getD i none) = true ∧ ∀ j, j < i → pLost (L.getD j none) = false) ∧ w = w' :=
  idx_lost v L pLost hv hl (fun i a c hi ha => (isLost44 a _ c).mono fun e w' h => ⟨by
    rw [h.1]
    congr 2
    cases a <;> cases hh : L.getD i none <;> simp_all [pLost], h.2⟩)
set_option maxHeartbeats 4000000 in
set_option maxRecDepth 100000 in
theorem clone43 {v : Value} {L : List Sd} {B : Nat × TypeId} (hv : RdR w B v L) (hB : B.1 ≤ w.heap.size) (hT : B.2 ≠ 33) (hl : L.length ≤ 1000000) : Calls Try.prog 43 #[v] w fun e w' => ∃ a n c, e = .returned (.slice a n c) ∧ OwnR w' B w.heap.size (.slice a n c) L ∧ Below w.heap.size w w' := by
  obtain ⟨va, vc, rfl, h1, h2, h3⟩ := hv.shape
  have hq := nilEq22 va L.length vc w
  have HV := Hid.mk hv
  cases va with
  | none =>
    have hc := h3 rfl
    have hL : L = [] := List.length_eq_zero_iff.1 (by omega)
    subst hL
    subst hc
    clear hv h3 hq
    have hq : (binOp .eql 22 (.slice none 0 0) (.slice none 0 0)).run Try.prog w = .ok (.bool true) w := nilEq22 none 0 0 w
    show Calls Try.prog 43 #[.slice none 0 0] w _
    go_enter Try.func43, Try.ntmps43
    go_wp2_with fail
    go_ret
    exact ⟨_, _, _, rfl, OwnR.nil _ _ _, Below.refl _ _⟩
  | some ad =>
    obtain ⟨w1, Hw1⟩ : ∃ x, Hid (w.alloc (.cells #[] 33) = x) := ⟨_, ⟨rfl⟩⟩
    have HB1 : Hid (Below w.heap.size w w1) := ⟨by rw [← Hw1.out]; exact (Below.refl _ w).alloc (Nat.le_refl _) _⟩
    have HO1 : Hid (OwnR w1 B w.heap.size (.slice (some ⟨w.heap.size, 0, none⟩) 0 0) []) := ⟨by rw [← Hw1.out]; exact OwnR.none w B⟩
    have HV1 : Hid (RdR w1 B (.slice (some ad) L.length vc) L) := ⟨hv.below HB1.out⟩
    have hlen : ([] : List Sd).length + L.length ≤ 1000000000000 := by simp; omega
    have hb1 := HB1.out.size
    obtain ⟨n, Hn⟩ : ∃ n, Hid (L.length = n) := ⟨_, ⟨rfl⟩⟩
    rw [Hn.out] at HV1 hq
    rw [Hn.out]
    clear hv h3
    go_enter Try.func43, Try.ntmps43
    go_wp2_with (rw [Hw1.out]; refine wp_appR rfl (.tmp 5) (.tmp 6) rfl rfl HO1.out hB hT rfl HV1.out hlen hb1 ?_; intro v2 w2 hO2 hG2 hV2; obtain ⟨a2, c2, e2, _⟩ := hO2.rd.shape; subst e2; have HO2 := Hid.mk hO2; have HG2 : Hid (Chg (ob (.slice (some ⟨w.heap.size, 0, none⟩) 0 0)) w1 w2) := ⟨hG2⟩; clear hO2 hG2 hV2)
    go_ret
    exact ⟨_, _, _, rfl, by simpa using HO2.out, HB1.out.trans (HG2.out.below hb1 (fun k hk => by simp [ob, Value.ownBlock] at hk; omega))⟩
set_option maxHeartbeats 8000000 in
set_option maxRecDepth 100000 in
theorem del42 {v : Value} {L : List Sd} {B : Nat × TypeId} {base : Nat} (h : OwnR w B base v L) (hB : B.1 ≤ base) (hT : B.2 ≠ 33) (_hbase : base ≤ w.heap.size) (hl : L.length ≤ 1000000) : Calls Try.prog 42 #[v, .func (.func 44) #[] #[]] w fun e w' => ∃ a n c, e = .returned (.slice a n c) ∧ OwnR w' B base (.slice a n c) (L.filter Option.isSome) ∧ Below base w w' := by
  have t1 := lost_idx h.rd hl
  have HO := Hid.mk h
  obtain ⟨va, vc, rfl, h1, h2, _⟩ := h.rd.shape
  obtain ⟨n, Hn⟩ : ∃ n, Hid (L.length = n) := ⟨_, ⟨rfl⟩⟩
  rw [Hn.out] at t1 HO h1 hl ⊢
  clear h
  go_enter Try.func42, Try.ntmps42
  go_wp2_with fail
  refine t1.mono ?_
  rintro e wx ⟨z, rfl, hz, rfl⟩
  have HZ := Hid.mk hz
  clear t1 hz
  rcases HZ.out with ⟨rfl, hno⟩ | ⟨i0, rfl, hi0, hlost, hbef⟩
  · have HF : Hid (L.filter Option.isSome = L) := ⟨by
      rw [List.filter_eq_self]
      intro s hs
      obtain ⟨i, hi, rfl⟩ := List.mem_iff_getElem.1 hs
      have := hno i (by rw [← Hn.out]; exact hi)
      rw [show L.getD i none = L[i] by simp [List.getD, List.getElem?_eq_getElem hi]] at this
      cases hh : L[i] <;> simp_all [pLost]⟩
    clear HZ hno
    go_wp2_with fail
    go_ret
    exact ⟨_, _, _, rfl, by rw [HF.out]; exact HO.out, Below.refl _ _⟩
  · have HA : Hid ((L.take i0).filter Option.isSome = L.take i0) := ⟨by
      rw [List.filter_eq_self]
      intro s hs
      obtain ⟨i, hi, rfl⟩ := List.mem_iff_getElem.1 hs
      have hi' : i < i0 := by rw [List.length_take] at hi; omega
      have hiL : i < L.length := by rw [List.length_take] at hi; omega
      have := hbef i hi'
      rw [show L.getD i none = L[i] by simp [List.getD, List.getElem?_eq_getElem hiL]] at this
      rw [List.getElem_take]
      cases hh : L[i] <;> simp_all [pLost]⟩
    have HA1 : Hid ((L.take (i0 + 1)).filter Option.isSome = L.take i0) := ⟨by
      rw [flt_take (by rw [Hn.out]; exact hi0), HA.out]
      cases hh : L.getD i0 none with
      | none => simp
      | some l => rw [hh] at hlost; simp [pLost] at hlost⟩
    obtain ⟨g, c', cur', e, _, _, _⟩ := ownR_cap HO.out (by rw [Hn.out]; omega)
    simp only [Value.slice.injEq] at e
    obtain ⟨rfl, -, -⟩ := e
    have hne : ((i0 : Int) == -1) = false := by simp
    have hvz : vc ≤ 9223372036854775807 := h2
    clear HZ hbef hlost HA
    go_upto_region 5 with fail
    go_loopg [5, 6, 7] n (fun gg s5 s6 _ wr => ∃ i j : Nat, ∃ cur : List Sd, i < j ∧ j ≤ n ∧ n - j ≤ gg ∧ s5 = .int .i64 (i : Int) ∧ s6 = .int .i64 (j : Int) ∧ Hid (OwnR wr B base (.slice (some ⟨g, 0, none⟩) n vc) cur) ∧ Hid (cur.length = n) ∧ Hid (cur.take i = (L.take j).filter Option.isSome) ∧ Hid (((L.take j).filter Option.isSome).length = i) ∧ Hid (cur.drop j = L.drop j) ∧ Hid (Below base w wr))
    case atStart => exact ⟨i0, i0 + 1, L, by omega, by omega, by omega, rfl, by go_num, HO, Hn, ⟨by rw [HA1.out]⟩, ⟨by rw [HA1.out, List.length_take, Hn.out]; omega⟩, ⟨rfl⟩, ⟨Below.refl _ _⟩⟩
    case round =>
      clear HO HA1
      obtain ⟨i, j, cur, hij, hj, hgg, rfl, rfl, HO, HL, HT, HI, HD, HB⟩ := hrel
      rename World => wo
      by_cases hlt : j < n
      · have hltz : (j : Int) < (n : Int) := by omega
        have hinz : (i : Int) < (n : Int) := by omega
        have hjL : j < L.length := by rw [Hn.out]; exact hlt
        have hjc : j < cur.length := by rw [HL.out]; exact hlt
        have HE : Hid (cur.getD j none = L.getD j none) := ⟨by
          have h1 : cur.getD j none = (cur.drop j).getD 0 none := by simp [List.getD]
          have h2 : L.getD j none = (L.drop j).getD 0 none := by simp [List.getD]
          rw [h1, h2, HD.out]⟩
        obtain ⟨b, off, cap, e, _, hc⟩ := HO.out.rd.at hjc
        rw [HL.out] at e
        simp only [Value.slice.injEq, Option.some.injEq, Addr.mk.injEq, and_true] at e
        obtain ⟨⟨rfl, rfl⟩, -, rfl⟩ := e
        obtain ⟨sa, sc, c1, hsn, _, _, hs⟩ := hc j hjc
        rw [Nat.zero_add] at c1
        rw [HE.out] at c1 hsn hs
        have HS := Hid.mk hs
        have HFs := Hid.mk (flt_take hjL)
        have t2 := isLost44 (w := wo) sa (sl (L.getD j none)).length sc
        have HN : Hid (sa.isNone = !(L.getD j none).isSome) := ⟨by cases sa <;> cases hh : L.getD j none <;> simp_all⟩
        rw [HN.out] at t2
        have hfz := ownR_frozenAt HO.out i
        obtain ⟨u, hu0⟩ : ∃ u, wo.cell? ⟨g, i, none⟩ = some u := by
          obtain ⟨sa', sc', c1', _⟩ := hc i (by omega)
          rw [Nat.zero_add] at c1'
          exact ⟨_, c1'⟩
        obtain ⟨ua, un, uc, eu⟩ : ∃ ua un uc, u = .slice ua un uc := by
          obtain ⟨sa', sc', c1', _⟩ := hc i (by omega)
          rw [Nat.zero_add, hu0] at c1'
          simp only [Option.some.injEq] at c1'
          exact ⟨_, _, _, c1'⟩
        subst eu
        have HSt : Hid (OwnR (wo.setCell ⟨g, i, none⟩ (.slice sa (sl (L.getD j none)).length sc)) B base (.slice (some ⟨g, 0, none⟩) n vc) (cur.set i (L.getD j none))) := ⟨ownR_stored HO.out hB hT i hs⟩
        have HgB : Hid (base ≤ g) := ⟨(HO.out.lt g (by simp [ob, Value.ownBlock])).1⟩
        by_cases hso : (L.getD j none).isSome = true
        · rw [hso] at t2
          rw [if_pos hso] at HFs
          generalize (sl (L.getD j none)).length = sn at c1 t2 HSt HS
          clear hc hs hsn HN
          go_wp2_with fail
          refine t2.mono ?_
          rintro e wx ⟨rfl, rfl⟩
          clear t2
          go_wp2_with fail
          go_roundg (n - (j + 1))
          case measure => omega
          case rel =>
            refine ⟨i + 1, j + 1, cur.set i (L.getD j none), by omega, by omega, by omega, by go_num, by go_num, HSt, ⟨by rw [List.length_set]; exact HL.out⟩, ⟨?_⟩, ⟨by rw [HFs.out, List.length_append, HI.out]; rfl⟩, ⟨?_⟩, ⟨HB.out.setCell (p := ⟨g, i, none⟩) HgB.out _⟩⟩
            · rw [HFs.out, ← HT.out, List.take_succ_eq_append_getElem (by rw [List.length_set]; omega), List.take_set, List.set_eq_of_length_le (by rw [List.length_take]; omega)]
              simp
            · rw [List.drop_set, if_pos (by omega)]
              have : cur.drop (j + 1) = (cur.drop j).drop 1 := by rw [List.drop_drop]
              rw [this, HD.out, List.drop_drop]
        · rw [if_neg hso] at HFs
          have hso' : (L.getD j none).isSome = false := by simpa using hso
          rw [hso'] at t2
          generalize (sl (L.getD j none)).length = sn at c1 t2
          clear hc hs hsn HN HSt hso hso' HS
          go_wp2_with fail
          refine t2.mono ?_
          rintro e wx ⟨rfl, rfl⟩
          clear t2
          go_wp2_with fail
          go_roundg (n - (j + 1))
          case measure => omega
          case rel =>
            refine ⟨i, j + 1, cur, by omega, by omega, by omega, rfl, by go_num, HO, HL, ⟨by rw [HFs.out, List.append_nil]; exact HT.out⟩, ⟨by rw [HFs.out, List.append_nil]; exact HI.out⟩, ⟨?_⟩, HB⟩
            have : cur.drop (j + 1) = (cur.drop j).drop 1 := by rw [List.drop_drop]
            rw [this, HD.out, List.drop_drop]
      · obtain rfl : n = j := by omega
        have hinz : (i : Int) < (n : Int) := by omega
        have HTk : Hid (L.take n = L) := ⟨List.take_of_length_le (by rw [Hn.out]; exact Nat.le_refl _)⟩
        rw [HTk.out] at HT
        obtain ⟨g2, c2, C, e, hc1, hc2, hrow, hsz⟩ := ownR_cap HO.out (by rw [HL.out]; omega)
        simp only [Value.slice.injEq, Option.some.injEq, Addr.mk.injEq, and_true] at e
        obtain ⟨rfl, -, rfl⟩ := e
        have hcl : ∀ ty, (Builtin.clear_ #[22] ty #[.slice (some ⟨g, i, none⟩) (n - i) (vc - i)]).run Try.prog wo = .ok (.tuple #[]) (wo.setRow g (C.toList.take i ++ List.replicate (n - i) (Value.slice none 0 0) ++ C.toList.drop (i + (n - i))).toArray) := fun ty => run_clearV wo ty g i (n - i) (vc - i) C hrow (by omega) (by rw [hsz]; omega)
        obtain ⟨D, HDd⟩ : ∃ x, Hid ((C.toList.take i ++ List.replicate (n - i) (Value.slice none 0 0) ++ C.toList.drop (i + (n - i))).toArray = x) := ⟨_, ⟨rfl⟩⟩
        rw [HDd.out] at hcl
        have hls : C.toList.length = vc := by rw [Array.length_toList, hsz]
        have HDs : Hid (D.size = C.size) := ⟨by rw [← HDd.out, hsz]; simp only [List.size_toArray, List.length_append, List.length_take, List.length_replicate, List.length_drop, hls]; omega⟩
        have HDt : Hid (D.toList.take i = C.toList.take i) := ⟨by rw [← HDd.out]; simp only [List.append_assoc]; rw [List.take_append_of_le_length (by rw [List.length_take, hls]; omega), List.take_take, Nat.min_self]⟩
        have HOf : Hid (OwnR (wo.setRow g D) B base (.slice (some ⟨g, 0, none⟩) i vc) (L.filter Option.isSome)) := ⟨by rw [← HT.out]; exact ownR_cleared HO.out hB hT hrow (by omega) D HDs.out HDt.out⟩
        have HBf : Hid (Below base w (wo.setRow g D)) := ⟨below_setRow HB.out (HO.out.lt g (by simp [ob, Value.ownBlock])).1 D⟩
        clear hrow hsz hls
        go_wp2_with fail
        go_ret
        exact ⟨_, _, _, rfl, HOf.out, HBf.out⟩
end
end Go.Proofs.Ytbdmbhpmbklaiaa
