/- Lists of a note: each of them is right. -/
import Derived.Test.YthohpbppfihoiaaN2
import Derived.Test.YthohpbppfihoiaaMultiB
import Derived.Test.YthohpbppfihoiaaMultiC
import Derived.Deep.MidRow
namespace Go.Proofs.Ythohpbppfihoiaa
open Go.RowKit Oct

/-- A file that is held: its name, its generation. -/
abbrev Hd := ByteArray × Int
def he (h : Hd) : List Value := [.string h.1, .int .i64 h.2]
/-- A part: the bytes of its sum, how long it is. -/
abbrev Pt := List Int × Int
def pe (p : Pt) : List Value := p.1.map (Value.int .u8) ++ [.int .i64 p.2]
def h0 : Hd := (ByteArray.empty, 0)
def p0 : Pt := ([], 0)
theorem below_setRow {B : Nat} {w w' : World} (h : Below B w w') {g : Nat} (hg : B ≤ g) (cs : Array Value) : Below B w (w'.setRow g cs) :=
  ⟨h.os, h.tape, h.output, by rw [setRow_size]; exact h.size, fun k hk => (setRow_other w' g k cs (by omega)).trans (h.block k hk)⟩
theorem info46 : (Try.prog.info? 46).map (·.size) = some 2 := by kernel_rfl
theorem info49 : (Try.prog.info? 49).map (·.size) = some 33 := by kernel_rfl
theorem zero46 : (Try.prog.info? 46).bind (·.zero) = some (.agg (he h0).toArray) := by kernel_rfl
def pz : Pt := (List.replicate 32 0, 0)
theorem zero49 : (Try.prog.info? 49).bind (·.zero) = some (.agg (pe pz).toArray) := by kernel_rfl
theorem run_newZ {t : TypeId} {z : Array Value} (hz : (Try.prog.info? t).bind (·.zero) = some (.agg z)) (w : World) : (Instr.alloc t true (.tuple #[])).run Try.prog w = .ok (.pointer (some ⟨w.heap.size, 0, none⟩)) (w.alloc (.cells z t)) := by
  cases hi : Try.prog.info? t with
  | none => rw [hi] at hz; simp at hz
  | some it =>
    rw [hi] at hz
    simp only [Option.bind_some] at hz
    simp [Instr.alloc, zeroValue, typeInfo, hi, hz, newVar, newRow, Value.cells]
section
variable {ops : Array Oper} {rest : List Oper} {o : Oper} {a : Act} {w : World} {Q : Exit → Act → World → Prop}
theorem wp_newZ {t : TypeId} {z : Array Value} (hz : (Try.prog.info? t).bind (·.zero) = some (.agg z)) (hgd : o.guard = none) (ho : o.op = .alloc t)
    (h : wpList Try.prog ops Q rest (a.put o.dst (.pointer (some ⟨w.heap.size, 0, none⟩))) (w.alloc (.cells z t))) : wpList Try.prog ops Q (o :: rest) a w := by
  refine wpList_plain hgd fun K hK => ?_
  unfold Oper.wp execOp
  simp only [ho, run_newZ hz, Sem.run_bind, Sem.run_pure, Result.andThen_ok]
  exact hK _ _ h
theorem wp_loadX {ty : TypeId} {cs : Array Value} {p : Addr} (hgd : o.guard = none) (x : Operand) (ho : o.op = .load ty x) (hx : a.eval x = .pointer (some p)) (hl : (Instr.loadAt ty (.pointer (some p))).run Try.prog w = .ok (.agg cs) w)
    (h : wpList Try.prog ops Q rest (a.put o.dst (.agg cs)) w) : wpList Try.prog ops Q (o :: rest) a w := by
  refine wpList_plain hgd fun K hK => ?_
  unfold Oper.wp execOp
  simp only [ho, hx, hl, Sem.run_bind, Sem.run_pure, Result.andThen_ok]
  exact hK _ _ h
end
def ptOk (n : Int) : Bool := decide (1 ≤ n ∧ n ≤ 512)
section
variable {w : World}
set_option maxHeartbeats 2000000 in
theorem held37 (h : Hd) : Calls Try.prog 37 #[.agg (he h).toArray] w fun e w' => e = .returned (.bool (flB h.1 h.2)) ∧ Below w.heap.size w w' := by
  obtain ⟨n, g⟩ := h
  simp only
  obtain ⟨B, HB⟩ : ∃ x, Hid (flB n g = x) := ⟨_, ⟨rfl⟩⟩
  have t1 := fun W : World => file35 (w := W) n g
  rw [HB.out] at t1 ⊢
  obtain ⟨A, HA⟩ : ∃ A, Hid ((he (n, g)).toArray = A) := ⟨_, ⟨rfl⟩⟩
  obtain ⟨w1, Hw1⟩ : ∃ x, Hid (w.alloc (.cells A 46) = x) := ⟨_, ⟨rfl⟩⟩
  have HB1 : Hid (Below w.heap.size w w1) := ⟨by rw [← Hw1.out]; exact (Below.refl _ w).alloc (Nat.le_refl _) _⟩
  obtain ⟨q, Hq⟩ : ∃ q, Hid (w.heap.size = q) := ⟨_, ⟨rfl⟩⟩
  have HX1 : Hid (w1.heap[q]? = some (.cells A 46 (0, 0))) := ⟨by rw [← Hw1.out, ← Hq.out]; exact heap_alloc_new w _⟩
  have d1 : w1.cell? ⟨q, 0, none⟩ = some (.string n) := by rw [cell_of_row _ _ _ _ _ _ HX1.out, ← HA.out]; rfl
  have d2 : w1.cell? ⟨q, 1, none⟩ = some (.int .i64 g) := by rw [cell_of_row _ _ _ _ _ _ HX1.out, ← HA.out]; rfl
  rw [HA.out]
  go_enter Try.func37, Try.ntmps37
  go_wp2_with (refine wp_box rfl 46 (.tmp 0) rfl A rfl ?_; rw [Hw1.out, Hq.out])
  refine (t1 w1).mono ?_
  rintro e w2 ⟨rfl, rfl⟩
  go_wp2_with fail
  go_ret
  exact ⟨rfl, HB1.out⟩
set_option maxHeartbeats 2000000 in
theorem part39 (p : Pt) (hp : p.1.length = 32) : Calls Try.prog 39 #[.agg (pe p).toArray] w fun e w' => e = .returned (.bool (ptOk p.2)) ∧ Below w.heap.size w w' := by
  obtain ⟨l, n⟩ := p
  simp only at hp ⊢
  obtain ⟨A, HA⟩ : ∃ A, Hid ((pe (l, n)).toArray = A) := ⟨_, ⟨rfl⟩⟩
  obtain ⟨w1, Hw1⟩ : ∃ x, Hid (w.alloc (.cells A 49) = x) := ⟨_, ⟨rfl⟩⟩
  have HB1 : Hid (Below w.heap.size w w1) := ⟨by rw [← Hw1.out]; exact (Below.refl _ w).alloc (Nat.le_refl _) _⟩
  obtain ⟨q, Hq⟩ : ∃ q, Hid (w.heap.size = q) := ⟨_, ⟨rfl⟩⟩
  have HX1 : Hid (w1.heap[q]? = some (.cells A 49 (0, 0))) := ⟨by rw [← Hw1.out, ← Hq.out]; exact heap_alloc_new w _⟩
  have d1 : w1.cell? ⟨q, 32, none⟩ = some (.int .i64 n) := by
    rw [cell_of_row _ _ _ _ _ _ HX1.out, ← HA.out]
    unfold pe
    rw [List.getElem?_toArray, List.getElem?_append_right (by simp [hp])]
    simp [hp]
  rw [HA.out]
  clear hp
  by_cases h : 1 ≤ n
  · have HE : Hid (ptOk n = decide (n ≤ 512)) := ⟨by unfold ptOk; simp [h]⟩
    go_enter Try.func39, Try.ntmps39
    go_wp2_with (refine wp_box rfl 49 (.tmp 0) rfl A rfl ?_; rw [Hw1.out, Hq.out])
    go_ret
    exact ⟨by rw [HE.out]; rfl, HB1.out⟩
  · have HE : Hid (ptOk n = false) := ⟨by unfold ptOk; exact decide_eq_false (by omega)⟩
    go_enter Try.func39, Try.ntmps39
    go_wp2_with (refine wp_box rfl 49 (.tmp 0) rfl A rfl ?_; rw [Hw1.out, Hq.out])
    go_ret
    exact ⟨by rw [HE.out]; rfl, HB1.out⟩
set_option maxHeartbeats 8000000 in
set_option maxRecDepth 100000 in
theorem each36 (v : Value) (L : List Hd) (hv : RdE he 2 h0 w v L) : Calls Try.prog 36 #[v, .func (.func 37) #[] #[]] w fun e w' => e = .returned (.bool (L.all (fun h => flB h.1 h.2))) ∧ Below w.heap.size w w' := by
  have HV := Hid.mk hv
  obtain ⟨va, vc, rfl, hnc, hcm, _⟩ := hv.shape
  obtain ⟨B, HB⟩ : ∃ x, Hid (L.all (fun h => flB h.1 h.2) = x) := ⟨_, ⟨rfl⟩⟩
  rw [HB.out]
  obtain ⟨n, Hn⟩ : ∃ x, Hid (L.length = x) := ⟨_, ⟨rfl⟩⟩
  rw [Hn.out] at HV hnc ⊢
  have hcx : vc ≤ 9223372036854775807 := hcm
  clear hv
  go_enter Try.func36, Try.ntmps36
  go_upto_region 2 with fail
  go_loopg [6, 9] n (fun gg _s6 s9 wr => ∃ i : Nat, i ≤ n ∧ n - i ≤ gg ∧ s9 = .int .i64 (i : Int) ∧ Hid ((L.take i).all (fun h => flB h.1 h.2) = true) ∧ Hid (Below w.heap.size w wr))
  case atStart => exact ⟨0, Nat.zero_le _, by omega, rfl, ⟨by rw [List.take_zero]; rfl⟩, ⟨Below.refl _ _⟩⟩
  case round =>
    obtain ⟨i, hi, hgg, rfl, HA, HBl⟩ := hrel
    rename World => wo
    by_cases hlt : i < n
    · have hltz : (i : Int) < (n : Int) := by omega
      have hiL : i < L.length := by rw [Hn.out]; exact hlt
      have HRo : Hid (RdE he 2 h0 wo (.slice va n vc) L) := ⟨HV.out.far (Chg.ofBelow (X := []) HBl.out) (by simp)⟩
      obtain ⟨g, off, c', e, hat⟩ := HRo.out.at' i hiL
      rw [Hn.out] at e
      simp only [Value.slice.injEq] at e
      obtain ⟨rfl, -, rfl⟩ := e
      obtain ⟨x, Hx⟩ : ∃ x, Hid (L.getD i h0 = x) := ⟨_, ⟨rfl⟩⟩
      have Hlen : Hid ((he x).length = 2) := ⟨by rw [← Hx.out]; exact (HRo.out.each _ (getD_mem' hiL)).1⟩
      have Hone : Hid (∀ u ∈ he x, u.oneCell' = true) := ⟨by rw [← Hx.out]; exact (HRo.out.each _ (getD_mem' hiL)).2⟩
      rw [Hx.out] at hat
      have Hld : Hid ((Instr.loadAt 46 (.pointer (some ⟨g, off + i * 2, none⟩))).run Try.prog wo = .ok (.agg (he x).toArray) wo) := ⟨run_loadAt_mid wo g (off + i * 2) 46 (he x) _ (fun j v hv => by
        have hj : j < 2 := by have := (List.getElem?_eq_some_iff.1 hv).1; rw [Hlen.out] at this; exact this
        rw [hat j hj]; exact hv) Try.underlying46 rfl (by rw [Hlen.out]; exact info46)⟩
      have HAn : Hid ((L.take (i + 1)).all (fun h => flB h.1 h.2) = flB x.1 x.2) := ⟨by
        rw [List.take_add_one, List.getElem?_eq_getElem hiL]
        simp only [Option.toList_some, List.all_append, HA.out, Bool.true_and, List.all_cons, List.all_nil, Bool.and_true]
        have : L[i] = x := by rw [← Hx.out]; simp [List.getD, List.getElem?_eq_getElem hiL]
        rw [this]⟩
      obtain ⟨A, HAa⟩ : ∃ A, Hid ((he x).toArray = A) := ⟨_, ⟨rfl⟩⟩
      have HAs : Hid (A.size = 2) := ⟨by rw [← HAa.out, List.size_toArray]; exact Hlen.out⟩
      rw [HAa.out] at Hld
      have t1 := fun W : World => held37 (w := W) x
      rw [HAa.out] at t1
      obtain ⟨q, Hq⟩ : ∃ q, Hid (wo.heap.size = q) := ⟨_, ⟨rfl⟩⟩
      obtain ⟨w2, Hw2⟩ : ∃ x, Hid ((wo.alloc (.cells (he h0).toArray 46)).setRow q A = x) := ⟨_, ⟨rfl⟩⟩
      have HB2 : Hid (Below wo.heap.size wo w2) := ⟨by rw [← Hw2.out, ← Hq.out]; exact below_setRow ((Below.refl _ wo).alloc (Nat.le_refl _) _) (Nat.le_refl _) _⟩
      have HX2 : Hid (w2.heap[q]? = some (.cells A 46 (0, 0))) := ⟨by rw [← Hw2.out, ← Hq.out]; exact setRow_heap _ _ (he h0).toArray _ 46 (0, 0) (heap_alloc_new wo _)⟩
      have HIn : Hid ((Try.prog.info? 46).map (·.size) = some A.size) := ⟨by rw [HAs.out]; exact info46⟩
      have HA1 : Hid (A.all (·.oneCell') = true) := ⟨by rw [← HAa.out, List.all_toArray, List.all_eq_true]; exact Hone.out⟩
      clear hat
      go_wp2_with (first
        | (refine wp_loadX (cs := A) rfl (.tmp 11) rfl rfl Hld.out ?_)
        | (refine wp_newZ zero46 rfl rfl ?_; rw [Hq.out])
        | (refine wpList_store_row rfl 46 (.tmp 6) (.tmp 12) rfl q A rfl rfl 46 (he h0).toArray (by rw [← Hq.out]; exact heap_alloc_new wo _) HIn.out (by rw [HAs.out]; rfl) HA1.out ?_; rw [Hw2.out])
        | (refine wp_load rfl 46 (.tmp 6) rfl q rfl A 46 (0, 0) _ HX2.out Try.underlying46 rfl HIn.out ?_))
      refine (t1 w2).mono ?_
      rintro e w3 ⟨rfl, hB3⟩
      have HB3 : Hid (Below w.heap.size w w3) := ⟨(HBl.out.trans (HB2.out.mono HBl.out.size)).trans (hB3.mono (Nat.le_trans HBl.out.size HB2.out.size))⟩
      clear t1 hB3
      cases hok : flB x.1 x.2 with
      | true =>
        rw [hok] at HAn
        go_wp2_with fail
        go_roundg (n - (i + 1))
        case measure => omega
        case rel => exact ⟨i + 1, by omega, by omega, by go_num, HAn, HB3⟩
      | false =>
        rw [hok] at HAn
        have HT : Hid (B = false) := ⟨by
          rw [← HB.out]
          refine List.all_eq_false.2 ⟨x, ?_, by simp [hok]⟩
          rw [← Hx.out]; exact getD_mem' hiL⟩
        go_wp2_with fail
        go_ret
        exact ⟨by rw [HT.out]; rfl, HB3.out⟩
    · obtain rfl : n = i := by omega
      have HT : Hid (B = true) := ⟨by rw [← HB.out, ← HA.out, List.take_of_length_le (by rw [Hn.out]; exact Nat.le_refl _)]⟩
      go_wp2_with fail
      go_ret
      exact ⟨by rw [HT.out]; rfl, HBl.out⟩
set_option maxHeartbeats 8000000 in
set_option maxRecDepth 100000 in
theorem each38 (v : Value) (L : List Pt) (hv : RdE pe 33 p0 w v L) (hp : ∀ p ∈ L, p.1.length = 32) : Calls Try.prog 38 #[v, .func (.func 39) #[] #[]] w fun e w' => e = .returned (.bool (L.all (fun p => ptOk p.2))) ∧ Below w.heap.size w w' := by
  have HV := Hid.mk hv
  obtain ⟨va, vc, rfl, hnc, hcm, _⟩ := hv.shape
  obtain ⟨B, HB⟩ : ∃ x, Hid (L.all (fun p => ptOk p.2) = x) := ⟨_, ⟨rfl⟩⟩
  rw [HB.out]
  obtain ⟨n, Hn⟩ : ∃ x, Hid (L.length = x) := ⟨_, ⟨rfl⟩⟩
  rw [Hn.out] at HV hnc ⊢
  have hcx : vc ≤ 9223372036854775807 := hcm
  have HP := Hid.mk hp
  clear hv
  go_enter Try.func38, Try.ntmps38
  go_upto_region 2 with fail
  go_loopg [6, 9] n (fun gg _s6 s9 wr => ∃ i : Nat, i ≤ n ∧ n - i ≤ gg ∧ s9 = .int .i64 (i : Int) ∧ Hid ((L.take i).all (fun p => ptOk p.2) = true) ∧ Hid (Below w.heap.size w wr))
  case atStart => exact ⟨0, Nat.zero_le _, by omega, rfl, ⟨by rw [List.take_zero]; rfl⟩, ⟨Below.refl _ _⟩⟩
  case round =>
    obtain ⟨i, hi, hgg, rfl, HA, HBl⟩ := hrel
    rename World => wo
    by_cases hlt : i < n
    · have hltz : (i : Int) < (n : Int) := by omega
      have hiL : i < L.length := by rw [Hn.out]; exact hlt
      have HRo : Hid (RdE pe 33 p0 wo (.slice va n vc) L) := ⟨HV.out.far (Chg.ofBelow (X := []) HBl.out) (by simp)⟩
      obtain ⟨g, off, c', e, hat⟩ := HRo.out.at' i hiL
      rw [Hn.out] at e
      simp only [Value.slice.injEq] at e
      obtain ⟨rfl, -, rfl⟩ := e
      obtain ⟨x, Hx⟩ : ∃ x, Hid (L.getD i p0 = x) := ⟨_, ⟨rfl⟩⟩
      have Hlen : Hid ((pe x).length = 33) := ⟨by rw [← Hx.out]; exact (HRo.out.each _ (getD_mem' hiL)).1⟩
      have Hone : Hid (∀ u ∈ pe x, u.oneCell' = true) := ⟨by rw [← Hx.out]; exact (HRo.out.each _ (getD_mem' hiL)).2⟩
      rw [Hx.out] at hat
      have Hld : Hid ((Instr.loadAt 49 (.pointer (some ⟨g, off + i * 33, none⟩))).run Try.prog wo = .ok (.agg (pe x).toArray) wo) := ⟨run_loadAt_mid wo g (off + i * 33) 49 (pe x) _ (fun j v hv => by
        have hj : j < 33 := by have := (List.getElem?_eq_some_iff.1 hv).1; rw [Hlen.out] at this; exact this
        rw [hat j hj]; exact hv) Try.underlying49 rfl (by rw [Hlen.out]; exact info49)⟩
      have HAn : Hid ((L.take (i + 1)).all (fun p => ptOk p.2) = ptOk x.2) := ⟨by
        rw [List.take_add_one, List.getElem?_eq_getElem hiL]
        simp only [Option.toList_some, List.all_append, HA.out, Bool.true_and, List.all_cons, List.all_nil, Bool.and_true]
        have : L[i] = x := by rw [← Hx.out]; simp [List.getD, List.getElem?_eq_getElem hiL]
        rw [this]⟩
      obtain ⟨A, HAa⟩ : ∃ A, Hid ((pe x).toArray = A) := ⟨_, ⟨rfl⟩⟩
      have HAs : Hid (A.size = 33) := ⟨by rw [← HAa.out, List.size_toArray]; exact Hlen.out⟩
      have HP32 : Hid (x.1.length = 32) := ⟨by rw [← Hx.out]; exact HP.out _ (getD_mem' hiL)⟩
      rw [HAa.out] at Hld
      have t1 := fun W : World => part39 (w := W) x HP32.out
      rw [HAa.out] at t1
      obtain ⟨q, Hq⟩ : ∃ q, Hid (wo.heap.size = q) := ⟨_, ⟨rfl⟩⟩
      obtain ⟨w2, Hw2⟩ : ∃ x, Hid ((wo.alloc (.cells (pe pz).toArray 49)).setRow q A = x) := ⟨_, ⟨rfl⟩⟩
      have HB2 : Hid (Below wo.heap.size wo w2) := ⟨by rw [← Hw2.out, ← Hq.out]; exact below_setRow ((Below.refl _ wo).alloc (Nat.le_refl _) _) (Nat.le_refl _) _⟩
      have HX2 : Hid (w2.heap[q]? = some (.cells A 49 (0, 0))) := ⟨by rw [← Hw2.out, ← Hq.out]; exact setRow_heap _ _ (pe pz).toArray _ 49 (0, 0) (heap_alloc_new wo _)⟩
      have HIn : Hid ((Try.prog.info? 49).map (·.size) = some A.size) := ⟨by rw [HAs.out]; exact info49⟩
      have HA1 : Hid (A.all (·.oneCell') = true) := ⟨by rw [← HAa.out, List.all_toArray, List.all_eq_true]; exact Hone.out⟩
      clear hat
      go_wp2_with (first
        | (refine wp_loadX (cs := A) rfl (.tmp 11) rfl rfl Hld.out ?_)
        | (refine wp_newZ zero49 rfl rfl ?_; rw [Hq.out])
        | (refine wpList_store_row rfl 49 (.tmp 6) (.tmp 12) rfl q A rfl rfl 49 (pe pz).toArray (by rw [← Hq.out]; exact heap_alloc_new wo _) HIn.out (by rw [HAs.out]; rfl) HA1.out ?_; rw [Hw2.out])
        | (refine wp_load rfl 49 (.tmp 6) rfl q rfl A 49 (0, 0) _ HX2.out Try.underlying49 rfl HIn.out ?_))
      refine (t1 w2).mono ?_
      rintro e w3 ⟨rfl, hB3⟩
      have HB3 : Hid (Below w.heap.size w w3) := ⟨(HBl.out.trans (HB2.out.mono HBl.out.size)).trans (hB3.mono (Nat.le_trans HBl.out.size HB2.out.size))⟩
      clear t1 hB3
      cases hok : ptOk x.2 with
      | true =>
        rw [hok] at HAn
        go_wp2_with fail
        go_roundg (n - (i + 1))
        case measure => omega
        case rel => exact ⟨i + 1, by omega, by omega, by go_num, HAn, HB3⟩
      | false =>
        rw [hok] at HAn
        have HT : Hid (B = false) := ⟨by
          rw [← HB.out]
          refine List.all_eq_false.2 ⟨x, ?_, by simp [hok]⟩
          rw [← Hx.out]; exact getD_mem' hiL⟩
        go_wp2_with fail
        go_ret
        exact ⟨by rw [HT.out]; rfl, HB3.out⟩
    · obtain rfl : n = i := by omega
      have HT : Hid (B = true) := ⟨by rw [← HB.out, ← HA.out, List.take_of_length_le (by rw [Hn.out]; exact Nat.le_refl _)]⟩
      go_wp2_with fail
      go_ret
      exact ⟨by rw [HT.out]; rfl, HBl.out⟩
end
end Go.Proofs.Ythohpbppfihoiaa
