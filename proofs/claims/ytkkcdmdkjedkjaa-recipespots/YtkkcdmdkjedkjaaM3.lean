/- The program's spots: a function that tells where each chunk lies. -/
import Derived.Test.YtkkcdmdkjedkjaaM2
import Derived.Test.YtkkcdmdkjedkjaaRG
namespace Go.Proofs.Ytkkcdmdkjedkjaa
open Go.RowKit Go.Lib Go.Shelf

/-- Where a chunk lies. -/
def spo (r : Rf) : Sp := (r.b, r.o)
/-- The spots of refs, each with its number. -/
def sps (L : List Rf) : List (Nat × Sp) := (List.range L.length).map (fun i => (i, spo (L.getD i r0)))
def spn (L : List Rf) (k : Nat) : List (Nat × Sp) := (List.range k).map (fun i => (i, spo (L.getD i r0)))
theorem spn_succ (L : List Rf) (k : Nat) : spn L (k + 1) = spn L k ++ [(k, spo (L.getD k r0))] := by simp [spn, List.range_succ]
theorem spn_len (L : List Rf) (k : Nat) : (spn L k).length = k := by simp [spn]
/-- What a round must keep: the row of refs. -/
def KpO (v : Value) (L : List Rf) (A B : World) : Prop := A.heap.size ≤ B.heap.size ∧ (0 < L.length → ∀ k ∈ ob v, k < A.heap.size → B.heap[k]? = A.heap[k]?)
theorem KpO.trans {v : Value} {L : List Rf} {A B C : World} (h : KpO v L A B) (k : KpO v L B C) : KpO v L A C := ⟨Nat.le_trans h.1 k.1, fun h0 j hj hl => (k.2 h0 j hj (Nat.lt_of_lt_of_le hl h.1)).trans (h.2 h0 j hj hl)⟩
theorem KpO.of {v : Value} {L : List Rf} {X : List Nat} {A B : World} (h : Chg X A B) (hx : 0 < L.length → ∀ k ∈ ob v, k ∉ X) : KpO v L A B := ⟨h.size, fun h0 k hk hl => h.block k hl (hx h0 k hk)⟩
theorem KpO.refl (v : Value) (L : List Rf) (A : World) : KpO v L A A := ⟨Nat.le_refl _, fun _ _ _ _ => rfl⟩
theorem RdR.kept {A B : World} {v : Value} {L : List Rf} (h : RdR A v L) (k : KpO v L A B) : RdR B v L := by
  refine ⟨h.shape, fun i hi => ?_, h.sums⟩
  obtain ⟨b, off, cap, e, hc⟩ := h.at' i hi
  refine ⟨b, off, cap, e, fun j hj => ?_⟩
  have hs := h.sum hi
  have hv := hc j hj
  rw [List.getElem?_eq_getElem (by rw [rc_len _ hs]; exact hj)] at hv
  have hb : b ∈ ob v := mem_ob.2 (by rw [e]; rfl)
  exact (World.cell?_of_block (k.2 (by omega) b hb (World.block_lt_of_cell? _ _ hv))).trans (hc j hj)
section
variable {F : Fence} {n : Nat} {w : World} {ops : Array Oper} {rest : List Oper} {o : Oper} {a : Act} {Q : Exit → Act → World → Prop}
theorem wpi_loadR (hgd : o.guard = none) (x : Operand) (ho : o.op = .load 56 x) (g off : Nat) (r : Rf) (hs : Sm r.s) (hx : a.eval x = .pointer (some ⟨g, off, none⟩)) (hc : At w g off (rc r))
    (h : wpListIn F n Try.prog ops Q rest (a.put o.dst (.agg (rc r).toArray)) w) : wpListIn F n Try.prog ops Q (o :: rest) a w := by
  refine wpListIn_plain hgd fun K hK => ?_
  have hl := run_loadR hc hs
  unfold Oper.wpIn
  refine ⟨?_, ?_⟩
  · simp [Oper.about, ho]
  · rw [Oper.semAt_plain F _ _ (by rw [ho]; intro c hc'; cases hc')]
    unfold execOp
    simp only [ho, hx, Instr.loadAt, Instr.sureAddr, Sem.run_bind, Sem.run_pure, Result.andThen_ok, hl]
    exact hK _ _ h
theorem wpi_storeR (hgd : o.guard = none) (x y : Operand) (ho : o.op = .store 56 x y) (g : Nat) (r : Rf) (hs : Sm r.s) (hx : a.eval x = .pointer (some ⟨g, 0, none⟩)) (hy : a.eval y = .agg (rc r).toArray)
    (old : Array Value) (hg : w.heap[g]? = some (.cells old 56 (0, 0))) (hold : old.size = 35)
    (h : ∀ w', RefAt w' g r → Chg [g] w w' → wpListIn F n Try.prog ops Q rest (a.put o.dst undef) w') : wpListIn F n Try.prog ops Q (o :: rest) a w := by
  refine wpListIn_plain hgd fun K hK => ?_
  unfold Oper.wpIn
  refine ⟨?_, ?_⟩
  · simp [Oper.about, ho]
  · rw [Oper.semAt_plain F _ _ (by rw [ho]; intro c hc'; cases hc')]
    unfold execOp
    simp only [ho, hx, hy, Instr.storeAt, Instr.sureAddr, Sem.run_bind, Sem.run_pure, Result.andThen_ok, run_storeVar_row w g 56 56 old (rc r).toArray hg (by rw [List.size_toArray, rc_len r hs]; exact info28) (by rw [hold]; simp [rc_len r hs]) (rc_one r)]
    exact hK _ _ (h _ ⟨setRow_heap _ _ _ _ 56 (0, 0) hg, hs⟩ ⟨rfl, rfl, rfl, by simp, fun k hk hx => setRow_other _ _ k _ (by simpa using hx)⟩)
end
section
variable {w : World}
theorem spots_any (a : Option Addr) (m c : Nat) : Calls Try.prog 38 #[.slice a m c] w fun e w' => e = .returned (.func (.func 48) #[] #[.pointer (some ⟨w.heap.size, 0, none⟩)]) ∧ w' = w.alloc (.cells #[.slice a m c] 22) := by
  go_enter Try.func38, Try.ntmps38
  go_wp2_with fail
  go_ret
  exact ⟨rfl, rfl⟩
end
section
attribute [local go_sem] Oper.semAt_some
set_option maxHeartbeats 4000000 in
set_option maxRecDepth 100000 in
theorem spots1_in {v : Value} {L : List Rf} (hL : L.length ≤ 2513169434843) (l q : Nat) (J : List (Nat × Sp) → World → Prop) (W : World)
    (hv : RdR W v L) (h0 : W.cell? ⟨q, 0, none⟩ = some v)
    (hJb : ∀ pre A B, J pre A → Below A.heap.size A B → J pre B)
    (hY : ∀ i A, i < L.length → J (spn L i) A → YieldAt Fence.wide 8 Try.prog l #[.int .i64 (i : Int), spv (spo (L.getD i r0))] A fun e B => e = .returned (.bool true) ∧ J (spn L i ++ [(i, spo (L.getD i r0))]) B ∧ KpO v L A B)
    (hj0 : J [] W) :
    CallsIn Fence.wide 9 Try.prog 48 #[.func (.yield l) #[] #[], .pointer (some ⟨q, 0, none⟩)] W fun e B => (∃ v, e = .returned v) ∧ ∃ xs, xs = sps L ∧ J xs B := by
  have H := Hid.mk hv
  have HY := Hid.mk hY
  have HJb := Hid.mk hJb
  have HE : Hid (sps L = spn L L.length) := ⟨rfl⟩
  obtain ⟨T, HT⟩ : ∃ T, Hid (sps L = T) := ⟨_, ⟨rfl⟩⟩
  rw [HT.out] at HE ⊢
  obtain ⟨av, cv, rfl, hcv, hcm, _⟩ := hv.shape
  obtain ⟨n, Hn⟩ : ∃ n, Hid (L.length = n) := ⟨_, ⟨rfl⟩⟩
  rw [Hn.out] at H hcv hL h0 HY HE
  have hj1 : J (spn L 0) W := hj0
  clear hv hY hJb hj0
  refine callsIn_of_wp Try.func48 rfl trivial ?_ rfl
  simp only [Try.ntmps48, List.size_toArray, List.length_cons, List.length_nil, Nat.reduceAdd, Nat.reduceSub, Array.replicate_succ, Array.replicate_zero, List.push_toArray, List.append_toArray, List.nil_append, List.cons_append]
  gi_wp2
  gi_loopw [3, 4, 7] (fun _ _ s7 wr => ∃ i : Nat, i ≤ n ∧ s7 = .int .i64 (i : Int) ∧ J (spn L i) wr ∧ Hid (KpO (.slice av n cv) L W wr)) (fun _ _ s7 _ => n - (intOf s7).toNat)
  case atStart => exact ⟨0, Nat.zero_le _, rfl, hj1, ⟨KpO.refl _ _ _⟩⟩
  case round =>
    clear hj1 h0
    obtain ⟨i, hi, rfl, hJ, HK⟩ := hrel
    by_cases hlt : i < n
    · have hltz : (i : Int) < (n : Int) := by omega
      have hiL : i < L.length := by rw [Hn.out]; exact hlt
      have hRd := H.out.kept HK.out
      obtain ⟨b, off, cap, e, hc⟩ := hRd.ref hiL
      have hsm := hRd.sum hiL
      rw [Hn.out] at e
      simp at e
      obtain ⟨rfl, rfl⟩ := e
      have HSn := Hid.mk (spn_succ L i)
      have HYi := Hid.mk (fun A => HY.out i A hlt)
      generalize L.getD i r0 = r at hc hsm HSn HYi
      have Hc := Hid.mk hc
      have Hi : Hid ((Try.prog.info? 56).map (·.size) = some (rc r).length) := ⟨by rw [rc_len r hsm]; exact info28⟩
      have Hsm := Hid.mk hsm
      clear hc hsm hRd
      gi_wp2_with (first
        | (refine wpi_loadR rfl (.tmp 10) rfl b (off + i * 35) r Hsm.out rfl Hc.out ?_)
        | (refine wpi_storeR rfl (.tmp 4) (.tmp 11) rfl wr.heap.size r Hsm.out rfl rfl _ (heap_alloc_new wr _) rfl ?_; intro w6 hA3 hG3; have HA3 := Hid.mk hA3; have HB3 : Hid (Below wr.heap.size wr w6) := ⟨((Chg.ofBelow (X := []) ((Below.refl _ wr).alloc (Nat.le_refl _) _)).thenNew hG3 (by simp)).below (Nat.le_refl _) (by simp)⟩; clear hA3 hG3; have hc33 := (HA3.out.cell 33).trans (rc_num r Hsm.out).2.1; have hc34 := (HA3.out.cell 34).trans (rc_num r Hsm.out).2.2; have hj6 := HJb.out _ _ _ hJ HB3.out; obtain ⟨fn, tmps, assign, body, hy, hR⟩ := HYi.out w6 hj6; simp only [spo, spv] at hy))
      refine hR.mono ?_
      rintro e W3 ⟨rfl, hJ3, hk3⟩
      have HK3 : Hid (KpO (.slice (some ⟨b, off, none⟩) n cv) L W W3) := ⟨(HK.out.trans (KpO.of (Chg.ofBelow (X := []) HB3.out) (by simp))).trans hk3⟩
      gi_wp2
      go_roundw
      case rel => exact ⟨i + 1, by omega, by go_num, by rw [HSn.out]; exact hJ3, HK3⟩
      case measure => simp [intOf]; omega
    · obtain rfl : i = n := by omega
      gi_wp2
      go_end0
      exact ⟨⟨_, rfl⟩, _, HE.out.symm, hJ⟩
/-- What comes next: the ref's number, and where it lies. -/
def NextS (L : List Rf) (pre : List (Nat × Sp)) (x : Nat × Sp) : Prop := ∃ i, i < L.length ∧ pre = spn L i ∧ x = (i, spo (L.getD i r0))
theorem spots_seq {w : World} {v : Value} {L : List Rf} (hL : L.length ≤ 2513169434843) (q : Nat) (hv : RdR w v L) (h0 : w.cell? ⟨q, 0, none⟩ = some v) :
    SeqE Fence.wide 9 Try.prog 48 #[.pointer (some ⟨q, 0, none⟩)] (fun x : Nat × Sp => #[.int .i64 (x.1 : Int), spv x.2]) (KpO v L) (fun xs => xs = sps L) (NextS L) w :=
  fun l J W hW hJb hY hj0 => spots1_in hL l q J W (hv.below hW) ((hW.cell (World.block_lt_of_cell? _ _ h0)).trans h0) hJb (fun i A hi hA => hY (spn L i) (i, spo (L.getD i r0)) A hA ⟨i, hi, rfl, rfl⟩) hj0
end
end Go.Proofs.Ytkkcdmdkjedkjaa
