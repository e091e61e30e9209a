/- The program's Bins. -/
import Derived.Test.YtkkcdmdkjedkjaaS7
import Derived.Test.YtkkcdmdkjedkjaaIntsD
namespace Go.Proofs.Ytkkcdmdkjedkjaa
open Go.RowKit Go.Lib Go.Shelf

def i1 (x : Int) : List Value := [.int .i64 x]
theorem i1_one (x : Int) : (i1 x).length = 1 ∧ ∀ u ∈ i1 x, u.oneCell' = true := ⟨rfl, fun u hu => by simp [i1] at hu; subst hu; rfl⟩
theorem fl_i1 : ∀ (l : List Int), fl i1 l = iv l
  | [] => rfl
  | x :: l => by have := fl_i1 l; simp only [fl, iv, List.map_cons, List.flatten_cons, i1] at this ⊢; rw [this]; rfl
theorem eltI : Elt Try.prog 66 3 1 8 := by
  have h : ((Try.prog.info? 3).map (fun i => (i.size, i.bytes, (i.zero.map (fun z => z.cells.size))))) = some (1, 8, some 1) := by kernel_rfl
  refine ⟨Try.underlying66, ?_, by decide⟩
  cases hi : Try.prog.info? 3 with
  | none => rw [hi] at h; simp at h
  | some i =>
    rw [hi] at h
    simp at h
    obtain ⟨h1, h2, z, h3, h4⟩ := h
    exact ⟨i, z, rfl, h3, h1, h2, h4⟩
theorem owni_of {w : World} {base : Nat} {v : Value} {l : List Int} (h : OwnE i1 1 3 w base v l) : OwnI w base v l := by
  have := h.own
  rw [fl_i1] at this
  exact this
theorem nodup_len : ∀ (A B : List Int), A.Nodup → (∀ x ∈ A, x ∈ B) → A.length ≤ B.length
  | [], _, _, _ => Nat.zero_le _
  | x :: A, B, h, hm => by
    rw [List.nodup_cons] at h
    have hx := hm x (by simp)
    have := nodup_len A (B.erase x) h.2 (fun y hy => (List.mem_erase_of_ne (fun (e : y = x) => h.1 (by rw [← e]; exact hy))).2 (hm y (by simp [hy])))
    rw [List.length_erase_of_mem hx] at this
    have := List.length_pos_of_mem hx
    simp only [List.length_cons]
    omega
/-- A list that rises has no more elements than one that has them all. -/
theorem up_len {A B : List Int} (h : A.Pairwise (· < ·)) (hm : ∀ x ∈ A, x ∈ B) : A.length ≤ B.length :=
  nodup_len A B (h.imp (fun h => by omega)) hm
theorem wpi_makeI {F : Fence} {n : Nat} {w : World} {ops : Array Oper} {rest : List Oper} {o : Oper} {a : Act} {Q : Exit → Act → World → Prop} (hgd : o.guard = none) (x y : Operand) (ho : o.op = .makeSlice 66 x y) (c : Nat) (hx : a.eval x = .int .i64 0) (hy : a.eval y = .int .i64 (c : Int)) (hc : c ≤ 10000000000000)
    (h : ∀ w', OwnE i1 1 3 w' w.heap.size (.slice (some ⟨w.heap.size, 0, none⟩) 0 c) [] → Below w.heap.size w w' → w'.heap.size = w.heap.size + 1 → wpListIn F n Try.prog ops Q rest (a.put o.dst (.slice (some ⟨w.heap.size, 0, none⟩) 0 c)) w') : wpListIn F n Try.prog ops Q (o :: rest) a w := by
  refine wpListIn_plain hgd fun K hK => ?_
  obtain ⟨_, ⟨i, z, hi, hz, hs, hb, hzc⟩, _⟩ := eltI
  have h63' : (c : Int) ≤ 9223372036854775807 := by omega
  have hb' : (i.bytes : Int) * (c : Int) ≤ 281474976710656 := by rw [hb]; omega
  have hr := run_make (P := Try.prog) w 66 3 i _ Try.underlying66 hi hz .i64 .i64 0 c (Int.le_refl _) (by omega) hb' h63'
  simp only [Int.toNat_zero, Int.toNat_natCast] at hr
  unfold Oper.wpIn
  refine ⟨?_, ?_⟩
  · simp [Oper.about, ho]
  · rw [Oper.semAt_plain F _ _ (by rw [ho]; intro c hc'; cases hc')]
    simp only [execOp, ho, hx, hy, Sem.run_bind, hr, Result.andThen_ok]
    refine hK _ _ (h _ ?_ ((Below.refl _ w).alloc (Nat.le_refl _) _) (by simp))
    have := World.ownsRow_made (e := 3) (size := i.size) w (madeCells (Value.cells z) (c * i.size)) c (Nat.le_refl _) (by unfold maxLen; omega) (size_madeCells _ _)
    rw [hs] at this
    refine ⟨?_, by simp⟩
    simpa [fl, hs] using this
theorem sps_fst (L : List Rf) : (sps L).map (fun p => p.2.1) = L.map (fun r => (spo r).1) := by
  have h := congrArg (List.map (fun s : Sp => s.1)) (sps_snd L)
  rw [List.map_map, List.map_map] at h
  exact h
/-- What the loop knows between two rounds: the box holds a slice that owns the spots. -/
structure InvB (w : World) (b M : Nat) (pre : List (Nat × Sp)) (W : World) : Prop where
  box : ∃ sl, W.heap[b]? = some (.cells #[sl] 66 (0, 0)) ∧ OwnE i1 1 3 W w.heap.size sl (pre.map (fun p => p.2.1))
  hb : Below w.heap.size w W
  hM : M ≤ W.heap.size
theorem InvB.below {w : World} {b M : Nat} {pre : List (Nat × Sp)} {A B : World} (h : InvB w b M pre A) (hb : Below A.heap.size A B) : InvB w b M pre B := by
  obtain ⟨⟨sl, h1, h2⟩, h3, h4⟩ := h
  exact ⟨⟨sl, (hb.block _ (Array.getElem?_eq_some_iff.1 h1).1).trans h1, h2.far (Chg.ofBelow (X := []) hb) (by simp)⟩, h3.trans (hb.mono h3.size), Nat.le_trans h4 hb.size⟩
theorem InvB.put {w : World} {b M : Nat} {pre : List (Nat × Sp)} {A : World} (h : InvB w b M pre A) {l : Nat} {o : Obj} (hl : w.heap.size ≤ l) (hx : ∃ x : Obj, A.heap[l]? = some x ∧ x.isCells = false) : InvB w b M pre (A.putObj l o) := by
  obtain ⟨⟨sl, h1, h2⟩, h3, h4⟩ := h
  have hc := chg_put A l o
  obtain ⟨y, hy, hyc⟩ := hx
  refine ⟨⟨sl, (hc.block _ (Array.getElem?_eq_some_iff.1 h1).1 (fun hm => ?_)).trans h1, h2.far hc (fun g hg hm => ?_)⟩, h3.trans (hc.below h3.size (by simp; omega)), Nat.le_trans h4 hc.size⟩
  · simp at hm
    subst hm
    rw [hy] at h1
    cases h1
    cases hyc
  · simp at hm
    subst hm
    obtain ⟨cs, hcs⟩ := h2.ty g hg
    rw [hy] at hcs
    cases hcs
    cases hyc
section
variable {w : World}
attribute [local go_sem] Oper.semAt_some
set_option maxHeartbeats 8000000 in
set_option maxRecDepth 100000 in
theorem bins29 (v : Value) (L : List Rf) (h : RdR w v L) (hL : L.length ≤ 2513169434843) :
    Calls Try.prog 29 #[v] w fun e w' => ∃ x, e = .returned x ∧ ∃ M, OwnI w' w.heap.size x M ∧ M.Pairwise (· < ·) ∧ (∀ y, y ∈ M ↔ y ∈ L.map (fun r => (spo r).1)) ∧ M.length ≤ 2513169434843 ∧ Below w.heap.size w w' := by
  have H := Hid.mk h
  have HvL : Hid (0 < L.length → ∀ k ∈ ob v, k < w.heap.size) := ⟨fun h0 k hk => h.toE.lt (by decide) h0 k hk⟩
  obtain ⟨av, cv, rfl, hcv, hcm, _⟩ := h.shape
  obtain ⟨n, Hn⟩ : ∃ n, Hid (L.length = n) := ⟨_, ⟨rfl⟩⟩
  rw [Hn.out] at H hcv HvL ⊢
  have hn : n ≤ 2513169434843 := by rw [← Hn.out]; exact hL
  clear h
  refine (callsIn_wide (n := 10)).1 ?_
  refine callsIn_of_wp_marks Try.func29 rfl trivial ?_ rfl
  simp only [Try.ntmps29, List.size_toArray, List.length_cons, List.length_nil, Nat.reduceAdd, Nat.reduceSub, Array.replicate_succ, Array.replicate_zero, List.push_toArray, List.append_toArray, List.nil_append, List.cons_append]
  gi_wp2_with (refine wpi_makeI rfl (.const (.int .i64 0)) (.tmp 7) rfl n rfl rfl (by omega) ?_; intro w2 hO2 hB2 hs2; have HO2 := Hid.mk hO2; have HB2 := Hid.mk hB2; have Hs2 := Hid.mk hs2; clear hO2 hB2 hs2)
  obtain ⟨b0, Hb0⟩ : ∃ x, Hid (w.heap.size = x) := ⟨_, ⟨rfl⟩⟩
  obtain ⟨b, Hb⟩ : ∃ x, Hid (w2.heap.size = x) := ⟨_, ⟨rfl⟩⟩
  have Hbb : Hid (b = b0 + 1) := ⟨by rw [← Hb.out, Hs2.out, Hb0.out]⟩
  obtain ⟨w3, Hw3⟩ : ∃ x, Hid (w2.alloc (.cells #[.slice (some ⟨b0, 0, none⟩) 0 n] 66) = x) := ⟨_, ⟨rfl⟩⟩
  have HC3 : Hid (Below w2.heap.size w2 w3) := ⟨by rw [← Hw3.out]; exact (Below.refl _ w2).alloc (Nat.le_refl _) _⟩
  have HB3 : Hid (Below w.heap.size w w3) := ⟨HB2.out.trans (HC3.out.mono HB2.out.size)⟩
  have HX3 : Hid (w3.heap[b]? = some (.cells #[.slice (some ⟨b0, 0, none⟩) 0 n] 66 (0, 0)) ∧ w3.heap.size = b + 1) := ⟨by rw [← Hw3.out, ← Hb.out]; exact ⟨heap_alloc_new w2 _, by simp⟩⟩
  have t5 := spots_any (w := w3) av n cv
  rw [HX3.out.2] at t5
  obtain ⟨w5, Hw5⟩ : ∃ x, Hid (w3.alloc (.cells #[.slice av n cv] 22) = x) := ⟨_, ⟨rfl⟩⟩
  rw [Hw5.out] at t5
  have HC5 : Hid (Below w3.heap.size w3 w5) := ⟨by rw [← Hw5.out]; exact (Below.refl _ w3).alloc (Nat.le_refl _) _⟩
  have HB5 : Hid (Below w.heap.size w w5) := ⟨HB3.out.trans (HC5.out.mono HB3.out.size)⟩
  have Hs5 : Hid (w5.heap.size = b + 2) := ⟨by rw [← Hw5.out]; simp [HX3.out.2]⟩
  have HQ5 : Hid (w5.cell? ⟨b + 1, 0, none⟩ = some (.slice av n cv)) := ⟨by
    have := heap_alloc_new w3 (.cells #[.slice av n cv] 22)
    rw [Hw5.out, HX3.out.2] at this
    rw [cell_of_row _ _ _ _ _ _ this]
    rfl⟩
  rw [Hb0.out] at HO2
  have HI0 : Hid (InvB w b (b + 2) [] w5) := ⟨⟨⟨_, (HC5.out.block b (by rw [HX3.out.2]; omega)).trans HX3.out.1, by rw [Hb0.out]; exact (HO2.out.far (Chg.ofBelow (X := []) HC3.out) (by simp)).far (Chg.ofBelow (X := []) HC5.out) (by simp)⟩, HB5.out, by rw [Hs5.out]; exact Nat.le_refl _⟩⟩
  have HSq := Hid.mk (spots_seq (w := w5) (v := .slice av n cv) hL (b + 1) (H.out.below HB5.out) HQ5.out)
  rw [Hb0.out, Hb.out, Hw3.out]
  clear HX3 HC3 HC5 HO2
  refine ⟨trivial, ?_⟩
  refine (callsIn_wide.2 t5).mono ?_
  rintro e wx ⟨rfl, ex⟩
  rw [ex]
  clear ex wx t5
  gi_wp2
  refine range_each rfl (by decide) (gf := 48) (lb := #[.pointer (some ⟨b + 1, 0, none⟩)]) rfl trivial (enters_of Try.func48 (by kernel_rfl) rfl) HSq.out (fun _ => rfl) (fun h k => KpO.trans h k)
    (fun W l o hl => KpO.of (chg_put W l o) (fun h0 k hk hm => by simp at hm; subst hm; have := HvL.out (by rw [← Hn.out]; exact h0) k hk; have := Hbb.out; have := Hb0.out; have := Hs5.out; omega))
    (fun pre W => InvB w b (b + 2) pre W)
    (fun pre x act A => ∃ pb, act = { tmps := #[.slice av n cv, undef, .slice none 0 0, .pointer (some ⟨b, 0, none⟩), undef, .pointer (some ⟨pb, 0, none⟩), .slice av n cv, .int .i64 (n : Int), .slice (some ⟨b0, 0, none⟩) 0 n, .slice av n cv, .func (.func 48) #[] #[.pointer (some ⟨b + 1, 0, none⟩)], .int .i64 (x.1 : Int), spv x.2, undef, undef, undef, undef, undef, undef, undef, undef, undef], defers := [] } ∧ A.heap[pb]? = some (.cells #[.int .i64 x.2.1, .int .i64 x.2.2] 61 (0, 0)) ∧ InvB w b (b + 2) pre A)
    ?hIb ?hIo ?hMo ?h0 ?hassign ?hbody ?hdone
  case hIb => exact fun pre A B h hb => h.below hb
  case hIo => exact fun pre A l o h hl hx => h.put (by have := Hs5.out; have := Hbb.out; have := Hb0.out; omega) hx
  case hMo =>
    rintro pre x act A l o ⟨pb, rfl, h1, h2⟩ hl hx
    refine ⟨pb, rfl, (World.putObj_heap_other (fun e => ?_)).trans h1, h2.put (by have := Hs5.out; have := Hbb.out; have := Hb0.out; omega) hx⟩
    obtain ⟨y, hy, hyc⟩ := hx
    rw [e, hy] at h1
    cases h1
    cases hyc
  case h0 => exact HI0.out
  case hassign =>
    intro l pre x W hI hE'
    have HI := Hid.mk hI
    have hM := hI.hM
    simp only [spv]
    gi_wp2
    have hb1 : Below W.heap.size W (W.alloc (.cells #[.int .i64 x.2.1, .int .i64 x.2.2] 61)) := (Below.refl _ W).alloc (Nat.le_refl _) _
    exact ⟨keeps_of (Chg.ofBelow (X := []) hb1) (by simp), KpO.of (Chg.ofBelow (X := []) hb1) (by simp), W.heap.size, rfl, heap_alloc_new W _, HI.out.below hb1⟩
  case hbody =>
    rintro l pre x act W ⟨pb, rfl, h1, ⟨sl, h2, h3⟩, h4, h5⟩ hx
    have hpl : (pre.map (fun p => p.2.1)).length ≤ 2513169434843 := by
      obtain ⟨k, hk, rfl, _⟩ := hx
      rw [List.length_map, spn_len]
      omega
    have hmp : Hid ((pre ++ [x]).map (fun p => p.2.1) = pre.map (fun p => p.2.1) ++ [x.2.1]) := ⟨by simp⟩
    obtain ⟨P0, HP0⟩ : ∃ P, Hid (pre.map (fun p => p.2.1) = P) := ⟨_, ⟨rfl⟩⟩
    rw [HP0.out] at h3 hpl hmp
    have c1 := (Boxed.cell (show Boxed W b 66 sl from h2))
    obtain ⟨sa, sc, es, _⟩ := (h3.rd 0).shape
    subst es
    have d0 : W.cell? ⟨pb, 0, none⟩ = some (.int .i64 x.2.1) := by rw [cell_of_row _ _ _ _ _ _ h1]; rfl
    have d1 : W.cell? ⟨pb, 1, none⟩ = some (.int .i64 x.2.2) := by rw [cell_of_row _ _ _ _ _ _ h1]; rfl
    obtain ⟨V, HV⟩ : ∃ V, Hid (W.alloc (.cells #[.int .i64 x.2.1] 3) = V) := ⟨_, ⟨rfl⟩⟩
    have HBV : Hid (Below W.heap.size W V) := ⟨by rw [← HV.out]; exact (Below.refl _ W).alloc (Nat.le_refl _) _⟩
    have HRV : Hid (RdE i1 1 0 V (.slice (some ⟨W.heap.size, 0, none⟩) 1 1) [x.2.1]) := ⟨by rw [← HV.out]; exact rde_one W x.2.1 rfl (i1_one x.2.1).2 3⟩
    have HOV : Hid (OwnE i1 1 3 V w.heap.size (.slice sa P0.length sc) P0) := ⟨h3.far (Chg.ofBelow (X := []) HBV.out) (by simp)⟩
    have HbV : Hid (V.heap[b]? = some (.cells #[.slice sa P0.length sc] 66 (0, 0))) := ⟨(HBV.out.block _ (Array.getElem?_eq_some_iff.1 h2).1).trans h2⟩
    have HB4' : Hid (Below w.heap.size w V) := ⟨h4.trans (HBV.out.mono h4.size)⟩
    have H5 := Hid.mk h5
    have hl1 : (P0.length + [x.2.1].length) * 8 ≤ 140737488355328 := by simp; omega
    have hl2 : P0.length + [x.2.1].length ≤ maxLen := by unfold maxLen; simp; omega
    have hl3 : w.heap.size ≤ V.heap.size := HB4'.out.size
    have HKV : Hid (KpO (.slice av n cv) L W V) := ⟨KpO.of (Chg.ofBelow (X := []) HBV.out) (by simp)⟩
    clear h1 h2 h3 h4 h5
    obtain ⟨k, Hk⟩ : ∃ k, Hid (P0.length = k) := ⟨_, ⟨rfl⟩⟩
    simp only [Hk.out] at HOV HbV c1
    have Hnb : Hid (b ∉ ob (.slice sa k sc)) := ⟨fun hm => by obtain ⟨cs, hcs⟩ := HOV.out.ty b hm; rw [HbV.out] at hcs; simp at hcs⟩
    have HnA : Hid (∀ A, Chg (ob (.slice sa k sc)) V A → A.heap[b]? = some (.cells #[.slice sa k sc] 66 (0, 0))) := ⟨fun A hA => (hA.block b (Array.getElem?_eq_some_iff.1 HbV.out).1 Hnb.out).trans HbV.out⟩
    gi_wp2_with (rw [HV.out]; refine wpi_appE (f := i1) (d := 0) eltI rfl (.tmp 13) (.tmp 16) rfl rfl HOV.out rfl HRV.out hl1 hl2 hl3 ?_; intro v6 w6 hO6 hG6 hV6; obtain ⟨a6, c6, e6, _⟩ := (hO6.rd 0).shape; subst e6; obtain ⟨k6, Hk6⟩ : ∃ k, Hid ((P0 ++ [x.2.1]).length = k) := ⟨_, ⟨rfl⟩⟩; rw [Hk6.out] at hO6 hV6 ⊢; have HG6 : Hid (Chg (ob (.slice sa k sc)) V w6) := ⟨hG6⟩; have Hb6 := Hid.mk (HnA.out w6 HG6.out); have hc6 := Boxed.cell (show Boxed w6 b 66 (.slice sa k sc) from Hb6.out); have hf6 := Boxed.frozen (show Boxed w6 b 66 (.slice sa k sc) from Hb6.out); have HO6 := Hid.mk hO6; clear hO6 hG6 hV6)
    have hcs := (Chg.refl [b] w6).setCell (a := ⟨b, 0, none⟩) (.inl (by simp)) (.slice a6 k6 c6)
    have hx6 : ∀ g ∈ ob (Value.slice a6 k6 c6), g ∉ [b] := fun g hg hm => by simp at hm; subst hm; obtain ⟨cs, hcs⟩ := HO6.out.ty g hg; rw [Hb6.out] at hcs; simp at hcs
    have hown : ∀ g ∈ ob (Value.slice sa k sc), w.heap.size ≤ g := fun g hg => (HOV.out.lt g hg).1
    have hWb := H5.out
    have hVW := HBV.out.size
    have hbw : w.heap.size ≤ b := by have := Hbb.out; have := Hb0.out; omega
    refine ⟨?_, ?_, ⟨⟨_, Boxed.set (.slice a6 k6 c6) (show Boxed w6 b 66 (.slice sa k sc) from Hb6.out), by rw [hmp.out]; exact HO6.out.far hcs hx6⟩, ?_, ?_⟩⟩
    · refine ⟨Nat.le_trans hVW (Nat.le_trans HG6.out.size hcs.size), fun g o hB hg ho => ?_⟩
      have hg0 := (Array.getElem?_eq_some_iff.1 hg).1
      have e1 := (HBV.out.block g hg0).trans hg
      have e2 := (HG6.out.block g (Nat.lt_of_lt_of_le hg0 hVW) (fun hm => by
        obtain ⟨cs, hcs'⟩ := HOV.out.ty g hm
        rw [e1] at hcs'
        cases hcs'
        cases ho)).trans e1
      exact (hcs.block g (Array.getElem?_eq_some_iff.1 e2).1 (fun hm => by simp at hm; have := Hs5.out; omega)).trans e2
    · have hvk : 0 < L.length → ∀ k ∈ ob (Value.slice av n cv), k < w.heap.size := fun h0 k hk => HvL.out (by rw [← Hn.out]; exact h0) k hk
      exact HKV.out.trans ((KpO.of HG6.out (fun h0 j hj hm => by have := hvk h0 j hj; have := hown j hm; omega)).trans (KpO.of hcs (fun h0 j hj hm => by simp at hm; have := hvk h0 j hj; omega)))
    · exact (HB4'.out.trans (HG6.out.below HB4'.out.size (fun g hg => hown g hg))).setCell (p := ⟨b, 0, none⟩) hbw _
    · have := HG6.out.size
      have := hcs.size
      omega
  case hdone =>
    rintro D xs W hD rfl ⟨⟨sl, h1, h2⟩, h3, h4⟩ hK
    rw [sps_fst] at h2
    have hlm : (L.map (fun r => (spo r).1)).length ≤ 2513169434843 := by rw [List.length_map]; exact hL
    obtain ⟨sa, sc, es, _⟩ := (h2.rd 0).shape
    subst es
    obtain ⟨k, Hk⟩ : ∃ k, Hid ((L.map (fun r => (spo r).1)).length = k) := ⟨_, ⟨rfl⟩⟩
    rw [Hk.out] at h1 h2
    obtain ⟨B, HBs⟩ : ∃ B, Hid (L.map (fun r => (spo r).1) = B) := ⟨_, ⟨rfl⟩⟩
    rw [HBs.out] at h2 hlm Hk
    have t6 := sorti_any (owni_of h2) (by omega)
    have c1 := (Boxed.cell (show Boxed W b 66 _ from h1))
    have Hnb : Hid (b ∉ ob (.slice sa k sc)) := ⟨fun hm => by obtain ⟨cs, hcs⟩ := h2.ty b hm; rw [h1] at hcs; simp at hcs⟩
    have HnD : Hid (D ∉ ob (.slice sa k sc)) := ⟨fun hm => by obtain ⟨cs, hcs⟩ := h2.ty D hm; rw [hK] at hcs; simp at hcs⟩
    have Hown : Hid (∀ g ∈ ob (.slice sa k sc), w.heap.size ≤ g) := ⟨fun g hg => (h2.lt g hg).1⟩
    have H1 := Hid.mk h1
    have H3 := Hid.mk h3
    have HK := Hid.mk hK
    have HDw : Hid (w.heap.size ≤ D) := ⟨by have := Hs5.out; have := Hbb.out; have := Hb0.out; omega⟩
    clear h1 h2 h3 h4 hK
    gi_wp2
    refine ⟨trivial, ?_⟩
    refine (callsIn_wide.2 t6).mono ?_
    rintro e w6 ⟨rfl, hO6, hC6⟩
    have HC6 := Hid.mk hC6
    have hb6 : w6.heap[b]? = some (.cells #[.slice sa k sc] 66 (0, 0)) := (hC6.block b (Array.getElem?_eq_some_iff.1 H1.out).1 Hnb.out).trans H1.out
    have c6 := (Boxed.cell (show Boxed w6 b 66 _ from hb6))
    have t7 := compacti_any hO6 (srti_sorted B) (by rw [srti_len]; omega)
    clear hO6 hC6 hb6 t6 c1
    gi_wp2
    refine ⟨trivial, ?_⟩
    refine (callsIn_wide.2 t7).mono ?_
    rintro e w7 ⟨x, M, rfl, hR7, hU7, hM7, hC7, hI7⟩
    have HC7 := Hid.mk (HC6.out.trans hC7)
    have HR7 := Hid.mk hR7
    have HU7 := Hid.mk hU7
    have HM7 := Hid.mk hM7
    have HI7 := Hid.mk hI7
    have HL7 : Hid (M.length ≤ 2513169434843) := ⟨Nat.le_trans (up_len hU7 (fun y hy => srti_mem.1 ((hM7 y).1 hy))) hlm⟩
    clear t7 c6 hR7 hC7 hU7 hM7 hI7
    gi_wp2
    have hK7 := (HC7.out.block D (Array.getElem?_eq_some_iff.1 HK.out).1 HnD.out).trans HK.out
    refine ⟨by simp, .inl ⟨_, _, rfl, run_takeDeferred hK7, ?_⟩⟩
    have hc := chg_put w7 D (.deferred none)
    have hB7 := H3.out.trans (HC7.out.below H3.out.size Hown.out)
    refine ⟨_, results_tmp rfl _ _ _, x, rfl, M, own_far HR7.out hc (fun g hg hm => ?_), HU7.out, fun y => by rw [HBs.out]; exact (HM7.out y).trans srti_mem, HL7.out, hB7.trans (hc.below hB7.size (by have := HDw.out; simpa using this))⟩
    simp at hm
    subst hm
    exact HnD.out (HI7.out _ (mem_ob.2 hg))
end
end Go.Proofs.Ytkkcdmdkjedkjaa
