/- A sector that is sealed. -/
import Derived.Test.YtgjjjkokmgdmjaaDoorS3
namespace Go.Proofs.YtgjjjkokmgdmjaaDoor
open Go.RowKit
theorem zc59 : Tryd.zeroCells59 = Dk.pa Dk.zp := by rw [Dk.zp_arr]; kernel_rfl
theorem info59 : (Tryd.prog.info? 59).map (·.size) = some 128 := by kernel_rfl
section
variable {w : World}
theorem run_alloc59 (w : World) : (Instr.alloc 59 true (.tuple #[])).run Tryd.prog w = .ok (.pointer (some ⟨w.heap.size, 0, none⟩)) (w.alloc (.cells (Dk.pa Dk.zp) 59)) := by
  simp [Instr.alloc, newVar, newRow, Value.cells, zc59]
theorem wpl_alloc59 {ops : Array Oper} {rest : List Oper} {o : Oper} {a : Act} {Q : Exit → Act → World → Prop} (hg : o.guard = none) (ho : o.op = .alloc 59) (h : wpList Tryd.prog ops Q rest (a.put o.dst (.pointer (some ⟨w.heap.size, 0, none⟩))) (w.alloc (.cells (Dk.pa Dk.zp) 59))) : wpList Tryd.prog ops Q (o :: rest) a w :=
  wpList_plain hg fun _ hK => by
    unfold Oper.wp execOp
    simp only [ho, run_alloc59, Sem.run_bind, Result.andThen_ok]
    exact hK _ _ h
theorem put_body (m n : Nat) (t : List Int) (hn : t.length = n) (hnb : n ≤ 100) : putAt Dk.zp 0 ((Oc.fixB m 8 ++ (Oc.fixB n 1 ++ t)).take 116) = Sl.bodB m t ++ List.replicate 12 0 := by
  have h1 : (Oc.fixB m 8 ++ (Oc.fixB n 1 ++ t)).length = 9 + n := by simp [Oc.fixB_length, hn]; omega
  have h2 : Oc.fixB n 1 = [(n : Int)] := by simp [Oc.fixB]; omega
  rw [List.take_of_length_le (by rw [h1]; omega)]
  unfold putAt Dk.zp Sl.bodB
  rw [h1, hn, h2, List.take_zero, List.nil_append, List.drop_replicate, show 128 - (0 + (9 + n)) = (107 - n) + 12 by omega, ← List.replicate_append_replicate]
  simp only [List.append_assoc, List.cons_append, List.nil_append]
theorem put_seal {body c4 m8 : List Int} (hb : body.length = 116) (hc : c4.length = 4) (hm : m8.length = 8) : putAt (putAt (body ++ List.replicate 12 0) 116 c4) 120 m8 = body ++ (c4 ++ m8) := by
  have e1 : putAt (body ++ List.replicate 12 0) 116 c4 = (body ++ c4) ++ List.replicate 8 0 := by
    unfold putAt
    rw [hc, List.take_append_of_le_length (by omega), List.take_of_length_le (by omega), List.drop_append, List.drop_eq_nil_of_le (by omega), List.nil_append, hb, List.drop_replicate]
  rw [e1]
  unfold putAt
  have hl : (body ++ c4).length = 120 := by simp [hb, hc]
  rw [hm, List.take_append_of_le_length (by omega), List.take_of_length_le (by omega), List.drop_append, List.drop_eq_nil_of_le (by omega), List.nil_append, hl, List.drop_replicate]
  simp
theorem byt_body {m n : Nat} {t : List Int} (hn : t.length = n) (hnb : n ≤ 100) (hy : Dk.Byt t) : Dk.Byt (Sl.bodB m t) := by
  intro x hx
  unfold Sl.bodB at hx
  rcases List.mem_append.1 hx with q | q
  · exact Oc.fixB_byte m 8 x q
  · rcases List.mem_cons.1 q with q | q
    · omega
    · rcases List.mem_append.1 q with q | q
      · exact hy x q
      · have := List.eq_of_mem_replicate q
        omega
theorem bs_row {s o k : Nat} {t : TypeId} {l : List Int} (h : w.heap[s]? = some (.cells (Dk.pa l) t (0, 0))) (hk : o + k ≤ l.length) (hm : k ≤ maxLen) : Oc.Bs w (.slice (some ⟨s, o, none⟩) k k) ((l.drop o).take k) := by
  have hl : ((l.drop o).take k).length = k := by simp; omega
  refine ⟨some ⟨s, o, none⟩, k, by rw [hl], by rw [hl]; exact Nat.le_refl _, hm, by simp, fun x hx i hi => ?_⟩
  cases hx
  rw [hl] at hi
  rw [Oc.add_plain, cell_of_row _ _ _ _ _ _ h]
  unfold Dk.pa Dk.pc
  simp [List.getD, List.getElem?_drop, hi, show o + i < l.length by omega]
set_option maxHeartbeats 8000000 in
set_option maxRecDepth 100000 in
theorem sealed_any (m : Nat) (v : Value) (t : List Int) (hm : m ≤ 9007199254740991) (hv : Oc.Bs w v t) (hy : Dk.Byt t) (ht : t.length ≤ 100) (hV : Vars w) :
    Calls Tryd.prog 25 #[.int .i64 (m : Int), v] w fun e w' => e = .returned (.agg (Dk.pa (Sl.sealB crB m t))) ∧ Below w.heap.size w w' := by
  have Hv : Hid (Oc.Bs w v t) := ⟨hv⟩
  obtain ⟨a3, c3, e3, _⟩ := hv
  obtain ⟨n, Hn⟩ : ∃ n, Hid (t.length = n) := ⟨_, ⟨rfl⟩⟩
  rw [Hn.out] at e3
  subst e3
  have hnb : n ≤ 100 := by rw [← Hn.out]; exact ht
  obtain ⟨b, Hb⟩ : ∃ b, Hid (w.heap.size = b) := ⟨_, ⟨rfl⟩⟩
  obtain ⟨w1, Hw1⟩ : ∃ w1, Hid (w.alloc (.cells (Dk.pa Dk.zp) 59) = w1) := ⟨_, ⟨rfl⟩⟩
  have HB1 : Hid (Below w.heap.size w w1) := ⟨by rw [← Hw1.out]; exact (Below.refl _ w).alloc (Nat.le_refl _) _⟩
  have HR1 : Hid (w1.heap[b]? = some (.cells (Dk.pa Dk.zp) 59 (0, 0))) := ⟨by rw [← Hw1.out, ← Hb.out]; exact heap_alloc_new w _⟩
  have t1 := Oc.fixed_good m 8 w1 hm (by decide) (by decide) (by omega)
  clear ht
  obtain ⟨SB, HSB⟩ : ∃ l, Hid (Sl.sealB crB m t = l) := ⟨_, ⟨rfl⟩⟩
  rw [HSB.out]
  go_enter Tryd.func25, Tryd.ntmps25
  go_upto_region 1 with (refine wpl_alloc59 rfl rfl ?_)
  rw [Hw1.out, Hb.out]
  go_upto_region 3 with (first
    | (go_at_call 39; refine t1.mono ?_; rintro e w2 ⟨v1, rfl, hO2, hB2⟩; have HB2 : Hid (Below w.heap.size w w2) := ⟨HB1.out.trans (hB2.mono HB1.out.size)⟩; have HR2 : Hid (w2.heap[b]? = some (.cells (Dk.pa Dk.zp) 59 (0, 0))) := ⟨(hB2.block b (Array.getElem?_eq_some_iff.1 HR1.out).1).trans HR1.out⟩; have HO2 : Hid (Oc.Bs w2 v1 (Oc.fixB m 8)) := ⟨hO2.bs⟩; clear hO2 hB2 t1; have t2 := Oc.fixed_good n 1 w2 (by omega) (by decide) (by decide) (by omega))
    | (go_at_call 39; refine t2.mono ?_; rintro e w3 ⟨v2, rfl, hO3, hB3⟩; have HB3 : Hid (Below w.heap.size w w3) := ⟨HB2.out.trans (hB3.mono HB2.out.size)⟩; have HR3 : Hid (w3.heap[b]? = some (.cells (Dk.pa Dk.zp) 59 (0, 0))) := ⟨(hB3.block b (Array.getElem?_eq_some_iff.1 HR2.out).1).trans HR2.out⟩; have HV1 : Hid (Oc.Bs w3 v1 (Oc.fixB m 8)) := ⟨HO2.out.below hB3⟩; have HV2 : Hid (Oc.Bs w3 v2 (Oc.fixB n 1)) := ⟨hO3.bs⟩; clear hO3 hB3 t2))
  obtain ⟨a1, c1, e1, _⟩ := HV1.out
  obtain ⟨a2, c2, e2, _⟩ := HV2.out
  rw [Oc.fixB_length] at e1 e2
  subst e1 e2
  obtain ⟨s, Hs⟩ : ∃ s, Hid (w3.heap.size = s) := ⟨_, ⟨rfl⟩⟩
  obtain ⟨w4, Hw4⟩ : ∃ w4, Hid (w3.alloc (.cells (Dk.pa Dk.zp) 59) = w4) := ⟨_, ⟨rfl⟩⟩
  have HB34 : Hid (Below w3.heap.size w3 w4) := ⟨by rw [← Hw4.out]; exact (Below.refl _ w3).alloc (Nat.le_refl _) _⟩
  have HS4 : Hid (w4.heap[s]? = some (.cells (Dk.pa Dk.zp) 59 (0, 0))) := ⟨by rw [← Hw4.out, ← Hs.out]; exact heap_alloc_new w3 _⟩
  have Hsl : Hid (s < w4.heap.size) := ⟨(Array.getElem?_eq_some_iff.1 HS4.out).1⟩
  obtain ⟨PP, HPP⟩ : ∃ P : List (Value × List Int), Hid ([(.slice a1 8 c1, Oc.fixB m 8), (.slice a2 1 c2, Oc.fixB n 1), (.slice a3 n c3, t)] = P) := ⟨_, ⟨rfl⟩⟩
  have HPf : Hid (flat PP = Oc.fixB m 8 ++ (Oc.fixB n 1 ++ t)) := ⟨by rw [← HPP.out]; simp [flat]⟩
  have HPl : Hid ((flat PP).length = 9 + n) := ⟨by rw [HPf.out]; simp [Oc.fixB_length, Hn.out]; omega⟩
  obtain ⟨w5, HW5⟩ : ∃ w5, Hid ((w4.alloc (.cells #[.slice a1 8 c1, .slice a2 1 c2, .slice a3 n c3] 23)).drew = w5) := ⟨_, ⟨rfl⟩⟩
  have HB5 : Hid (Below w4.heap.size w4 w5) := ⟨by rw [← HW5.out]; exact ((Below.refl _ w4).alloc (Nat.le_refl _) _).drew⟩
  have HW5s : Hid (w5.heap.size = w4.heap.size + 1) := ⟨by rw [← HW5.out]; simp⟩
  have HPt : Hid (Parts w5 w4.heap.size PP) := ⟨by
    have hb35 : Below w3.heap.size w3 w5 := HB34.out.trans (HB5.out.mono HB34.out.size)
    have hr : w5.heap[w4.heap.size]? = some (.cells #[.slice a1 8 c1, .slice a2 1 c2, .slice a3 n c3] 23 (0, 0)) := by rw [← HW5.out]; exact heap_alloc_new w4 _
    have hvw : Oc.Bs w5 (.slice a3 n c3) t := Hv.out.below ((HB3.out).trans (hb35.mono HB3.out.size))
    rw [← HPP.out]
    refine ⟨fun i hi => ?_, fun i hi => ?_⟩
    · simp at hi
      rw [cell_of_row _ _ _ _ _ _ hr]
      match i, hi with
      | 0, _ => rfl
      | 1, _ => rfl
      | 2, _ => rfl
    · simp at hi
      match i, hi with
      | 0, _ => exact HV1.out.below hb35
      | 1, _ => exact HV2.out.below hb35
      | 2, _ => exact hvw⟩
  have t3 := concat_any (w := w5) w4.heap.size 3 3 PP (by rw [← HPP.out]; rfl) HPt.out (by rw [HPl.out]; omega) (by rw [HPl.out]; omega) (by decide)
  go_upto_region 4 with (refine wpl_alloc59 rfl rfl ?_)
  rw [Hw4.out, Hs.out]
  refine wp_region_held_drew (S := (fun _ => True)) (by kernel_rfl) trivial (fun hS => ?_)
  refine wpAnyH_take (i := 0) (v := .pointer (some ⟨s, 0, none⟩)) rfl (by kernel_rfl) (by kernel_rfl) (by kernel_rfl) (fun _ _ _ h => h) (Or.inl ⟨by kernel_rfl, fun wx hx => by go_simp⟩) hS ?_
  refine wpAnyH_take (i := 1) (v := .slice (some ⟨s, 0, none⟩) 116 116) rfl (by kernel_rfl) (by kernel_rfl) (by kernel_rfl) (fun _ _ _ h => h) (Or.inl ⟨by kernel_rfl, fun wx hx => by go_simp⟩) hS ?_
  refine wpAnyH_take (i := 2) (v := .slice a1 8 c1) rfl (by kernel_rfl) (by kernel_rfl) (by kernel_rfl) (fun _ _ _ h => h) (Or.inl ⟨by kernel_rfl, fun _ _ => by kernel_rfl⟩) hS ?_
  refine wpAnyH_take (i := 3) (v := .slice a2 1 c2) rfl (by kernel_rfl) (by kernel_rfl) (by kernel_rfl) (fun _ _ _ h => h) (Or.inl ⟨by kernel_rfl, fun _ _ => by kernel_rfl⟩) hS ?_
  refine wpAnyH_take (i := 4) (v := .slice a3 n c3) rfl (by kernel_rfl) (by kernel_rfl) (by kernel_rfl) (fun _ _ _ h => h) (Or.inl ⟨by kernel_rfl, fun _ _ => by kernel_rfl⟩) hS ?_
  refine wpAnyH_ready (rs := [5]) (by kernel_rfl) (by simp) (AllReadyH.cons rfl (fun Kc hK => ?_) AllReadyH.nil)
  go_simp
  refine hK.out _ _ trivial (fun hS => ?_)
  clear hK
  refine wpAnyH_ready (rs := [6]) (by kernel_rfl) (by simp) (AllReadyH.cons rfl (fun Kc hK => ?_) AllReadyH.nil)
  go_simp
  rw [HW5.out]
  refine t3.mono ?_
  rintro e w6 ⟨v6, rfl, hO6, hB6⟩
  have HB6 : Hid (Below w4.heap.size w4 w6) := ⟨HB5.out.trans (hB6.mono (by rw [HW5s.out]; omega))⟩
  have HS6 : Hid (w6.heap[s]? = some (.cells (Dk.pa Dk.zp) 59 (0, 0))) := ⟨(HB6.out.block s Hsl.out).trans HS4.out⟩
  obtain ⟨a6, c6, e6⟩ := Oc.OwnB.slice hO6
  subst e6
  have HBs6 : Hid (Oc.Bs w6 (.slice a6 (flat PP).length c6) (flat PP)) := ⟨hO6.bs⟩
  clear hO6 hB6
  rw [HPl.out] at HBs6 ⊢
  have hput := run_put w6 3 s 0 116 116 59 Dk.zp a6 (9 + n) c6 (flat PP) HS6.out HBs6.out (by omega) (by have := hnb; simp [Dk.zp]; omega)
  refine hK.out _ _ trivial (fun hS => ?_)
  clear hK
  refine wpAnyH_ready (rs := [7]) (by kernel_rfl) (by simp) (AllReadyH.cons rfl (fun Kc hK => ?_) AllReadyH.nil)
  go_simp
  refine hK.out _ _ trivial (fun hS => ?_)
  clear hK
  refine wpAnyH_done (by kernel_rfl) ?_ _
  clear hS hput
  obtain ⟨l1, Hl1⟩ : ∃ l, Hid (putAt Dk.zp 0 ((flat PP).take 116) = l) := ⟨_, ⟨rfl⟩⟩
  have Hl1b : Hid (l1 = Sl.bodB m t ++ List.replicate 12 0) := ⟨by rw [← Hl1.out, HPf.out]; exact put_body m n t Hn.out hnb⟩
  have Hb116 : Hid ((Sl.bodB m t).length = 116) := ⟨Sl.bodB_len (by rw [Hn.out]; omega)⟩
  rw [Hl1.out]
  obtain ⟨w7, Hw7⟩ : ∃ x, Hid (w6.setRow s (Dk.pa l1) = x) := ⟨_, ⟨rfl⟩⟩
  rw [Hw7.out]
  have HS7 : Hid (w7.heap[s]? = some (.cells (Dk.pa l1) 59 (0, 0))) := ⟨by rw [← Hw7.out]; exact setRow_heap _ _ _ _ 59 (0, 0) HS6.out⟩
  have Hsw : Hid (w3.heap.size ≤ s ∧ w.heap.size ≤ w3.heap.size) := ⟨by rw [Hs.out]; exact Nat.le_refl _, HB3.out.size⟩
  have HB37 : Hid (Below w3.heap.size w3 w7) := ⟨by rw [← Hw7.out]; exact Dk.below_setRow' (HB34.out.trans (HB6.out.mono HB34.out.size)) Hsw.out.1 _⟩
  have HV7 : Hid (Vars w7) := ⟨Dg.NibsAt.below hV (HB3.out.trans (HB37.out.mono HB3.out.size))⟩
  have Hll : Hid (l1.length = 128) := ⟨by rw [Hl1b.out]; simp [Hb116.out]⟩
  have Hbd : Hid ((l1.drop 0).take 116 = Sl.bodB m t) := ⟨by rw [List.drop_zero, Hl1b.out, List.take_append_of_le_length (by rw [Hb116.out]; exact Nat.le_refl _), List.take_of_length_le (by rw [Hb116.out]; exact Nat.le_refl _)]⟩
  have hby := byt_body (m := m) Hn.out hnb hy
  have t5 := crc_any (w := w7) (.slice (some ⟨s, 0, none⟩) 116 116) (Sl.bodB m t) (by rw [← Hbd.out]; exact bs_row HS7.out (by rw [Hll.out]; decide) (by decide)) hby HV7.out
  have hcl := crB_lt hby
  obtain ⟨C, HC⟩ : ∃ C, Hid (crB (Sl.bodB m t) = C) := ⟨_, ⟨rfl⟩⟩
  rw [HC.out] at t5 hcl
  have t6 := Oc.fixed_good C 4 w7 (by omega) (by decide) (by decide) (by omega)
  have HVV1 : Hid (Oc.Bs w7 (.slice a1 8 c1) (Oc.fixB m 8)) := ⟨HV1.out.below HB37.out⟩
  have HR7 : Hid (w7.heap[b]? = some (.cells (Dk.pa Dk.zp) 59 (0, 0))) := ⟨(HB37.out.block b (Array.getElem?_eq_some_iff.1 HR3.out).1).trans HR3.out⟩
  clear HV2 HO2 HR1 HR2 hby t3 HPt HPP HBs6 HS6 HS4
  go_simp
  go_upto_region 6 with (first
    | (go_at_call 41; refine t5.mono ?_; rintro e wx ⟨rfl, ex⟩; subst ex)
    | (go_at_call 39; refine t6.mono ?_; rintro e w8 ⟨v8, rfl, hO8, hB8⟩; have HB8 : Hid (Below w7.heap.size w7 w8) := ⟨hB8⟩; have HBs8 : Hid (Oc.Bs w8 v8 (Oc.fixB C 4)) := ⟨hO8.bs⟩; clear hO8 hB8))
  obtain ⟨a8, c8, e8, _⟩ := HBs8.out
  rw [Oc.fixB_length] at e8
  subst e8
  have HS8 : Hid (w8.heap[s]? = some (.cells (Dk.pa l1) 59 (0, 0))) := ⟨(HB8.out.block s (Array.getElem?_eq_some_iff.1 HS7.out).1).trans HS7.out⟩
  have hp1 := run_put w8 3 s 116 4 4 59 l1 a8 4 c8 (Oc.fixB C 4) HS8.out HBs8.out (by decide) (by rw [Hll.out]; decide)
  obtain ⟨l2, Hl2⟩ : ∃ l, Hid (putAt l1 116 ((Oc.fixB C 4).take 4) = l) := ⟨_, ⟨rfl⟩⟩
  rw [Hl2.out] at hp1
  obtain ⟨w9, Hw9⟩ : ∃ x, Hid (w8.setRow s (Dk.pa l2) = x) := ⟨_, ⟨rfl⟩⟩
  rw [Hw9.out] at hp1
  have HS9 : Hid (w9.heap[s]? = some (.cells (Dk.pa l2) 59 (0, 0))) := ⟨by rw [← Hw9.out]; exact setRow_heap _ _ _ _ 59 (0, 0) HS8.out⟩
  have HB79 : Hid (Below w3.heap.size w3 w9) := ⟨by rw [← Hw9.out]; exact Dk.below_setRow' (HB37.out.trans (HB8.out.mono HB37.out.size)) Hsw.out.1 _⟩
  have Hl2l : Hid (l2.length = 128) := ⟨by rw [← Hl2.out, putAt_len (by rw [Hll.out]; simp [Oc.fixB_length]), Hll.out]⟩
  have HVV9 : Hid (Oc.Bs w9 (.slice a1 8 c1) (Oc.fixB m 8)) := ⟨HV1.out.below HB79.out⟩
  have hp2 := run_put w9 3 s 120 8 8 59 l2 a1 8 c1 (Oc.fixB m 8) HS9.out HVV9.out (by decide) (by rw [Hl2l.out]; decide)
  obtain ⟨l3, Hl3⟩ : ∃ l, Hid (putAt l2 120 ((Oc.fixB m 8).take 8) = l) := ⟨_, ⟨rfl⟩⟩
  rw [Hl3.out] at hp2
  obtain ⟨wA, HwA⟩ : ∃ x, Hid (w9.setRow s (Dk.pa l3) = x) := ⟨_, ⟨rfl⟩⟩
  rw [HwA.out] at hp2
  have HSA : Hid (wA.heap[s]? = some (.cells (Dk.pa l3) 59 (0, 0))) := ⟨by rw [← HwA.out]; exact setRow_heap _ _ _ _ 59 (0, 0) HS9.out⟩
  have HBA : Hid (Below w3.heap.size w3 wA) := ⟨by rw [← HwA.out]; exact Dk.below_setRow' HB79.out Hsw.out.1 _⟩
  have HRA : Hid (wA.heap[b]? = some (.cells (Dk.pa Dk.zp) 59 (0, 0))) := ⟨(HBA.out.block b (Array.getElem?_eq_some_iff.1 HR3.out).1).trans HR3.out⟩
  have Hl3e : Hid (l3 = Sl.sealB crB m t) := ⟨by
    rw [← Hl3.out, ← Hl2.out, Hl1b.out]
    unfold Sl.sealB
    rw [HC.out, List.take_of_length_le (by rw [Oc.fixB_length]; exact Nat.le_refl _), List.take_of_length_le (by rw [Oc.fixB_length]; exact Nat.le_refl _)]
    exact put_seal Hb116.out (Oc.fixB_length _ _) (Oc.fixB_length _ _)⟩
  have Hl3l : Hid (l3.length = 128) := ⟨by rw [Hl3e.out]; exact Sl.sealB_len (by rw [Hn.out]; omega)⟩
  have hi59 : (Tryd.prog.info? 59).map (·.size) = some (Dk.pa l3).size := by rw [Dk.pa_size, Hl3l.out]; exact info59
  have HBB : Hid (Below w.heap.size w (wA.setRow b (Dk.pa l3))) := ⟨Dk.below_setRow' (HB3.out.trans (HBA.out.mono HB3.out.size)) (by rw [Hb.out]; exact Nat.le_refl _) _⟩
  have HRB : Hid ((wA.setRow b (Dk.pa l3)).heap[b]? = some (.cells (Dk.pa l3) 59 (0, 0))) := ⟨setRow_heap _ _ _ _ 59 (0, 0) HRA.out⟩
  clear HV1 HS7 HS8 HS9 HVV9 HVV1 HR7 t5 t6
  go_upto_region 8 with fail
  go_wp2_with (first
    | (refine wpList_load_row rfl 59 (.tmp 9) rfl s rfl 59 (Dk.pa l3) (0, 0) _ HSA.out Tryd.underlying59 rfl hi59 ?_)
    | (refine wpList_store_row rfl 59 (.tmp 4) (.tmp 47) rfl b (Dk.pa l3) rfl rfl 59 (Dk.pa Dk.zp) HRA.out hi59 (by rw [Dk.pa_size, Dk.pa_size, Hl3l.out]; simp [Dk.zp]) (Dk.pa_one _) ?_; refine wpList_nil ?_; rename_i hcont; refine hcont _ _ (wp_ret ?_); refine bodyPost_ret (v := .agg (Dk.pa l3)) (results_cell_row (p := 4) Tryd.results25 _ _ b 59 _ (0, 0) _ (by kernel_rfl) HRB.out Tryd.underlying59 rfl hi59) rfl ?_))
  exact ⟨by rw [Hl3e.out, HSB.out], HBB.out⟩
end
end Go.Proofs.YtgjjjkokmgdmjaaDoor
