/- The taker's sum. -/
import Derived.Test.YthohpbppfihoiaaX1
import Derived.Test.YthohpbppfihoiaaSums
namespace Go.Proofs.Ythohpbppfihoiaa
open Go.RowKit Go.Lib

theorem op_copyY {w w' : World} {o : Oper} {a : Act} {K : Act → World → Prop} {Q : Exit → Act → World → Prop} {d u v : Value} (s x : Operand)
    (ho : o.op = .call { callee := .builtin .copy, args := #[s, x], argTypes := #[25, 25] }) (hs : a.eval s = d) (hx : a.eval x = u)
    (hr : (Builtin.copy_ #[25, 25] o.type #[d, u]).run Try.prog w = .ok v w') (h : K (a.put o.dst v) w') : Oper.wp Try.prog o a w K Q := by
  unfold Oper.wp execOp
  simp only [ho, resolve, invoke, builtin, Sem.run_bind, Sem.run_pure, Result.andThen_ok, List.map_toArray, List.map_cons, List.map_nil, hs, hx, hr]
  exact h
theorem info5' : (Try.prog.info? 5).map (·.size) = some 1 := by kernel_rfl
/-- What the taker's sum is, and what it leaves. -/
def sS (bs : List Int) (st : St) : List Int × St := if (bs.length : Int) - st.1 < 32 then (List.replicate 32 0, flS st 3) else ((bs.drop st.1.toNat).take 32, (st.1 + 32, st.2))
theorem sS_len (bs : List Int) (st : St) (h : InS bs st) : (sS bs st).1.length = 32 := by
  unfold sS
  obtain ⟨h1, h2⟩ := h
  split
  · simp
  · simp only [List.length_take, List.length_drop]; omega
theorem sS_in {bs : List Int} {st : St} (h : InS bs st) : InS bs (sS bs st).2 := by
  unfold sS
  split
  · exact flS_in h 3
  · exact ⟨by have := h.1; simp only; omega, by simp only; omega⟩
section
variable {w : World}
set_option maxHeartbeats 4000000 in
set_option maxRecDepth 100000 in
theorem sum51 {B q : Nat} {v : Value} {bs : List Int} {st : St} (hT : Tk w q v st) (hO : Old B w v bs) (_hBw : B ≤ w.heap.size) (hin : InS bs st) (hl : bs.length ≤ 1000000000000000) : Calls Try.prog 51 #[.pointer (some ⟨q, 0, none⟩)] w fun e w' => e = .returned (.agg (yv (sS bs st).1).toArray) ∧ Tk w' q v (sS bs st).2 ∧ Chg [q] w w' := by
  obtain ⟨i, f⟩ := st
  obtain ⟨hi0, hi1⟩ := hin
  simp only at hi0 hi1
  obtain ⟨ii, rfl⟩ := Int.eq_ofNat_of_zero_le hi0
  have hi : ii ≤ bs.length := by omega
  have HV := Hid.mk hO.at
  obtain ⟨av, cv, rfl, hlc, hcm, _⟩ := hO.at
  obtain ⟨nb, Hnb⟩ : ∃ n, Hid (bs.length = n) := ⟨_, ⟨rfl⟩⟩
  have HSd : Hid (sS bs ((ii : Int), f) = if (nb : Int) - (ii : Int) < 32 then (List.replicate 32 0, flS ((ii : Int), f) 3) else ((bs.drop ii).take 32, ((ii : Int) + 32, f))) := ⟨by unfold sS; rw [Hnb.out]; rfl⟩
  rw [Hnb.out] at hT HV hi hl hlc
  rw [Hnb.out]
  have HT := Hid.mk hT
  obtain ⟨ZZ, HZd⟩ : ∃ Z, Hid ((yv (List.replicate 32 0)).toArray = Z) := ⟨_, ⟨rfl⟩⟩
  have HZZ : Hid ((Try.prog.info? 47).bind (·.zero) = some (.agg ZZ)) := ⟨by rw [← HZd.out]; exact zero47⟩
  have HZs : Hid (ZZ.size = 32) := ⟨by rw [← HZd.out]; simp [yv]⟩
  obtain ⟨z0, Hz0⟩ : ∃ z, Hid (w.heap.size = z) := ⟨_, ⟨rfl⟩⟩
  obtain ⟨wa, Hwa⟩ : ∃ x, Hid (w.alloc (.cells ZZ 47) = x) := ⟨_, ⟨rfl⟩⟩
  obtain ⟨z1, Hz1⟩ : ∃ z, Hid (wa.heap.size = z) := ⟨_, ⟨rfl⟩⟩
  have Hz01 : Hid (z1 = z0 + 1) := ⟨by rw [← Hz1.out, ← Hwa.out, ← Hz0.out]; simp⟩
  obtain ⟨w2, Hw2⟩ : ∃ x, Hid (wa.alloc (.cells ZZ 47) = x) := ⟨_, ⟨rfl⟩⟩
  have HBa : Hid (Below wa.heap.size wa w2) := ⟨by rw [← Hw2.out]; exact (Below.refl _ wa).alloc (Nat.le_refl _) _⟩
  have HB0 : Hid (Below w.heap.size w wa) := ⟨by rw [← Hwa.out]; exact (Below.refl _ w).alloc (Nat.le_refl _) _⟩
  have HB2 : Hid (Below w.heap.size w w2) := ⟨HB0.out.trans (HBa.out.mono HB0.out.size)⟩
  have Hr0 : Hid (w2.heap[z0]? = some (.cells ZZ 47 (0, 0))) := ⟨by rw [HBa.out.block z0 (by rw [Hz1.out, Hz01.out]; omega), ← Hwa.out, ← Hz0.out]; exact heap_alloc_new w _⟩
  have Hr1 : Hid (w2.heap[z1]? = some (.cells ZZ 47 (0, 0))) := ⟨by rw [← Hw2.out, ← Hz1.out]; exact heap_alloc_new wa _⟩
  have HT2 : Hid (Tk w2 q (.slice av nb cv) ((ii : Int), f)) := ⟨HT.out.far (Chg.ofBelow (X := []) HB2.out) (by simp)⟩
  have HV2 : Hid (Oct.Bs w2 (.slice av nb cv) bs) := ⟨HV.out.below HB2.out⟩
  have Hq0 : Hid (q < z0) := ⟨by rw [← Hz0.out]; exact HT.out.lt⟩
  obtain ⟨m, Hm⟩ : ∃ m, Hid (nb - ii = m) := ⟨_, ⟨rfl⟩⟩
  obtain ⟨D, HD⟩ : ∃ D, Hid (decide ((m : Int) < 32) = D) := ⟨_, ⟨rfl⟩⟩
  have hDe := HD.out
  have hS0 : (fun w' => w'.cell? ⟨q, 0, none⟩ = some (.slice av nb cv) ∧ w'.cell? ⟨q, 1, none⟩ = some (.int .i64 (ii : Int))) w2.drew := ⟨HT2.out.c0, HT2.out.c1⟩
  have hsub : (nb : Int) - (ii : Int) = (m : Int) := by rw [← Hm.out]; omega
  have hmw : IntKind.i64.wrap (m : Int) = (m : Int) := IntWalk.i64_in _ ⟨by omega, by rw [← Hm.out]; omega⟩
  obtain ⟨w3, Hw3⟩ : ∃ w3, Hid (w2.drew = w3) := ⟨_, ⟨rfl⟩⟩
  have Hh3 : Hid (w3.heap = w2.heap) := ⟨by rw [← Hw3.out]; rfl⟩
  have HB3 : Hid (Below w.heap.size w w3) := ⟨by rw [← Hw3.out]; exact ⟨HB2.out.os, HB2.out.tape, HB2.out.output, HB2.out.size, HB2.out.block⟩⟩
  have HT3 : Hid (Tk w3 q (.slice av nb cv) ((ii : Int), f)) := ⟨HT.out.far (Chg.ofBelow (X := []) HB3.out) (by simp)⟩
  clear hT hO hi1 hi0
  rw [HSd.out]
  by_cases hcc : nb < ii + 32
  · have hlt0 : (nb : Int) - (ii : Int) < 32 := by omega
    simp only [if_pos hlt0]
    clear hlt0
    have hDt : D = true := by rw [← HD.out, decide_eq_true (by have := Hm.out; omega)]
    subst hDt
    have hlt : (m : Int) < 32 := of_decide_eq_true HD.out
    have t3 := fail32 HT3.out 3
    obtain ⟨sf, Hsf⟩ : ∃ x, Hid (flS ((ii : Int), f) 3 = x) := ⟨_, ⟨rfl⟩⟩
    rw [Hsf.out] at t3
    rw [Hsf.out, HZd.out]
    have HSi : Hid ((Try.prog.info? 47).map (·.size) = some ZZ.size) := ⟨by rw [HZs.out]; exact info47⟩
    have HSo : Hid (ZZ.all (·.oneCell') = true) := ⟨by rw [← HZd.out, List.all_toArray, List.all_eq_true]; exact yv_one _⟩
    go_enter Try.func51, Try.ntmps51
    go_upto_region 2 with (first | (refine wp_newZ HZZ.out rfl rfl ?_; rw [Hz0.out, Hwa.out]) | (refine wp_newZ HZZ.out rfl rfl ?_; rw [Hz1.out, Hw2.out]))
    refine wp_region_held_drew (S := (fun w' => w'.cell? ⟨q, 0, none⟩ = some (.slice av nb cv) ∧ w'.cell? ⟨q, 1, none⟩ = some (.int .i64 (ii : Int)))) (by kernel_rfl) hS0 (fun hS => ?_)
    refine wpAnyH_take (i := 0) (v := .pointer (some ⟨q, 0, none⟩)) rfl (by kernel_rfl) (by kernel_rfl) (by kernel_rfl) (fun _ _ _ h => h) (Or.inl ⟨by kernel_rfl, fun _ _ => by kernel_rfl⟩) hS ?_
    refine wpAnyH_take (i := 1) (v := .pointer (some ⟨q, 0, none⟩)) rfl (by kernel_rfl) (by kernel_rfl) (by kernel_rfl) (fun _ _ _ h => h) (Or.inl ⟨by kernel_rfl, fun wx hx => by go_simp⟩) hS ?_
    refine wpAnyH_take (i := 2) (v := .pointer (some ⟨q, 0, none⟩)) rfl (by kernel_rfl) (by kernel_rfl) (by kernel_rfl) (fun _ _ _ h => h) (Or.inl ⟨by kernel_rfl, fun wx hx => by go_simp⟩) hS ?_
    refine wpAnyH_take (i := 3) (v := .slice av nb cv) rfl (by kernel_rfl) (by kernel_rfl) (by kernel_rfl) (fun _ _ _ h => h) (Or.inl ⟨by kernel_rfl, fun wx hx => by obtain ⟨hx1, hx2⟩ := hx; go_simp⟩) hS ?_
    refine wpAnyH_take (i := 4) (v := .int .i64 (nb : Int)) rfl (by kernel_rfl) (by kernel_rfl) (by kernel_rfl) (fun _ _ _ h => h) (Or.inl ⟨by kernel_rfl, fun wx hx => by go_simp⟩) hS ?_
    refine wpAnyH_take (i := 5) (v := .pointer (some ⟨q, 0, none⟩)) rfl (by kernel_rfl) (by kernel_rfl) (by kernel_rfl) (fun _ _ _ h => h) (Or.inl ⟨by kernel_rfl, fun _ _ => by kernel_rfl⟩) hS ?_
    refine wpAnyH_take (i := 6) (v := .pointer (some ⟨q, 0, none⟩)) rfl (by kernel_rfl) (by kernel_rfl) (by kernel_rfl) (fun _ _ _ h => h) (Or.inl ⟨by kernel_rfl, fun wx hx => by go_simp⟩) hS ?_
    refine wpAnyH_take (i := 7) (v := .pointer (some ⟨q, 1, none⟩)) rfl (by kernel_rfl) (by kernel_rfl) (by kernel_rfl) (fun _ _ _ h => h) (Or.inl ⟨by kernel_rfl, fun wx hx => by go_simp⟩) hS ?_
    refine wpAnyH_take (i := 8) (v := .int .i64 (ii : Int)) rfl (by kernel_rfl) (by kernel_rfl) (by kernel_rfl) (fun _ _ _ h => h) (Or.inl ⟨by kernel_rfl, fun wx hx => by obtain ⟨hx1, hx2⟩ := hx; go_simp⟩) hS ?_
    refine wpAnyH_take (i := 9) (v := .int .i64 (m : Int)) rfl (by kernel_rfl) (by kernel_rfl) (by kernel_rfl) (fun _ _ _ h => h) (Or.inl ⟨by kernel_rfl, fun wx hx => by go_simp⟩) hS ?_
    refine wpAnyH_take (i := 10) (v := .bool true) rfl (by kernel_rfl) (by kernel_rfl) (by kernel_rfl) (fun _ _ _ h => h) (Or.inl ⟨by kernel_rfl, fun wx hx => by go_simp⟩) hS ?_
    refine wpAnyH_done (by kernel_rfl) ?_ _
    clear hS hS0
    go_simp
    rw [Hw3.out]
    go_wp2_with fail
    refine t3.mono ?_
    rintro e w4 ⟨rfl, hT4, hC4⟩
    have HT4 := Hid.mk hT4
    have HC4 := Hid.mk hC4
    have Hr04 : Hid (w4.heap[z0]? = some (.cells ZZ 47 (0, 0))) := ⟨by rw [HC4.out.block z0 (by rw [Hh3.out]; exact (Array.getElem?_eq_some_iff.1 Hr0.out).1) (by simp; have := Hq0.out; omega), Hh3.out]; exact Hr0.out⟩
    have Hr14 : Hid (w4.heap[z1]? = some (.cells ZZ 47 (0, 0))) := ⟨by rw [HC4.out.block z1 (by rw [Hh3.out]; exact (Array.getElem?_eq_some_iff.1 Hr1.out).1) (by simp; have := Hq0.out; have := Hz01.out; omega), Hh3.out]; exact Hr1.out⟩
    obtain ⟨w7, Hw7⟩ : ∃ x, Hid (w4.setRow z0 ZZ = x) := ⟨_, ⟨rfl⟩⟩
    have HG7 : Hid (Chg [z0] w4 w7) := ⟨by rw [← Hw7.out]; exact ⟨rfl, rfl, rfl, by simp, fun k hk hx => setRow_other _ _ k _ (by simpa using hx)⟩⟩
    have HR7 : Hid (w7.heap[z0]? = some (.cells ZZ 47 (0, 0))) := ⟨by rw [← Hw7.out]; exact setRow_heap _ _ _ _ 47 (0, 0) Hr04.out⟩
    have HT7 : Hid (Tk w7 q (.slice av nb cv) sf) := ⟨HT4.out.far HG7.out (by simp; have := Hq0.out; omega)⟩
    have HC7 : Hid (Chg [q] w w7) := ⟨((Chg.ofBelow (X := [q]) HB3.out).trans HC4.out).thenNew HG7.out (fun x hx => by simp at hx; subst hx; right; rw [Hz0.out]; exact Nat.le_refl _)⟩
    clear t3 hT4 hC4 hlt hDe hsub hmw
    go_wp2_with (first
      | (refine wp_load rfl 47 (.tmp 3) rfl z1 rfl ZZ 47 (0, 0) _ Hr14.out Try.underlying47 rfl HSi.out ?_)
      | (refine wpList_store_row rfl 47 (.tmp 2) (.tmp 17) rfl z0 ZZ rfl rfl 47 ZZ Hr04.out HSi.out rfl HSo.out ?_; rw [Hw7.out]))
    refine bodyPost_ret (results_cell_row rfl _ w7 z0 47 ZZ (0, 0) _ (by kernel_rfl) HR7.out Try.underlying47 rfl HSi.out) rfl ?_
    exact ⟨rfl, HT7.out, HC7.out⟩
  · have hlt0 : ¬ (nb : Int) - (ii : Int) < 32 := by omega
    simp only [if_neg hlt0]
    clear hlt0
    obtain ⟨l, Hl⟩ : ∃ s, Hid ((bs.drop ii).take 32 = s) := ⟨_, ⟨rfl⟩⟩
    rw [Hl.out]
    have HLl : Hid (l.length = 32) := ⟨by rw [← Hl.out, List.length_take, List.length_drop, Hnb.out]; omega⟩
    have HLg : Hid (∀ j, j < 32 → l.getD j 0 = bs.getD (ii + j) 0) := ⟨fun j hj => by rw [← Hl.out]; simp only [List.getD, List.getElem?_take, if_pos hj, List.getElem?_drop]⟩
    obtain ⟨S, HS⟩ : ∃ s, Hid ((yv l).toArray = s) := ⟨_, ⟨rfl⟩⟩
    rw [HS.out]
    have HSs : Hid (S.size = 32) := ⟨by rw [← HS.out, List.size_toArray, yv_len]; exact HLl.out⟩
    have HSi : Hid ((Try.prog.info? 47).map (·.size) = some S.size) := ⟨by rw [HSs.out]; exact info47⟩
    have HSo : Hid (S.all (·.oneCell') = true) := ⟨by rw [← HS.out, List.all_toArray, List.all_eq_true]; exact yv_one _⟩
    have hDt : D = false := by rw [← HD.out, decide_eq_false (by have := Hm.out; omega)]
    subst hDt
    have hlt : ¬ (m : Int) < 32 := of_decide_eq_false HD.out
    have hge : ii + 32 ≤ nb := by omega
    rcases HV2.out.cases with ⟨e, _⟩ | ⟨_, b, off, cap, e, _, _, hbl, hcell⟩
    · exfalso; rw [e] at Hnb; have := Hnb.out; simp at this; omega
    rw [Hnb.out] at e hcell
    simp at e
    obtain ⟨rfl, rfl⟩ := e
    obtain ⟨w4, Hw4⟩ : ∃ w4, Hid (w3.drew = w4) := ⟨_, ⟨rfl⟩⟩
    have Hh4 : Hid (w4.heap = w2.heap) := ⟨by rw [← Hw4.out, ← Hw3.out]; rfl⟩
    have HB4 : Hid (Below w.heap.size w w4) := ⟨by rw [← Hw4.out]; exact ⟨HB3.out.os, HB3.out.tape, HB3.out.output, HB3.out.size, HB3.out.block⟩⟩
    have HT4 : Hid (Tk w4 q (.slice (some ⟨b, off, none⟩) nb cv) ((ii : Int), f)) := ⟨⟨by rw [Hh4.out]; exact HT2.out.row⟩⟩
    have Hrq : Hid (w4.heap[z1]? = some (.cells ZZ 47 (0, 0))) := ⟨by rw [Hh4.out]; exact Hr1.out⟩
    have hcp : ∀ ty, (Builtin.copy_ #[25, 25] ty #[.slice (some ⟨z1, 0, none⟩) 32 32, .slice (some ⟨b, off + ii, none⟩) (nb - ii) (cv - ii)]).run Try.prog w4 = .ok (.int .i64 32) (w4.setRow z1 S) := fun ty => by
      have hlen : (yv l).length = 32 := by rw [yv_len, HLl.out]
      have h := run_copy_row (P := Try.prog) w4 25 25 ty 5 z1 0 32 32 ⟨b, off + ii, none⟩ (nb - ii) (cv - ii) _ 47 (yv l) Try.underlying25 info5' Hrq.out (by rw [hlen]; exact (Nat.min_eq_right (by omega)).symm) (fun j x hx => by
        have hj : j < 32 := by
          rcases Nat.lt_or_ge j 32 with z | z
          · exact z
          · rw [List.getElem?_eq_none (by omega)] at hx; cases hx
        rw [yv_get l (by rw [HLl.out]; exact hj)] at hx
        rw [add_plain, World.cell?_of_block (w := w2) (by rw [Hh4.out]), Nat.add_assoc, hcell (ii + j) (by omega), ← hx, HLg.out j hj]) (by rw [hlen, HZs.out]; decide) (yv_one l)
      rw [h, hlen, ← HS.out]
      congr 2
      apply Array.ext'
      simp only [List.take_zero, List.nil_append]
      rw [List.drop_eq_nil_of_le (by rw [Array.length_toList, HZs.out]; decide), List.append_nil]
    obtain ⟨w5, Hw5⟩ : ∃ w5, Hid (w4.setRow z1 S = w5) := ⟨_, ⟨rfl⟩⟩
    simp only [Hw5.out] at hcp
    have HG5 : Hid (Chg [z1] w4 w5) := ⟨by rw [← Hw5.out]; exact ⟨rfl, rfl, rfl, by simp, fun k hk hx => setRow_other _ _ k _ (by simpa using hx)⟩⟩
    have HR5 : Hid (w5.heap[z1]? = some (.cells S 47 (0, 0))) := ⟨by rw [← Hw5.out]; exact setRow_heap _ _ _ _ 47 (0, 0) Hrq.out⟩
    have HT5 : Hid (Tk w5 q (.slice (some ⟨b, off, none⟩) nb cv) ((ii : Int), f)) := ⟨HT4.out.far HG5.out (by simp; have := Hq0.out; have := Hz01.out; omega)⟩
    have hf5 := HT5.out.fz 1
    obtain ⟨w6, Hw6⟩ : ∃ w6, Hid (w5.setCell ⟨q, 1, none⟩ (.int .i64 ((ii : Int) + 32)) = w6) := ⟨_, ⟨rfl⟩⟩
    have HT6 : Hid (Tk w6 q (.slice (some ⟨b, off, none⟩) nb cv) ((ii : Int) + 32, f)) := ⟨by rw [← Hw6.out]; exact HT5.out.at' _⟩
    have HC6 : Hid (Chg [q] w w6) := ⟨by rw [← Hw6.out]; exact ((Chg.ofBelow (X := [q]) HB4.out).thenNew HG5.out (fun x hx => by simp at hx; subst hx; right; rw [Hz0.out, Hz01.out]; omega)).setCell (.inl (by simp)) _⟩
    have HG6 : Hid (Chg [q] w5 w6) := ⟨by rw [← Hw6.out]; exact (Chg.refl [q] w5).setCell (.inl (by simp)) _⟩
    have HR6 : Hid (w6.heap[z1]? = some (.cells S 47 (0, 0))) := ⟨(HG6.out.block z1 (Array.getElem?_eq_some_iff.1 HR5.out).1 (by simp; have := Hq0.out; have := Hz01.out; omega)).trans HR5.out⟩
    have Hr05 : Hid (w5.heap[z0]? = some (.cells ZZ 47 (0, 0))) := ⟨by rw [HG5.out.block z0 (by rw [Hh4.out]; exact (Array.getElem?_eq_some_iff.1 Hr0.out).1) (by simp; have := Hz01.out; omega), Hh4.out]; exact Hr0.out⟩
    have Hr06 : Hid (w6.heap[z0]? = some (.cells ZZ 47 (0, 0))) := ⟨(HG6.out.block z0 (Array.getElem?_eq_some_iff.1 Hr05.out).1 (by simp; have := Hq0.out; omega)).trans Hr05.out⟩
    obtain ⟨w7, Hw7⟩ : ∃ x, Hid (w6.setRow z0 S = x) := ⟨_, ⟨rfl⟩⟩
    have HG7 : Hid (Chg [z0] w6 w7) := ⟨by rw [← Hw7.out]; exact ⟨rfl, rfl, rfl, by simp, fun k hk hx => setRow_other _ _ k _ (by simpa using hx)⟩⟩
    have HR7 : Hid (w7.heap[z0]? = some (.cells S 47 (0, 0))) := ⟨by rw [← Hw7.out]; exact setRow_heap _ _ _ _ 47 (0, 0) Hr06.out⟩
    have HT7 : Hid (Tk w7 q (.slice (some ⟨b, off, none⟩) nb cv) ((ii : Int) + 32, f)) := ⟨HT6.out.far HG7.out (by simp; have := Hq0.out; omega)⟩
    have HC7 : Hid (Chg [q] w w7) := ⟨HC6.out.thenNew HG7.out (fun x hx => by simp at hx; subst hx; right; rw [Hz0.out]; exact Nat.le_refl _)⟩
    have hS4 : (fun w' => w'.cell? ⟨q, 0, none⟩ = some (.slice (some ⟨b, off, none⟩) nb cv)) w3.drew := by rw [Hw4.out]; exact HT4.out.c0
    have hS4b : (fun w' => w'.cell? ⟨q, 0, none⟩ = some (.slice (some ⟨b, off, none⟩) nb cv)) w4 := HT4.out.c0
    have hS5 : (fun w' => w'.cell? ⟨q, 0, none⟩ = some (.slice (some ⟨b, off, none⟩) nb cv)) w5 := HT5.out.c0
    have hS6 : (fun w' => w'.cell? ⟨q, 0, none⟩ = some (.slice (some ⟨b, off, none⟩) nb cv)) (w5.setCell ⟨q, 1, none⟩ (.int .i64 ((ii : Int) + 32))) := by rw [Hw6.out]; exact HT6.out.c0
    have hc14 := HT4.out.c1
    have hc15 := HT5.out.c1
    replace Hr0 := Hr06
    simp only at hc14 hc15
    go_enter Try.func51, Try.ntmps51
    go_upto_region 2 with (first | (refine wp_newZ HZZ.out rfl rfl ?_; rw [Hz0.out, Hwa.out]) | (refine wp_newZ HZZ.out rfl rfl ?_; rw [Hz1.out, Hw2.out]))
    refine wp_region_held_drew (S := (fun w' => w'.cell? ⟨q, 0, none⟩ = some (.slice (some ⟨b, off, none⟩) nb cv) ∧ w'.cell? ⟨q, 1, none⟩ = some (.int .i64 (ii : Int)))) (by kernel_rfl) hS0 (fun hS => ?_)
    refine wpAnyH_take (i := 0) (v := .pointer (some ⟨q, 0, none⟩)) rfl (by kernel_rfl) (by kernel_rfl) (by kernel_rfl) (fun _ _ _ h => h) (Or.inl ⟨by kernel_rfl, fun _ _ => by kernel_rfl⟩) hS ?_
    refine wpAnyH_take (i := 1) (v := .pointer (some ⟨q, 0, none⟩)) rfl (by kernel_rfl) (by kernel_rfl) (by kernel_rfl) (fun _ _ _ h => h) (Or.inl ⟨by kernel_rfl, fun wx hx => by go_simp⟩) hS ?_
    refine wpAnyH_take (i := 2) (v := .pointer (some ⟨q, 0, none⟩)) rfl (by kernel_rfl) (by kernel_rfl) (by kernel_rfl) (fun _ _ _ h => h) (Or.inl ⟨by kernel_rfl, fun wx hx => by go_simp⟩) hS ?_
    refine wpAnyH_take (i := 3) (v := .slice (some ⟨b, off, none⟩) nb cv) rfl (by kernel_rfl) (by kernel_rfl) (by kernel_rfl) (fun _ _ _ h => h) (Or.inl ⟨by kernel_rfl, fun wx hx => by obtain ⟨hx1, hx2⟩ := hx; go_simp⟩) hS ?_
    refine wpAnyH_take (i := 4) (v := .int .i64 (nb : Int)) rfl (by kernel_rfl) (by kernel_rfl) (by kernel_rfl) (fun _ _ _ h => h) (Or.inl ⟨by kernel_rfl, fun wx hx => by go_simp⟩) hS ?_
    refine wpAnyH_take (i := 5) (v := .pointer (some ⟨q, 0, none⟩)) rfl (by kernel_rfl) (by kernel_rfl) (by kernel_rfl) (fun _ _ _ h => h) (Or.inl ⟨by kernel_rfl, fun _ _ => by kernel_rfl⟩) hS ?_
    refine wpAnyH_take (i := 6) (v := .pointer (some ⟨q, 0, none⟩)) rfl (by kernel_rfl) (by kernel_rfl) (by kernel_rfl) (fun _ _ _ h => h) (Or.inl ⟨by kernel_rfl, fun wx hx => by go_simp⟩) hS ?_
    refine wpAnyH_take (i := 7) (v := .pointer (some ⟨q, 1, none⟩)) rfl (by kernel_rfl) (by kernel_rfl) (by kernel_rfl) (fun _ _ _ h => h) (Or.inl ⟨by kernel_rfl, fun wx hx => by go_simp⟩) hS ?_
    refine wpAnyH_take (i := 8) (v := .int .i64 (ii : Int)) rfl (by kernel_rfl) (by kernel_rfl) (by kernel_rfl) (fun _ _ _ h => h) (Or.inl ⟨by kernel_rfl, fun wx hx => by obtain ⟨hx1, hx2⟩ := hx; go_simp⟩) hS ?_
    refine wpAnyH_take (i := 9) (v := .int .i64 (m : Int)) rfl (by kernel_rfl) (by kernel_rfl) (by kernel_rfl) (fun _ _ _ h => h) (Or.inl ⟨by kernel_rfl, fun wx hx => by go_simp⟩) hS ?_
    refine wpAnyH_take (i := 10) (v := .bool false) rfl (by kernel_rfl) (by kernel_rfl) (by kernel_rfl) (fun _ _ _ h => h) (Or.inl ⟨by kernel_rfl, fun wx hx => by go_simp⟩) hS ?_
    refine wpAnyH_done (by kernel_rfl) ?_ _
    clear hS hS0
    go_simp
    rw [Hw3.out]
    clear hcell hlt HD Hr1 hsub hmw hDe
    have hiz : ¬ (nb : Int) < (ii : Int) := by omega
    have hin : ii ≤ nb := by omega
    have hci : ¬ cv = ii := by omega
    have hw32 : IntKind.i64.wrap ((ii : Int) + 32) = (ii : Int) + 32 := IntWalk.i64_in _ ⟨by omega, by omega⟩
    go_upto_region 5 with fail
    refine wp_region_held_drew (S := (fun w' => w'.cell? ⟨q, 0, none⟩ = some (.slice (some ⟨b, off, none⟩) nb cv))) (by kernel_rfl) hS4 (fun hS => ?_)
    refine wpAnyH_take (i := 0) (v := .pointer (some ⟨q, 0, none⟩)) rfl (by kernel_rfl) (by kernel_rfl) (by kernel_rfl) (fun _ _ _ h => h) (Or.inl ⟨by kernel_rfl, fun _ _ => by kernel_rfl⟩) hS ?_
    refine wpAnyH_take (i := 1) (v := .pointer (some ⟨q, 0, none⟩)) rfl (by kernel_rfl) (by kernel_rfl) (by kernel_rfl) (fun _ _ _ h => h) (Or.inl ⟨by kernel_rfl, fun wx hx => by go_simp⟩) hS ?_
    refine wpAnyH_take (i := 2) (v := .pointer (some ⟨q, 1, none⟩)) rfl (by kernel_rfl) (by kernel_rfl) (by kernel_rfl) (fun _ _ _ h => h) (Or.inl ⟨by kernel_rfl, fun wx hx => by go_simp⟩) hS ?_
    refine wpAnyH_take (i := 4) (v := .slice (some ⟨z1, 0, none⟩) 32 32) rfl (by kernel_rfl) (by kernel_rfl) (by kernel_rfl) (fun _ _ _ h => h) (Or.inl ⟨by kernel_rfl, fun wx hx => by go_simp⟩) hS ?_
    refine wpAnyH_take (i := 5) (v := .pointer (some ⟨q, 0, none⟩)) rfl (by kernel_rfl) (by kernel_rfl) (by kernel_rfl) (fun _ _ _ h => h) (Or.inl ⟨by kernel_rfl, fun _ _ => by kernel_rfl⟩) hS ?_
    refine wpAnyH_take (i := 6) (v := .pointer (some ⟨q, 0, none⟩)) rfl (by kernel_rfl) (by kernel_rfl) (by kernel_rfl) (fun _ _ _ h => h) (Or.inl ⟨by kernel_rfl, fun wx hx => by go_simp⟩) hS ?_
    refine wpAnyH_take (i := 7) (v := .pointer (some ⟨q, 0, none⟩)) rfl (by kernel_rfl) (by kernel_rfl) (by kernel_rfl) (fun _ _ _ h => h) (Or.inl ⟨by kernel_rfl, fun wx hx => by go_simp⟩) hS ?_
    refine wpAnyH_take (i := 8) (v := .slice (some ⟨b, off, none⟩) nb cv) rfl (by kernel_rfl) (by kernel_rfl) (by kernel_rfl) (fun _ _ _ h => h) (Or.inl ⟨by kernel_rfl, fun wx hx => by go_simp⟩) hS ?_
    refine wpAnyH_take (i := 9) (v := .pointer (some ⟨q, 0, none⟩)) rfl (by kernel_rfl) (by kernel_rfl) (by kernel_rfl) (fun _ _ _ h => h) (Or.inl ⟨by kernel_rfl, fun _ _ => by kernel_rfl⟩) hS ?_
    refine wpAnyH_take (i := 10) (v := .pointer (some ⟨q, 0, none⟩)) rfl (by kernel_rfl) (by kernel_rfl) (by kernel_rfl) (fun _ _ _ h => h) (Or.inl ⟨by kernel_rfl, fun wx hx => by go_simp⟩) hS ?_
    refine wpAnyH_take (i := 11) (v := .pointer (some ⟨q, 1, none⟩)) rfl (by kernel_rfl) (by kernel_rfl) (by kernel_rfl) (fun _ _ _ h => h) (Or.inl ⟨by kernel_rfl, fun wx hx => by go_simp⟩) hS ?_
    clear hS
    rw [Hw4.out]
    refine wpAnyH_ready (rs := [3, 12]) (by kernel_rfl) (by simp) (AllReadyH.cons rfl (fun Kc hK => ?_) (AllReadyH.cons rfl (fun Kc hK => ?_) AllReadyH.nil))
    · go_simp
      refine hK.out _ _ hS4b (fun hS => ?_)
      clear hK
      refine wpAnyH_ready (rs := [12]) (by kernel_rfl) (by simp) (AllReadyH.cons rfl (fun Kc hK => ?_) AllReadyH.nil)
      go_simp
      refine hK.out _ _ hS4b (fun hS => ?_)
      clear hK
      refine wpAnyH_take (i := 13) (v := .slice (some ⟨b, off + ii, none⟩) (nb - ii) (cv - ii)) rfl (by kernel_rfl) (by kernel_rfl) (by kernel_rfl) (fun _ _ _ h => h) (Or.inl ⟨by kernel_rfl, fun wx hx => by go_simp⟩) hS ?_
      refine wpAnyH_ready (rs := [14]) (by kernel_rfl) (by simp) (AllReadyH.cons rfl (fun Kc hK => ?_) AllReadyH.nil)
      refine rdy_of (by kernel_rfl) ?_
      refine op_copyY (.tmp 22) (.tmp 31) rfl (by kernel_rfl) (by kernel_rfl) (hcp _) ?_
      refine hK.out _ _ hS5 (fun hS => ?_)
      clear hK
      refine wpAnyH_take (i := 15) (v := .int .i64 ((ii : Int) + 32)) rfl (by kernel_rfl) (by kernel_rfl) (by kernel_rfl) (fun _ _ _ h => h) (Or.inl ⟨by kernel_rfl, fun wx hx => by go_simp⟩) hS ?_
      refine wpAnyH_take (i := 16) (v := .pointer (some ⟨q, 0, none⟩)) rfl (by kernel_rfl) (by kernel_rfl) (by kernel_rfl) (fun _ _ _ h => h) (Or.inl ⟨by kernel_rfl, fun wx hx => by go_simp⟩) hS ?_
      refine wpAnyH_take (i := 17) (v := .pointer (some ⟨q, 1, none⟩)) rfl (by kernel_rfl) (by kernel_rfl) (by kernel_rfl) (fun _ _ _ h => h) (Or.inl ⟨by kernel_rfl, fun wx hx => by go_simp⟩) hS ?_
      refine wpAnyH_ready (rs := [18]) (by kernel_rfl) (by simp) (AllReadyH.cons rfl (fun Kc hK => ?_) AllReadyH.nil)
      go_simp
      refine hK.out _ _ hS6 (fun hS => ?_)
      clear hK
      refine wpAnyH_done (by kernel_rfl) ?_ _
      clear hS hS4 hS5 hS6
      go_simp
      rw [Hw6.out]
      go_wp2_with (first
        | (refine wp_load rfl 47 (.tmp 3) rfl z1 rfl S 47 (0, 0) _ HR6.out Try.underlying47 rfl HSi.out ?_)
        | (refine wpList_store_row rfl 47 (.tmp 2) (.tmp 36) rfl z0 S rfl rfl 47 ZZ Hr0.out HSi.out (by rw [HSs.out, HZs.out]) HSo.out ?_; rw [Hw7.out]))
      refine bodyPost_ret (results_cell_row rfl _ w7 z0 47 S (0, 0) _ (by kernel_rfl) HR7.out Try.underlying47 rfl HSi.out) rfl ?_
      exact ⟨rfl, HT7.out, HC7.out⟩
    · go_simp
      refine hK.out _ _ hS4b (fun hS => ?_)
      clear hK
      refine wpAnyH_take (i := 13) (v := .slice (some ⟨b, off + ii, none⟩) (nb - ii) (cv - ii)) rfl (by kernel_rfl) (by kernel_rfl) (by kernel_rfl) (fun _ _ _ h => h) (Or.inl ⟨by kernel_rfl, fun wx hx => by go_simp⟩) hS ?_
      refine wpAnyH_ready (rs := [3, 14]) (by kernel_rfl) (by simp) (AllReadyH.cons rfl (fun Kc hK => ?_) (AllReadyH.cons rfl (fun Kc hK => ?_) AllReadyH.nil))
      · go_simp
        refine hK.out _ _ hS4b (fun hS => ?_)
        clear hK
        refine wpAnyH_ready (rs := [14]) (by kernel_rfl) (by simp) (AllReadyH.cons rfl (fun Kc hK => ?_) AllReadyH.nil)
        refine rdy_of (by kernel_rfl) ?_
        refine op_copyY (.tmp 22) (.tmp 31) rfl (by kernel_rfl) (by kernel_rfl) (hcp _) ?_
        refine hK.out _ _ hS5 (fun hS => ?_)
        clear hK
        refine wpAnyH_take (i := 15) (v := .int .i64 ((ii : Int) + 32)) rfl (by kernel_rfl) (by kernel_rfl) (by kernel_rfl) (fun _ _ _ h => h) (Or.inl ⟨by kernel_rfl, fun wx hx => by go_simp⟩) hS ?_
        refine wpAnyH_take (i := 16) (v := .pointer (some ⟨q, 0, none⟩)) rfl (by kernel_rfl) (by kernel_rfl) (by kernel_rfl) (fun _ _ _ h => h) (Or.inl ⟨by kernel_rfl, fun wx hx => by go_simp⟩) hS ?_
        refine wpAnyH_take (i := 17) (v := .pointer (some ⟨q, 1, none⟩)) rfl (by kernel_rfl) (by kernel_rfl) (by kernel_rfl) (fun _ _ _ h => h) (Or.inl ⟨by kernel_rfl, fun wx hx => by go_simp⟩) hS ?_
        refine wpAnyH_ready (rs := [18]) (by kernel_rfl) (by simp) (AllReadyH.cons rfl (fun Kc hK => ?_) AllReadyH.nil)
        go_simp
        refine hK.out _ _ hS6 (fun hS => ?_)
        clear hK
        refine wpAnyH_done (by kernel_rfl) ?_ _
        clear hS hS4 hS5 hS6
        go_simp
        rw [Hw6.out]
        go_wp2_with (first
          | (refine wp_load rfl 47 (.tmp 3) rfl z1 rfl S 47 (0, 0) _ HR6.out Try.underlying47 rfl HSi.out ?_)
          | (refine wpList_store_row rfl 47 (.tmp 2) (.tmp 36) rfl z0 S rfl rfl 47 ZZ Hr0.out HSi.out (by rw [HSs.out, HZs.out]) HSo.out ?_; rw [Hw7.out]))
        refine bodyPost_ret (results_cell_row rfl _ w7 z0 47 S (0, 0) _ (by kernel_rfl) HR7.out Try.underlying47 rfl HSi.out) rfl ?_
        exact ⟨rfl, HT7.out, HC7.out⟩
      · refine rdy_of (by kernel_rfl) ?_
        refine op_copyY (.tmp 22) (.tmp 31) rfl (by kernel_rfl) (by kernel_rfl) (hcp _) ?_
        refine hK.out _ _ hS5 (fun hS => ?_)
        clear hK
        refine wpAnyH_ready (rs := [3]) (by kernel_rfl) (by simp) (AllReadyH.cons rfl (fun Kc hK => ?_) AllReadyH.nil)
        go_simp
        refine hK.out _ _ hS5 (fun hS => ?_)
        clear hK
        refine wpAnyH_take (i := 15) (v := .int .i64 ((ii : Int) + 32)) rfl (by kernel_rfl) (by kernel_rfl) (by kernel_rfl) (fun _ _ _ h => h) (Or.inl ⟨by kernel_rfl, fun wx hx => by go_simp⟩) hS ?_
        refine wpAnyH_take (i := 16) (v := .pointer (some ⟨q, 0, none⟩)) rfl (by kernel_rfl) (by kernel_rfl) (by kernel_rfl) (fun _ _ _ h => h) (Or.inl ⟨by kernel_rfl, fun wx hx => by go_simp⟩) hS ?_
        refine wpAnyH_take (i := 17) (v := .pointer (some ⟨q, 1, none⟩)) rfl (by kernel_rfl) (by kernel_rfl) (by kernel_rfl) (fun _ _ _ h => h) (Or.inl ⟨by kernel_rfl, fun wx hx => by go_simp⟩) hS ?_
        refine wpAnyH_ready (rs := [18]) (by kernel_rfl) (by simp) (AllReadyH.cons rfl (fun Kc hK => ?_) AllReadyH.nil)
        go_simp
        refine hK.out _ _ hS6 (fun hS => ?_)
        clear hK
        refine wpAnyH_done (by kernel_rfl) ?_ _
        clear hS hS4 hS5 hS6
        go_simp
        rw [Hw6.out]
        go_wp2_with (first
          | (refine wp_load rfl 47 (.tmp 3) rfl z1 rfl S 47 (0, 0) _ HR6.out Try.underlying47 rfl HSi.out ?_)
          | (refine wpList_store_row rfl 47 (.tmp 2) (.tmp 36) rfl z0 S rfl rfl 47 ZZ Hr0.out HSi.out (by rw [HSs.out, HZs.out]) HSo.out ?_; rw [Hw7.out]))
        refine bodyPost_ret (results_cell_row rfl _ w7 z0 47 S (0, 0) _ (by kernel_rfl) HR7.out Try.underlying47 rfl HSi.out) rfl ?_
        exact ⟨rfl, HT7.out, HC7.out⟩
end
end Go.Proofs.Ythohpbppfihoiaa
