/- The program's taker: sum. -/
import Derived.Test.YtiloclekhddkfaaS24
namespace Go.Proofs.Ytiloclekhddkfaa
open Go.RowKit Go.Lib

theorem op_copyY {w w' : World} {o : Oper} {a : Act} {K : Act → World → Prop} {Q : Exit → Act → World → Prop} {d u v : Value} (s x : Operand)
    (ho : o.op = .call { callee := .builtin .copy, args := #[s, x], argTypes := #[42, 42] }) (hs : a.eval s = d) (hx : a.eval x = u)
    (hr : (Builtin.copy_ #[42, 42] o.type #[d, u]).run Try.prog w = .ok v w') (h : K (a.put o.dst v) w') : Oper.wp Try.prog o a w K Q := by
  unfold Oper.wp execOp
  simp only [ho, resolve, invoke, builtin, Sem.run_bind, Sem.run_pure, Result.andThen_ok, List.map_toArray, List.map_cons, List.map_nil, hs, hx, hr]
  exact h
theorem info5' : (Try.prog.info? 5).map (·.size) = some 1 := by kernel_rfl
/-- The 32 bytes from a place on. -/
def sumA (bs : List Int) (i : Nat) : List Int := (bs.drop i).take 32
theorem sumA_ok {bs : List Int} {i : Nat} (hb : ∀ x ∈ bs, 0 ≤ x ∧ x < 256) (h : i + 32 ≤ bs.length) : Sum32 (sumA bs i) :=
  ⟨by unfold sumA; rw [List.length_take, List.length_drop]; omega, fun x hx => hb x (List.mem_of_mem_drop (List.mem_of_mem_take hx))⟩
theorem sumA_get {bs : List Int} {i j : Nat} (hj : j < 32) : (sumA bs i).getD j 0 = bs.getD (i + j) 0 := by
  unfold sumA
  simp only [List.getD, List.getElem?_take, if_pos hj, List.getElem?_drop]
section
variable {w : World}
set_option maxHeartbeats 4000000 in
set_option maxRecDepth 100000 in
theorem sum_both {p : Nat} {v : Value} {bs : List Int} (ii : Nat) (hT : TkAt w p v (ii : Int)) (hv : Oct.Bs w v bs) (hby : ∀ x ∈ bs, 0 ≤ x ∧ x < 256) (hi : ii ≤ bs.length) (hl : bs.length ≤ 1000000000000000) : Calls Try.prog 59 #[.pointer (some ⟨p, 0, none⟩)] w fun e w' => if bs.length < ii + 32 then e = .panicked (flt 3) ∧ Chg [] w w' else e = .returned (.agg (sa (sumA bs ii))) ∧ TkAt w' p v ((ii : Int) + 32) ∧ Chg [p] w w' := by
  have HV := Hid.mk hv
  have hv0 := hv
  obtain ⟨av, cv, rfl, hlc, _⟩ := hv
  obtain ⟨nb, Hnb⟩ : ∃ n, Hid (bs.length = n) := ⟨_, ⟨rfl⟩⟩
  rw [Hnb.out] at hT HV hi hl hlc ⊢
  have HT := Hid.mk hT
  obtain ⟨w2, Hw2⟩ : ∃ w2, Hid ((w.alloc (.cells #[.int .u8 0, .int .u8 0, .int .u8 0, .int .u8 0, .int .u8 0, .int .u8 0, .int .u8 0, .int .u8 0, .int .u8 0, .int .u8 0, .int .u8 0, .int .u8 0, .int .u8 0, .int .u8 0, .int .u8 0, .int .u8 0, .int .u8 0, .int .u8 0, .int .u8 0, .int .u8 0, .int .u8 0, .int .u8 0, .int .u8 0, .int .u8 0, .int .u8 0, .int .u8 0, .int .u8 0, .int .u8 0, .int .u8 0, .int .u8 0, .int .u8 0, .int .u8 0] 25)).alloc (.cells #[.int .u8 0, .int .u8 0, .int .u8 0, .int .u8 0, .int .u8 0, .int .u8 0, .int .u8 0, .int .u8 0, .int .u8 0, .int .u8 0, .int .u8 0, .int .u8 0, .int .u8 0, .int .u8 0, .int .u8 0, .int .u8 0, .int .u8 0, .int .u8 0, .int .u8 0, .int .u8 0, .int .u8 0, .int .u8 0, .int .u8 0, .int .u8 0, .int .u8 0, .int .u8 0, .int .u8 0, .int .u8 0, .int .u8 0, .int .u8 0, .int .u8 0, .int .u8 0] 25) = w2) := ⟨_, ⟨rfl⟩⟩
  have HB2 : Hid (Below w.heap.size w w2) := ⟨by rw [← Hw2.out]; exact ((Below.refl _ w).alloc (Nat.le_refl _) _).alloc (by simp) _⟩
  have Hr0 : Hid (w2.heap[w.heap.size]? = some (.cells #[.int .u8 0, .int .u8 0, .int .u8 0, .int .u8 0, .int .u8 0, .int .u8 0, .int .u8 0, .int .u8 0, .int .u8 0, .int .u8 0, .int .u8 0, .int .u8 0, .int .u8 0, .int .u8 0, .int .u8 0, .int .u8 0, .int .u8 0, .int .u8 0, .int .u8 0, .int .u8 0, .int .u8 0, .int .u8 0, .int .u8 0, .int .u8 0, .int .u8 0, .int .u8 0, .int .u8 0, .int .u8 0, .int .u8 0, .int .u8 0, .int .u8 0, .int .u8 0] 25 (0, 0))) := ⟨by rw [← Hw2.out, Below.heap_alloc _ _ _ (by simp)]; exact heap_alloc_new w _⟩
  have Hr1 : Hid (w2.heap[w.heap.size + 1]? = some (.cells #[.int .u8 0, .int .u8 0, .int .u8 0, .int .u8 0, .int .u8 0, .int .u8 0, .int .u8 0, .int .u8 0, .int .u8 0, .int .u8 0, .int .u8 0, .int .u8 0, .int .u8 0, .int .u8 0, .int .u8 0, .int .u8 0, .int .u8 0, .int .u8 0, .int .u8 0, .int .u8 0, .int .u8 0, .int .u8 0, .int .u8 0, .int .u8 0, .int .u8 0, .int .u8 0, .int .u8 0, .int .u8 0, .int .u8 0, .int .u8 0, .int .u8 0, .int .u8 0] 25 (0, 0))) := ⟨by rw [← Hw2.out]; have := heap_alloc_new (w.alloc (.cells #[.int .u8 0, .int .u8 0, .int .u8 0, .int .u8 0, .int .u8 0, .int .u8 0, .int .u8 0, .int .u8 0, .int .u8 0, .int .u8 0, .int .u8 0, .int .u8 0, .int .u8 0, .int .u8 0, .int .u8 0, .int .u8 0, .int .u8 0, .int .u8 0, .int .u8 0, .int .u8 0, .int .u8 0, .int .u8 0, .int .u8 0, .int .u8 0, .int .u8 0, .int .u8 0, .int .u8 0, .int .u8 0, .int .u8 0, .int .u8 0, .int .u8 0, .int .u8 0] 25)) (.cells #[.int .u8 0, .int .u8 0, .int .u8 0, .int .u8 0, .int .u8 0, .int .u8 0, .int .u8 0, .int .u8 0, .int .u8 0, .int .u8 0, .int .u8 0, .int .u8 0, .int .u8 0, .int .u8 0, .int .u8 0, .int .u8 0, .int .u8 0, .int .u8 0, .int .u8 0, .int .u8 0, .int .u8 0, .int .u8 0, .int .u8 0, .int .u8 0, .int .u8 0, .int .u8 0, .int .u8 0, .int .u8 0, .int .u8 0, .int .u8 0, .int .u8 0, .int .u8 0] 25 (0, 0)); simpa using this⟩
  have Hz : Hid (w2.heap.size = w.heap.size + 1 + 1) := ⟨by rw [← Hw2.out]; simp⟩
  have HT2 : Hid (TkAt w2 p (.slice av nb cv) (ii : Int)) := ⟨HT.out.far (Chg.ofBelow (X := []) HB2.out) (by simp)⟩
  have HV2 : Hid (Oct.Bs w2 (.slice av nb cv) bs) := ⟨HV.out.below HB2.out⟩
  have Hq0 : Hid (p < w.heap.size) := ⟨HT.out.lt⟩
  obtain ⟨m, Hm⟩ : ∃ m, Hid (nb - ii = m) := ⟨_, ⟨rfl⟩⟩
  obtain ⟨D, HD⟩ : ∃ D, Hid (decide ((m : Int) < 32) = D) := ⟨_, ⟨rfl⟩⟩
  have hDe := HD.out
  have hS0 : (fun w' => w'.cell? ⟨p, 0, none⟩ = some (.slice av nb cv) ∧ w'.cell? ⟨p, 1, none⟩ = some (.int .i64 (ii : Int))) w2.drew := ⟨HT2.out.c0, HT2.out.c1⟩
  have hsub : (nb : Int) - (ii : Int) = (m : Int) := by rw [← Hm.out]; omega
  have hmw : IntKind.i64.wrap (m : Int) = (m : Int) := IntWalk.i64_in _ ⟨by omega, by rw [← Hm.out]; omega⟩
  clear hT hv0
  by_cases hcc : nb < ii + 32
  · simp only [if_pos hcc]
    have hDt : D = true := by rw [← HD.out, decide_eq_true (by have := Hm.out; omega)]
    subst hDt
    have hlt : (m : Int) < 32 := of_decide_eq_true HD.out
    go_enter Try.func59, Try.ntmps59
    go_upto_region 2 with fail
    rw [Hw2.out]
    refine wp_region_held_drew (S := (fun w' => w'.cell? ⟨p, 0, none⟩ = some (.slice av nb cv) ∧ w'.cell? ⟨p, 1, none⟩ = some (.int .i64 (ii : Int)))) (by kernel_rfl) hS0 (fun hS => ?_)
    refine wpAnyH_take (i := 0) (v := .pointer (some ⟨p, 0, none⟩)) rfl (by kernel_rfl) (by kernel_rfl) (by kernel_rfl) (fun _ _ _ h => h) (Or.inl ⟨by kernel_rfl, fun _ _ => by kernel_rfl⟩) hS ?_
    refine wpAnyH_take (i := 1) (v := .pointer (some ⟨p, 0, none⟩)) rfl (by kernel_rfl) (by kernel_rfl) (by kernel_rfl) (fun _ _ _ h => h) (Or.inl ⟨by kernel_rfl, fun wx hx => by go_simp⟩) hS ?_
    refine wpAnyH_take (i := 2) (v := .pointer (some ⟨p, 0, none⟩)) rfl (by kernel_rfl) (by kernel_rfl) (by kernel_rfl) (fun _ _ _ h => h) (Or.inl ⟨by kernel_rfl, fun wx hx => by go_simp⟩) hS ?_
    refine wpAnyH_take (i := 3) (v := .slice av nb cv) rfl (by kernel_rfl) (by kernel_rfl) (by kernel_rfl) (fun _ _ _ h => h) (Or.inl ⟨by kernel_rfl, fun wx hx => by obtain ⟨hx1, hx2⟩ := hx; go_simp⟩) hS ?_
    refine wpAnyH_take (i := 4) (v := .int .i64 (nb : Int)) rfl (by kernel_rfl) (by kernel_rfl) (by kernel_rfl) (fun _ _ _ h => h) (Or.inl ⟨by kernel_rfl, fun wx hx => by go_simp⟩) hS ?_
    refine wpAnyH_take (i := 5) (v := .pointer (some ⟨p, 0, none⟩)) rfl (by kernel_rfl) (by kernel_rfl) (by kernel_rfl) (fun _ _ _ h => h) (Or.inl ⟨by kernel_rfl, fun _ _ => by kernel_rfl⟩) hS ?_
    refine wpAnyH_take (i := 6) (v := .pointer (some ⟨p, 0, none⟩)) rfl (by kernel_rfl) (by kernel_rfl) (by kernel_rfl) (fun _ _ _ h => h) (Or.inl ⟨by kernel_rfl, fun wx hx => by go_simp⟩) hS ?_
    refine wpAnyH_take (i := 7) (v := .pointer (some ⟨p, 1, none⟩)) rfl (by kernel_rfl) (by kernel_rfl) (by kernel_rfl) (fun _ _ _ h => h) (Or.inl ⟨by kernel_rfl, fun wx hx => by go_simp⟩) hS ?_
    refine wpAnyH_take (i := 8) (v := .int .i64 (ii : Int)) rfl (by kernel_rfl) (by kernel_rfl) (by kernel_rfl) (fun _ _ _ h => h) (Or.inl ⟨by kernel_rfl, fun wx hx => by obtain ⟨hx1, hx2⟩ := hx; go_simp⟩) hS ?_
    refine wpAnyH_take (i := 9) (v := .int .i64 (m : Int)) rfl (by kernel_rfl) (by kernel_rfl) (by kernel_rfl) (fun _ _ _ h => h) (Or.inl ⟨by kernel_rfl, fun wx hx => by go_simp⟩) hS ?_
    refine wpAnyH_take (i := 10) (v := .bool true) rfl (by kernel_rfl) (by kernel_rfl) (by kernel_rfl) (fun _ _ _ h => h) (Or.inl ⟨by kernel_rfl, fun wx hx => by go_simp⟩) hS ?_
    refine wpAnyH_done (by kernel_rfl) ?_ _
    clear hS hS0
    go_simp
    obtain ⟨w3, Hw3⟩ : ∃ w3, Hid (w2.drew = w3) := ⟨_, ⟨rfl⟩⟩
    have HC3 : Hid (Chg [] w w3) := ⟨by rw [← Hw3.out]; exact (Chg.ofBelow HB2.out).drew⟩
    rw [Hw3.out]
    go_wp2_with fail
    exact ⟨rfl, rfl, HC3.out⟩
  · simp only [if_neg hcc]
    obtain ⟨s, Hse⟩ : ∃ s, Hid (sumA bs ii = s) := ⟨_, ⟨rfl⟩⟩
    rw [Hse.out]
    have hDt : D = false := by rw [← HD.out, decide_eq_false (by have := Hm.out; omega)]
    subst hDt
    have hlt : ¬ (m : Int) < 32 := of_decide_eq_false HD.out
    go_enter Try.func59, Try.ntmps59
    go_upto_region 2 with fail
    rw [Hw2.out]
    refine wp_region_held_drew (S := (fun w' => w'.cell? ⟨p, 0, none⟩ = some (.slice av nb cv) ∧ w'.cell? ⟨p, 1, none⟩ = some (.int .i64 (ii : Int)))) (by kernel_rfl) hS0 (fun hS => ?_)
    refine wpAnyH_take (i := 0) (v := .pointer (some ⟨p, 0, none⟩)) rfl (by kernel_rfl) (by kernel_rfl) (by kernel_rfl) (fun _ _ _ h => h) (Or.inl ⟨by kernel_rfl, fun _ _ => by kernel_rfl⟩) hS ?_
    refine wpAnyH_take (i := 1) (v := .pointer (some ⟨p, 0, none⟩)) rfl (by kernel_rfl) (by kernel_rfl) (by kernel_rfl) (fun _ _ _ h => h) (Or.inl ⟨by kernel_rfl, fun wx hx => by go_simp⟩) hS ?_
    refine wpAnyH_take (i := 2) (v := .pointer (some ⟨p, 0, none⟩)) rfl (by kernel_rfl) (by kernel_rfl) (by kernel_rfl) (fun _ _ _ h => h) (Or.inl ⟨by kernel_rfl, fun wx hx => by go_simp⟩) hS ?_
    refine wpAnyH_take (i := 3) (v := .slice av nb cv) rfl (by kernel_rfl) (by kernel_rfl) (by kernel_rfl) (fun _ _ _ h => h) (Or.inl ⟨by kernel_rfl, fun wx hx => by obtain ⟨hx1, hx2⟩ := hx; go_simp⟩) hS ?_
    refine wpAnyH_take (i := 4) (v := .int .i64 (nb : Int)) rfl (by kernel_rfl) (by kernel_rfl) (by kernel_rfl) (fun _ _ _ h => h) (Or.inl ⟨by kernel_rfl, fun wx hx => by go_simp⟩) hS ?_
    refine wpAnyH_take (i := 5) (v := .pointer (some ⟨p, 0, none⟩)) rfl (by kernel_rfl) (by kernel_rfl) (by kernel_rfl) (fun _ _ _ h => h) (Or.inl ⟨by kernel_rfl, fun _ _ => by kernel_rfl⟩) hS ?_
    refine wpAnyH_take (i := 6) (v := .pointer (some ⟨p, 0, none⟩)) rfl (by kernel_rfl) (by kernel_rfl) (by kernel_rfl) (fun _ _ _ h => h) (Or.inl ⟨by kernel_rfl, fun wx hx => by go_simp⟩) hS ?_
    refine wpAnyH_take (i := 7) (v := .pointer (some ⟨p, 1, none⟩)) rfl (by kernel_rfl) (by kernel_rfl) (by kernel_rfl) (fun _ _ _ h => h) (Or.inl ⟨by kernel_rfl, fun wx hx => by go_simp⟩) hS ?_
    refine wpAnyH_take (i := 8) (v := .int .i64 (ii : Int)) rfl (by kernel_rfl) (by kernel_rfl) (by kernel_rfl) (fun _ _ _ h => h) (Or.inl ⟨by kernel_rfl, fun wx hx => by obtain ⟨hx1, hx2⟩ := hx; go_simp⟩) hS ?_
    refine wpAnyH_take (i := 9) (v := .int .i64 (m : Int)) rfl (by kernel_rfl) (by kernel_rfl) (by kernel_rfl) (fun _ _ _ h => h) (Or.inl ⟨by kernel_rfl, fun wx hx => by go_simp⟩) hS ?_
    refine wpAnyH_take (i := 10) (v := .bool false) rfl (by kernel_rfl) (by kernel_rfl) (by kernel_rfl) (fun _ _ _ h => h) (Or.inl ⟨by kernel_rfl, fun wx hx => by go_simp⟩) hS ?_
    refine wpAnyH_done (by kernel_rfl) ?_ _
    clear hS hS0
    go_simp
    obtain ⟨w3, Hw3⟩ : ∃ w3, Hid (w2.drew = w3) := ⟨_, ⟨rfl⟩⟩
    have HC3 : Hid (Chg [] w w3) := ⟨by rw [← Hw3.out]; exact (Chg.ofBelow HB2.out).drew⟩
    rw [Hw3.out]
    have hge : ii + 32 ≤ nb := by omega
    rcases HV2.out.cases with ⟨e, _⟩ | ⟨_, b, off, cap, e, _, _, hbl, hcell⟩
    · exfalso; rw [e] at Hnb; have := Hnb.out; simp at this; omega
    rw [Hnb.out] at e hcell
    simp at e
    obtain ⟨rfl, rfl⟩ := e
    obtain ⟨q, Hq⟩ : ∃ q, Hid (w.heap.size + 1 = q) := ⟨_, ⟨rfl⟩⟩
    obtain ⟨q0, Hqq⟩ : ∃ q, Hid (w.heap.size = q) := ⟨_, ⟨rfl⟩⟩
    have Hs : Hid (Sum32 s) := ⟨by rw [← Hse.out]; exact sumA_ok hby (by rw [Hnb.out]; exact hge)⟩
    have Hsm : Hid (Sm s) := ⟨⟨Hs.out.len, Hs.out.byte⟩⟩
    obtain ⟨w4, Hw4⟩ : ∃ w4, Hid (w3.drew = w4) := ⟨_, ⟨rfl⟩⟩
    have Hh4 : Hid (w4.heap = w2.heap) := ⟨by rw [← Hw4.out, ← Hw3.out]; rfl⟩
    have HC4 : Hid (Chg [] w w4) := ⟨by rw [← Hw4.out]; exact HC3.out.drew⟩
    have HT4 : Hid (TkAt w4 p (.slice (some ⟨b, off, none⟩) nb cv) (ii : Int)) := ⟨⟨by rw [Hh4.out]; exact HT2.out.row⟩⟩
    have Hrq : Hid (w4.heap[q]? = some (.cells #[.int .u8 0, .int .u8 0, .int .u8 0, .int .u8 0, .int .u8 0, .int .u8 0, .int .u8 0, .int .u8 0, .int .u8 0, .int .u8 0, .int .u8 0, .int .u8 0, .int .u8 0, .int .u8 0, .int .u8 0, .int .u8 0, .int .u8 0, .int .u8 0, .int .u8 0, .int .u8 0, .int .u8 0, .int .u8 0, .int .u8 0, .int .u8 0, .int .u8 0, .int .u8 0, .int .u8 0, .int .u8 0, .int .u8 0, .int .u8 0, .int .u8 0, .int .u8 0] 25 (0, 0))) := ⟨by rw [Hh4.out, ← Hq.out]; exact Hr1.out⟩
    have hcp : ∀ ty, (Builtin.copy_ #[42, 42] ty #[.slice (some ⟨q, 0, none⟩) 32 32, .slice (some ⟨b, off + ii, none⟩) (nb - ii) (cv - ii)]).run Try.prog w4 = .ok (.int .i64 32) (w4.setRow q (sa s)) := fun ty => by
      have hlen : (sc s).length = 32 := by rw [sc_len, Hs.out.len]
      have h := run_copy_row (P := Try.prog) w4 42 42 ty 5 q 0 32 32 ⟨b, off + ii, none⟩ (nb - ii) (cv - ii) _ 25 (sc s) Try.underlying42 info5' Hrq.out (by rw [hlen]; exact (Nat.min_eq_right (by omega)).symm) (fun j x hx => by
        have hj : j < 32 := by
          rcases Nat.lt_or_ge j 32 with z | z
          · exact z
          · rw [List.getElem?_eq_none (by omega)] at hx; cases hx
        rw [sc_get s (by rw [Hs.out.len]; exact hj)] at hx
        rw [add_plain, World.cell?_of_block (w := w2) (by rw [Hh4.out]), Nat.add_assoc, hcell (ii + j) (by omega), ← hx, ← Hse.out, sumA_get hj]) (by rw [hlen]; decide) (sc_one s)
      rw [h, hlen]
      congr 2
      apply Array.ext'
      simp only [List.take_zero, List.nil_append]
      simp [sa, sc]
    obtain ⟨w5, Hw5⟩ : ∃ w5, Hid (w4.setRow q (sa s) = w5) := ⟨_, ⟨rfl⟩⟩
    simp only [Hw5.out] at hcp
    have HG5 : Hid (Chg [q] w4 w5) := ⟨by rw [← Hw5.out]; exact ⟨rfl, rfl, rfl, by simp, fun k hk hx => setRow_other _ _ k _ (by simpa using hx)⟩⟩
    have Hpq : Hid (p ≠ q ∧ q0 ≠ q ∧ p ≠ q0 ∧ q0 ≤ q) := ⟨by rw [← Hq.out, ← Hqq.out]; have := Hq0.out; omega⟩
    have HT5 : Hid (TkAt w5 p (.slice (some ⟨b, off, none⟩) nb cv) (ii : Int)) := ⟨HT4.out.far HG5.out (by simp; exact Hpq.out.1)⟩
    have hf5 := HT5.out.fz
    obtain ⟨w6, Hw6⟩ : ∃ w6, Hid (w5.setCell ⟨p, 1, none⟩ (.int .i64 ((ii : Int) + 32)) = w6) := ⟨_, ⟨rfl⟩⟩
    have HT6 : Hid (TkAt w6 p (.slice (some ⟨b, off, none⟩) nb cv) ((ii : Int) + 32)) := ⟨by rw [← Hw6.out]; exact HT5.out.set _⟩
    have HC6 : Hid (Chg [p] w w6) := ⟨by rw [← Hw6.out]; exact ((HC4.out.mono (Y := [p]) (by simp)).thenNew HG5.out (fun x hx => by simp at hx; subst hx; right; rw [← Hq.out]; omega)).setCell (.inl (by simp)) _⟩
    have HAt6 : Hid (At w6 q 0 (sc s)) := ⟨by
      have h1 : w6.heap[q]? = some (.cells (sa s) 25 (0, 0)) := by
        rw [← Hw6.out, heap_setCell_other w5 ⟨p, 1, none⟩ q _ (fun e => Hpq.out.1 e.symm), ← Hw5.out]
        exact setRow_heap _ _ _ _ 25 (0, 0) Hrq.out
      exact At.row h1⟩
    have Hr0' : Hid (w6.heap[q0]? = some (.cells #[.int .u8 0, .int .u8 0, .int .u8 0, .int .u8 0, .int .u8 0, .int .u8 0, .int .u8 0, .int .u8 0, .int .u8 0, .int .u8 0, .int .u8 0, .int .u8 0, .int .u8 0, .int .u8 0, .int .u8 0, .int .u8 0, .int .u8 0, .int .u8 0, .int .u8 0, .int .u8 0, .int .u8 0, .int .u8 0, .int .u8 0, .int .u8 0, .int .u8 0, .int .u8 0, .int .u8 0, .int .u8 0, .int .u8 0, .int .u8 0, .int .u8 0, .int .u8 0] 25 (0, 0))) := ⟨by
      rw [← Hw6.out, heap_setCell_other w5 ⟨p, 1, none⟩ q0 _ (fun e => Hpq.out.2.2.1 e.symm), ← Hw5.out, setRow_other _ _ _ _ Hpq.out.2.1, Hh4.out, ← Hqq.out]
      exact Hr0.out⟩
    have hS4 : (fun w' => w'.cell? ⟨p, 0, none⟩ = some (.slice (some ⟨b, off, none⟩) nb cv)) w3.drew := by rw [Hw4.out]; exact HT4.out.c0
    have hS4b : (fun w' => w'.cell? ⟨p, 0, none⟩ = some (.slice (some ⟨b, off, none⟩) nb cv)) w4 := HT4.out.c0
    have hS5 : (fun w' => w'.cell? ⟨p, 0, none⟩ = some (.slice (some ⟨b, off, none⟩) nb cv)) w5 := HT5.out.c0
    have hS6 : (fun w' => w'.cell? ⟨p, 0, none⟩ = some (.slice (some ⟨b, off, none⟩) nb cv)) (w5.setCell ⟨p, 1, none⟩ (.int .i64 ((ii : Int) + 32))) := by rw [Hw6.out]; exact HT6.out.c0
    have hc14 := HT4.out.c1
    have hc15 := HT5.out.c1
    replace Hr0 := Hr0'
    replace Hq0 : Hid (p < q0) := ⟨by rw [← Hqq.out]; exact Hq0.out⟩
    have Hnw : Hid (Chg [p] w w6 ∧ w.heap.size ≤ q0) := ⟨HC6.out, by rw [Hqq.out]; exact Nat.le_refl _⟩
    rw [Hq.out, Hqq.out]
    clear hcell hlt HD Hr0' Hr1 hsub hmw hDe
    have hiz : ¬ (nb : Int) < (ii : Int) := by omega
    have hin : ii ≤ nb := by omega
    have hci : ¬ cv = ii := by omega
    have hw32 : IntKind.i64.wrap ((ii : Int) + 32) = (ii : Int) + 32 := IntWalk.i64_in _ ⟨by omega, by omega⟩
    go_upto_region 4 with fail
    refine wp_region_held_drew (S := (fun w' => w'.cell? ⟨p, 0, none⟩ = some (.slice (some ⟨b, off, none⟩) nb cv))) (by kernel_rfl) hS4 (fun hS => ?_)
    refine wpAnyH_take (i := 0) (v := .pointer (some ⟨p, 0, none⟩)) rfl (by kernel_rfl) (by kernel_rfl) (by kernel_rfl) (fun _ _ _ h => h) (Or.inl ⟨by kernel_rfl, fun _ _ => by kernel_rfl⟩) hS ?_
    refine wpAnyH_take (i := 1) (v := .pointer (some ⟨p, 0, none⟩)) rfl (by kernel_rfl) (by kernel_rfl) (by kernel_rfl) (fun _ _ _ h => h) (Or.inl ⟨by kernel_rfl, fun wx hx => by go_simp⟩) hS ?_
    refine wpAnyH_take (i := 2) (v := .pointer (some ⟨p, 1, none⟩)) rfl (by kernel_rfl) (by kernel_rfl) (by kernel_rfl) (fun _ _ _ h => h) (Or.inl ⟨by kernel_rfl, fun wx hx => by go_simp⟩) hS ?_
    refine wpAnyH_take (i := 4) (v := .slice (some ⟨q, 0, none⟩) 32 32) rfl (by kernel_rfl) (by kernel_rfl) (by kernel_rfl) (fun _ _ _ h => h) (Or.inl ⟨by kernel_rfl, fun wx hx => by go_simp⟩) hS ?_
    refine wpAnyH_take (i := 5) (v := .pointer (some ⟨p, 0, none⟩)) rfl (by kernel_rfl) (by kernel_rfl) (by kernel_rfl) (fun _ _ _ h => h) (Or.inl ⟨by kernel_rfl, fun _ _ => by kernel_rfl⟩) hS ?_
    refine wpAnyH_take (i := 6) (v := .pointer (some ⟨p, 0, none⟩)) rfl (by kernel_rfl) (by kernel_rfl) (by kernel_rfl) (fun _ _ _ h => h) (Or.inl ⟨by kernel_rfl, fun wx hx => by go_simp⟩) hS ?_
    refine wpAnyH_take (i := 7) (v := .pointer (some ⟨p, 0, none⟩)) rfl (by kernel_rfl) (by kernel_rfl) (by kernel_rfl) (fun _ _ _ h => h) (Or.inl ⟨by kernel_rfl, fun wx hx => by go_simp⟩) hS ?_
    refine wpAnyH_take (i := 8) (v := .slice (some ⟨b, off, none⟩) nb cv) rfl (by kernel_rfl) (by kernel_rfl) (by kernel_rfl) (fun _ _ _ h => h) (Or.inl ⟨by kernel_rfl, fun wx hx => by go_simp⟩) hS ?_
    refine wpAnyH_take (i := 9) (v := .pointer (some ⟨p, 0, none⟩)) rfl (by kernel_rfl) (by kernel_rfl) (by kernel_rfl) (fun _ _ _ h => h) (Or.inl ⟨by kernel_rfl, fun _ _ => by kernel_rfl⟩) hS ?_
    refine wpAnyH_take (i := 10) (v := .pointer (some ⟨p, 0, none⟩)) rfl (by kernel_rfl) (by kernel_rfl) (by kernel_rfl) (fun _ _ _ h => h) (Or.inl ⟨by kernel_rfl, fun wx hx => by go_simp⟩) hS ?_
    refine wpAnyH_take (i := 11) (v := .pointer (some ⟨p, 1, none⟩)) rfl (by kernel_rfl) (by kernel_rfl) (by kernel_rfl) (fun _ _ _ h => h) (Or.inl ⟨by kernel_rfl, fun wx hx => by go_simp⟩) hS ?_
    clear hS
    rw [Hw4.out]
    refine wpAnyH_ready (rs := [3, 12]) (by kernel_rfl) (by simp) (AllReadyH.cons rfl (fun Kc hK => ?_) (AllReadyH.cons rfl (fun Kc hK => ?_) AllReadyH.nil))
    · go_simp
      refine hK.out _ _ hS4b (fun hS => ?_)
      clear hK
      refine wpAnyH_ready (rs := [12]) (by kernel_rfl) (by simp) (AllReadyH.cons rfl (fun Kc hK => ?_) AllReadyH.nil)
      go_simp
      refine hK.out _ _ hS4b (fun hS => ?_)
      clear hK
      refine wpAnyH_take (i := 13) (v := .slice (some ⟨b, off + ii, none⟩) (nb - ii) (cv - ii)) rfl (by kernel_rfl) (by kernel_rfl) (by kernel_rfl) (fun _ _ _ h => h) (Or.inl ⟨by kernel_rfl, fun wx hx => by go_simp⟩) hS ?_
      refine wpAnyH_ready (rs := [14]) (by kernel_rfl) (by simp) (AllReadyH.cons rfl (fun Kc hK => ?_) AllReadyH.nil)
      refine rdy_of (by kernel_rfl) ?_
      refine op_copyY (.tmp 20) (.tmp 29) rfl (by kernel_rfl) (by kernel_rfl) (hcp _) ?_
      refine hK.out _ _ hS5 (fun hS => ?_)
      clear hK
      refine wpAnyH_take (i := 15) (v := .int .i64 ((ii : Int) + 32)) rfl (by kernel_rfl) (by kernel_rfl) (by kernel_rfl) (fun _ _ _ h => h) (Or.inl ⟨by kernel_rfl, fun wx hx => by go_simp⟩) hS ?_
      refine wpAnyH_take (i := 16) (v := .pointer (some ⟨p, 0, none⟩)) rfl (by kernel_rfl) (by kernel_rfl) (by kernel_rfl) (fun _ _ _ h => h) (Or.inl ⟨by kernel_rfl, fun wx hx => by go_simp⟩) hS ?_
      refine wpAnyH_take (i := 17) (v := .pointer (some ⟨p, 1, none⟩)) rfl (by kernel_rfl) (by kernel_rfl) (by kernel_rfl) (fun _ _ _ h => h) (Or.inl ⟨by kernel_rfl, fun wx hx => by go_simp⟩) hS ?_
      refine wpAnyH_ready (rs := [18]) (by kernel_rfl) (by simp) (AllReadyH.cons rfl (fun Kc hK => ?_) AllReadyH.nil)
      go_simp
      refine hK.out _ _ hS6 (fun hS => ?_)
      clear hK
      refine wpAnyH_done (by kernel_rfl) ?_ _
      clear hS hS4 hS5 hS6
      go_simp
      rw [Hw6.out]
      go_upto_region 5 with fail
      go_wp2_with (first
        | (refine wp_loadS rfl (.tmp 3) rfl q 0 rfl s HAt6.out Hs.out ?_)
        | (refine wp_storeS rfl (.tmp 2) (.tmp 34) rfl q0 s Hsm.out rfl rfl _ Hr0.out rfl ?_; intro w7 hA7 hG7; have HA7 := Hid.mk hA7; have HG7 := Hid.mk hG7; clear hA7 hG7))
      refine bodyPost_ret (results_cell_row rfl _ w7 q0 25 (sa s) (0, 0) _ (by kernel_rfl) HA7.out Try.underlying25 rfl (by rw [sa_size Hsm.out]; exact info25)) rfl ?_
      exact ⟨rfl, HT6.out.far HG7.out (by simp; have := Hq0.out; omega), (HC6.out.thenNew HG7.out (fun x hx => by simp at hx; subst hx; right; exact Hnw.out.2))⟩
    · go_simp
      refine hK.out _ _ hS4b (fun hS => ?_)
      clear hK
      refine wpAnyH_take (i := 13) (v := .slice (some ⟨b, off + ii, none⟩) (nb - ii) (cv - ii)) rfl (by kernel_rfl) (by kernel_rfl) (by kernel_rfl) (fun _ _ _ h => h) (Or.inl ⟨by kernel_rfl, fun wx hx => by go_simp⟩) hS ?_
      refine wpAnyH_ready (rs := [3, 14]) (by kernel_rfl) (by simp) (AllReadyH.cons rfl (fun Kc hK => ?_) (AllReadyH.cons rfl (fun Kc hK => ?_) AllReadyH.nil))
      · go_simp
        refine hK.out _ _ hS4b (fun hS => ?_)
        clear hK
        refine wpAnyH_ready (rs := [14]) (by kernel_rfl) (by simp) (AllReadyH.cons rfl (fun Kc hK => ?_) AllReadyH.nil)
        refine rdy_of (by kernel_rfl) ?_
        refine op_copyY (.tmp 20) (.tmp 29) rfl (by kernel_rfl) (by kernel_rfl) (hcp _) ?_
        refine hK.out _ _ hS5 (fun hS => ?_)
        clear hK
        refine wpAnyH_take (i := 15) (v := .int .i64 ((ii : Int) + 32)) rfl (by kernel_rfl) (by kernel_rfl) (by kernel_rfl) (fun _ _ _ h => h) (Or.inl ⟨by kernel_rfl, fun wx hx => by go_simp⟩) hS ?_
        refine wpAnyH_take (i := 16) (v := .pointer (some ⟨p, 0, none⟩)) rfl (by kernel_rfl) (by kernel_rfl) (by kernel_rfl) (fun _ _ _ h => h) (Or.inl ⟨by kernel_rfl, fun wx hx => by go_simp⟩) hS ?_
        refine wpAnyH_take (i := 17) (v := .pointer (some ⟨p, 1, none⟩)) rfl (by kernel_rfl) (by kernel_rfl) (by kernel_rfl) (fun _ _ _ h => h) (Or.inl ⟨by kernel_rfl, fun wx hx => by go_simp⟩) hS ?_
        refine wpAnyH_ready (rs := [18]) (by kernel_rfl) (by simp) (AllReadyH.cons rfl (fun Kc hK => ?_) AllReadyH.nil)
        go_simp
        refine hK.out _ _ hS6 (fun hS => ?_)
        clear hK
        refine wpAnyH_done (by kernel_rfl) ?_ _
        clear hS hS4 hS5 hS6
        go_simp
        rw [Hw6.out]
        go_upto_region 5 with fail
        go_wp2_with (first
          | (refine wp_loadS rfl (.tmp 3) rfl q 0 rfl s HAt6.out Hs.out ?_)
          | (refine wp_storeS rfl (.tmp 2) (.tmp 34) rfl q0 s Hsm.out rfl rfl _ Hr0.out rfl ?_; intro w7 hA7 hG7; have HA7 := Hid.mk hA7; have HG7 := Hid.mk hG7; clear hA7 hG7))
        refine bodyPost_ret (results_cell_row rfl _ w7 q0 25 (sa s) (0, 0) _ (by kernel_rfl) HA7.out Try.underlying25 rfl (by rw [sa_size Hsm.out]; exact info25)) rfl ?_
        exact ⟨rfl, HT6.out.far HG7.out (by simp; have := Hq0.out; omega), (HC6.out.thenNew HG7.out (fun x hx => by simp at hx; subst hx; right; exact Hnw.out.2))⟩
      · refine rdy_of (by kernel_rfl) ?_
        refine op_copyY (.tmp 20) (.tmp 29) rfl (by kernel_rfl) (by kernel_rfl) (hcp _) ?_
        refine hK.out _ _ hS5 (fun hS => ?_)
        clear hK
        refine wpAnyH_ready (rs := [3]) (by kernel_rfl) (by simp) (AllReadyH.cons rfl (fun Kc hK => ?_) AllReadyH.nil)
        go_simp
        refine hK.out _ _ hS5 (fun hS => ?_)
        clear hK
        refine wpAnyH_take (i := 15) (v := .int .i64 ((ii : Int) + 32)) rfl (by kernel_rfl) (by kernel_rfl) (by kernel_rfl) (fun _ _ _ h => h) (Or.inl ⟨by kernel_rfl, fun wx hx => by go_simp⟩) hS ?_
        refine wpAnyH_take (i := 16) (v := .pointer (some ⟨p, 0, none⟩)) rfl (by kernel_rfl) (by kernel_rfl) (by kernel_rfl) (fun _ _ _ h => h) (Or.inl ⟨by kernel_rfl, fun wx hx => by go_simp⟩) hS ?_
        refine wpAnyH_take (i := 17) (v := .pointer (some ⟨p, 1, none⟩)) rfl (by kernel_rfl) (by kernel_rfl) (by kernel_rfl) (fun _ _ _ h => h) (Or.inl ⟨by kernel_rfl, fun wx hx => by go_simp⟩) hS ?_
        refine wpAnyH_ready (rs := [18]) (by kernel_rfl) (by simp) (AllReadyH.cons rfl (fun Kc hK => ?_) AllReadyH.nil)
        go_simp
        refine hK.out _ _ hS6 (fun hS => ?_)
        clear hK
        refine wpAnyH_done (by kernel_rfl) ?_ _
        clear hS hS4 hS5 hS6
        go_simp
        rw [Hw6.out]
        go_upto_region 5 with fail
        go_wp2_with (first
          | (refine wp_loadS rfl (.tmp 3) rfl q 0 rfl s HAt6.out Hs.out ?_)
          | (refine wp_storeS rfl (.tmp 2) (.tmp 34) rfl q0 s Hsm.out rfl rfl _ Hr0.out rfl ?_; intro w7 hA7 hG7; have HA7 := Hid.mk hA7; have HG7 := Hid.mk hG7; clear hA7 hG7))
        refine bodyPost_ret (results_cell_row rfl _ w7 q0 25 (sa s) (0, 0) _ (by kernel_rfl) HA7.out Try.underlying25 rfl (by rw [sa_size Hsm.out]; exact info25)) rfl ?_
        exact ⟨rfl, HT6.out.far HG7.out (by simp; have := Hq0.out; omega), (HC6.out.thenNew HG7.out (fun x hx => by simp at hx; subst hx; right; exact Hnw.out.2))⟩
end
end Go.Proofs.Ytiloclekhddkfaa
