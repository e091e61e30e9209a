/- The program's Take. -/
import Derived.Test.YtiloclekhddkfaaS28
namespace Go.Proofs.Ytiloclekhddkfaa
open Go.RowKit Go.Lib

/-- What the step leaves: the list at q. -/
def StepPost (w : World) (p q : Nat) (e0 : Ending) : Except Int (List Rf) → Ending → World → Prop
  | .error c, e, w' => e = .panicked (flt c) ∧ Chg [p] w w'
  | .ok L, e, w' => e = e0 ∧ ∃ v, w'.heap[q]? = some (.cells #[v] 22 (0, 0)) ∧ OwnE rc 35 28 w' w.heap.size v L ∧ (∀ r ∈ L, Sm r.s) ∧ Chg [p, q] w w'
section
variable {w : World}
set_option maxHeartbeats 2000000 in
set_option maxRecDepth 100000 in
theorem step_any {p q : Nat} {v : Value} {bs : List Int} (hT : TkAt w p v 0) (hq : w.heap[q]? = some (.cells #[.slice none 0 0] 22 (0, 0))) (hpq : q ≠ p) (hv : Oct.Bs w v bs) (hby : ∀ x ∈ bs, 0 ≤ x ∧ x < 256) (hl : bs.length ≤ 1000000000000000) (hne : 0 < bs.length → ∀ k, v.ownBlock = some k → k ∉ [p]) :
    Calls Try.prog 40 #[.pointer (some ⟨p, 0, none⟩), .pointer (some ⟨q, 0, none⟩)] w fun e w' => StepPost w p q (.returned (.tuple #[])) (takeF bs) e w' := by
  have t := all_any hT hv hby hl hne
  have Hq := Hid.mk hq
  have Hql : Hid (q < w.heap.size) := ⟨(Array.getElem?_eq_some_iff.1 hq).1⟩
  generalize takeF bs = X at t
  clear hT hv hq hne
  cases X with
  | error c =>
    go_enter Try.func40, Try.ntmps40
    go_wp2_with fail
    refine t.mono ?_
    rintro e w2 ⟨rfl, hc2⟩
    exact ⟨rfl, rfl, hc2⟩
  | ok L =>
    go_enter Try.func40, Try.ntmps40
    go_wp2_with fail
    refine t.mono ?_
    rintro e w2 ⟨v2, rfl, hO2, hs2, hc2⟩
    have HO2 := Hid.mk hO2
    have Hs2 := Hid.mk hs2
    have HC2 := Hid.mk hc2
    have hq2 : w2.heap[q]? = some (.cells #[.slice none 0 0] 22 (0, 0)) := (hc2.block q Hql.out (by simpa using hpq)).trans Hq.out
    have hc0 : w2.cell? ⟨q, 0, none⟩ = some (.slice none 0 0) := by rw [cell_of_row _ _ _ _ _ _ hq2]; rfl
    have hf0 : w2.frozen? ⟨q, 0, none⟩ = false := frozen_of_row w2 q 0 _ 22 hq2
    have Hq2 := Hid.mk hq2
    obtain ⟨a2, c2, e2, _⟩ := (hO2.rd r0).shape
    subst e2
    obtain ⟨nL, HnL⟩ : ∃ n, Hid (L.length = n) := ⟨_, ⟨rfl⟩⟩
    rw [HnL.out] at HO2 ⊢
    clear hO2 hs2 hc2 hq2 t
    go_wp2_with fail
    refine bodyPost_ret (results_none rfl _ _ _) rfl ?_
    refine ⟨rfl, _, heap_setCell_same w2 q 0 _ 22 _ Hq2.out, ?_, Hs2.out, ?_⟩
    · exact HO2.out.far ((Chg.refl [q] w2).setCell (.inl (by simp)) _) (fun g hg => by have := (HO2.out.lt g hg).1; have := Hql.out; simp; omega)
    · exact (HC2.out.mono (by simp)).setCell (.inl (by simp)) _
set_option maxHeartbeats 2000000 in
set_option maxRecDepth 100000 in
theorem caught_any {p q : Nat} {v : Value} {bs : List Int} (hT : TkAt w p v 0) (hq : w.heap[q]? = some (.cells #[.slice none 0 0] 22 (0, 0))) (hpq : q ≠ p) (hv : Oct.Bs w v bs) (hby : ∀ x ∈ bs, 0 ≤ x ∧ x < 256) (hl : bs.length ≤ 1000000000000000) (hne : 0 < bs.length → ∀ k, v.ownBlock = some k → k ∉ [p]) :
    Calls Try.prog 39 #[.func (.func 40) #[] #[.pointer (some ⟨p, 0, none⟩), .pointer (some ⟨q, 0, none⟩)]] w fun e w' => match takeF bs with
      | .error c => e = .returned (.int .i64 c) ∧ Chg [p] w w'
      | .ok L => e = .returned (.int .i64 0) ∧ ∃ v, w'.heap[q]? = some (.cells #[v] 22 (0, 0)) ∧ OwnE rc 35 28 w' w.heap.size v L ∧ (∀ r ∈ L, Sm r.s) ∧ Chg [p, q] w w' := by
  have hmf : ∀ (fn : Fn) (first cap : Array Value) (w : World), (Instr.makeFunc fn first cap).run Try.prog w = .ok (.func fn first cap) w := fun _ _ _ _ => rfl
  obtain ⟨w1, Hw1⟩ : ∃ w1, Hid (w.alloc (.cells #[.int .i64 0] 32) = w1) := ⟨_, ⟨rfl⟩⟩
  have HB1 : Hid (Below w.heap.size w w1) := ⟨by rw [← Hw1.out]; exact (Below.refl _ w).alloc (Nat.le_refl _) _⟩
  have Hk1 : Hid (w1.heap[w.heap.size]? = some (.cells #[.int .i64 0] 32 (0, 0))) := ⟨by rw [← Hw1.out]; exact heap_alloc_new w _⟩
  have Hpl : Hid (p < w.heap.size) := ⟨hT.lt⟩
  have Hql : Hid (q < w.heap.size) := ⟨(Array.getElem?_eq_some_iff.1 hq).1⟩
  have t := step_any (w := w1) (p := p) (q := q) (v := v) (bs := bs) (hT.far (Chg.ofBelow (X := []) HB1.out) (by simp)) ((HB1.out.block q Hql.out).trans hq) hpq (hv.below HB1.out) hby hl hne
  generalize takeF bs = X at t
  obtain ⟨k, Hk⟩ : ∃ k, Hid (w.heap.size = k) := ⟨_, ⟨rfl⟩⟩
  clear hT hv hne hq
  cases X with
  | error c =>
    go_enter_defers Try.func39, Try.ntmps39
    go_upto_region 1 with fail
    rw [Hw1.out]
    rw [Hk.out] at Hk1 Hpl Hql HB1 ⊢
    go_wp2_with fail
    refine t.mono ?_
    rintro e w2 ⟨rfl, hc2⟩
    have hk2 : w2.heap[k]? = some (.cells #[.int .i64 0] 32 (0, 0)) := (hc2.block k ((Array.getElem?_eq_some_iff.1 Hk1.out).1) (by simp; have := Hpl.out; omega)).trans Hk1.out
    have hck : w2.cell? ⟨k, 0, none⟩ = some (.int .i64 0) := by rw [cell_of_row _ _ _ _ _ _ hk2]; rfl
    have hfk : w2.frozen? ⟨k, 0, none⟩ = false := frozen_of_row w2 k 0 _ 32 hk2
    have HCC : Hid (Chg [p] w (w2.setCell ⟨k, 0, none⟩ (.int .i64 c))) := ⟨((Chg.ofBelow (X := [p]) (by rw [Hk.out]; exact HB1.out)).trans hc2).setCell (.inr (by rw [Hk.out]; exact Nat.le_refl _)) _⟩
    refine leaves_cons (f := 53) (args := #[.pointer (some ⟨k, 0, none⟩)]) (by simp) (by simp [go_sem]) ?_
    refine (catch_panicking k 0 c w2 hck hfk).mono ?_
    rintro e u' w'' ⟨rfl, rfl, rfl⟩
    have hc' : (w2.setCell ⟨k, 0, none⟩ (.int .i64 c)).cell? ⟨k, 0, none⟩ = some (.int .i64 c) := by rw [cell_of_row _ _ _ _ _ _ (heap_setCell_same w2 k 0 _ 32 _ hk2)]; rfl
    simp [Leaves, settle, results, Try.results39, go_sem, hc']
    exact HCC.out
  | ok L =>
    go_enter_defers Try.func39, Try.ntmps39
    go_upto_region 1 with fail
    rw [Hw1.out]
    rw [Hk.out] at Hk1 Hpl Hql HB1 ⊢
    go_wp2_with fail
    refine t.mono ?_
    rintro e w2 ⟨rfl, v2, hq2, hO2, hs2, hc2⟩
    have hk2 : w2.heap[k]? = some (.cells #[.int .i64 0] 32 (0, 0)) := (hc2.block k ((Array.getElem?_eq_some_iff.1 Hk1.out).1) (by simp; have := Hpl.out; have := Hql.out; omega)).trans Hk1.out
    have hck : w2.cell? ⟨k, 0, none⟩ = some (.int .i64 0) := by rw [cell_of_row _ _ _ _ _ _ hk2]; rfl
    have hfk : w2.frozen? ⟨k, 0, none⟩ = false := frozen_of_row w2 k 0 _ 32 hk2
    have HCC : Hid (Chg [p, q] w (w2.setCell ⟨k, 0, none⟩ (.int .i64 0))) := ⟨((Chg.ofBelow (X := [p, q]) (by rw [Hk.out]; exact HB1.out)).trans hc2).setCell (.inr (by rw [Hk.out]; exact Nat.le_refl _)) _⟩
    have Hq3 : Hid ((w2.setCell ⟨k, 0, none⟩ (.int .i64 0)).heap[q]? = some (.cells #[v2] 22 (0, 0))) := ⟨by rw [heap_setCell_other w2 ⟨k, 0, none⟩ q _ (by simp; have := Hql.out; omega)]; exact hq2⟩
    have Hk1s : Hid (k < w1.heap.size) := ⟨(Array.getElem?_eq_some_iff.1 Hk1.out).1⟩
    have HO3 : Hid (OwnE rc 35 28 (w2.setCell ⟨k, 0, none⟩ (.int .i64 0)) w.heap.size v2 L) := ⟨OwnE.base (hO2.far ((Chg.refl [k] w2).setCell (.inl (by simp)) _) (fun g hg => by have := (hO2.lt g hg).1; have := Hk1s.out; simp; omega)) (by rw [Hk.out]; exact Nat.le_of_lt Hk1s.out)⟩
    have Hs2 := Hid.mk hs2
    have hc' : (w2.setCell ⟨k, 0, none⟩ (.int .i64 0)).cell? ⟨k, 0, none⟩ = some (.int .i64 0) := by rw [cell_of_row _ _ _ _ _ _ (heap_setCell_same w2 k 0 _ 32 _ hk2)]; rfl
    clear hq2 hO2 hs2 hc2 t
    go_wp2_with fail
    refine leaves_cons (f := 53) (args := #[.pointer (some ⟨k, 0, none⟩)]) (by simp) (by simp [go_sem]) ?_
    refine (catch_idle k _).mono ?_
    rintro e u' w'' ⟨rfl, rfl, rfl⟩
    simp [Leaves, settle, results, Try.results39, go_sem, hc']
    exact ⟨v2, Hq3.out, HO3.out, Hs2.out, HCC.out⟩
/-- The code and the refs of what Take tells. -/
def tkC : Except Int (List Rf) → Int
  | .error c => c
  | .ok _ => 0
def tkL : Except Int (List Rf) → List Rf
  | .error _ => []
  | .ok L => L
set_option maxHeartbeats 2000000 in
set_option maxRecDepth 100000 in
theorem take_any {v : Value} {bs : List Int} (hv : Oct.Bs w v bs) (hby : ∀ x ∈ bs, 0 ≤ x ∧ x < 256) (hl : bs.length ≤ 1000000000000000) :
    Calls Try.prog 24 #[v] w fun e w' => ∃ v', e = .returned (.tuple #[v', .int .i64 (tkC (takeF bs))]) ∧ OwnE rc 35 28 w' w.heap.size v' (tkL (takeF bs)) ∧ (∀ r ∈ tkL (takeF bs), Sm r.s) ∧ Below w.heap.size w w' := by
  have hmf : ∀ (fn : Fn) (first cap : Array Value) (w : World), (Instr.makeFunc fn first cap).run Try.prog w = .ok (.func fn first cap) w := fun _ _ _ _ => rfl
  have hne : 0 < bs.length → ∀ k, v.ownBlock = some k → k ∉ [w.heap.size] := fun hp k hk => by
    rcases hv.cases with ⟨e, _⟩ | ⟨_, b, off, cap, rfl, _, _, hb, _⟩
    · rw [e] at hp; simp at hp
    · simp [Value.ownBlock] at hk; subst hk; simp; omega
  have hv0 := hv
  obtain ⟨av, cv, rfl, _⟩ := hv
  obtain ⟨nb, Hnb⟩ : ∃ n, Hid (bs.length = n) := ⟨_, ⟨rfl⟩⟩
  rw [Hnb.out] at hv0 hne ⊢
  obtain ⟨w2, Hw2⟩ : ∃ w2, Hid ((w.alloc (.cells #[.slice av nb cv, .int .i64 0] 61)).alloc (.cells #[.slice none 0 0] 22) = w2) := ⟨_, ⟨rfl⟩⟩
  have HB2 : Hid (Below w.heap.size w w2) := ⟨by rw [← Hw2.out]; exact ((Below.refl _ w).alloc (Nat.le_refl _) _).alloc (by simp) _⟩
  have HT2 : Hid (TkAt w2 w.heap.size (.slice av nb cv) 0) := ⟨⟨by rw [← Hw2.out, Below.heap_alloc _ _ _ (by simp)]; exact heap_alloc_new w _⟩⟩
  have Hq2 : Hid (w2.heap[w.heap.size + 1]? = some (.cells #[.slice none 0 0] 22 (0, 0))) := ⟨by rw [← Hw2.out]; have := heap_alloc_new (w.alloc (.cells #[.slice av nb cv, .int .i64 0] 61)) (.cells #[.slice none 0 0] 22 (0, 0)); simpa using this⟩
  have t := caught_any (w := w2) (p := w.heap.size) (q := w.heap.size + 1) (v := .slice av nb cv) (bs := bs) HT2.out Hq2.out (by omega) (hv0.below HB2.out) hby hl (by rw [Hnb.out]; exact hne)
  generalize takeF bs = X at t ⊢
  clear hv0 hne
  go_enter Try.func24, Try.ntmps24
  go_upto_region 3 with fail
  rw [Hw2.out]
  cases X with
  | error c =>
    go_wp2_with fail
    refine t.mono ?_
    rintro e w3 ⟨rfl, hc3⟩
    have hq3 : w3.heap[w.heap.size + 1]? = some (.cells #[.slice none 0 0] 22 (0, 0)) := (hc3.block (w.heap.size + 1) ((Array.getElem?_eq_some_iff.1 Hq2.out).1) (by simp)).trans Hq2.out
    have hc0 : w3.cell? ⟨w.heap.size + 1, 0, none⟩ = some (.slice none 0 0) := by rw [cell_of_row _ _ _ _ _ _ hq3]; rfl
    have HB3 : Hid (Below w.heap.size w w3) := ⟨HB2.out.trans (hc3.below HB2.out.size (by simp))⟩
    go_wp2_with fail
    go_ret2
    exact ⟨_, rfl, OwnE.nil _ _ _ _ _, by simp [tkL], HB3.out⟩
  | ok L =>
    go_wp2_with fail
    refine t.mono ?_
    rintro e w3 ⟨rfl, v3, hq3, hO3, hs3, hc3⟩
    have hc0 : w3.cell? ⟨w.heap.size + 1, 0, none⟩ = some v3 := by rw [cell_of_row _ _ _ _ _ _ hq3]; rfl
    have HB3 : Hid (Below w.heap.size w w3) := ⟨HB2.out.trans (hc3.below HB2.out.size (by simp))⟩
    have HO3 : Hid (OwnE rc 35 28 w3 w.heap.size v3 L) := ⟨hO3.base HB2.out.size⟩
    have Hs3 := Hid.mk hs3
    obtain ⟨a3, c3, e3, _⟩ := (hO3.rd r0).shape
    subst e3
    obtain ⟨nL, HnL⟩ : ∃ n, Hid (L.length = n) := ⟨_, ⟨rfl⟩⟩
    rw [HnL.out] at HO3 hc0
    clear hq3 hO3 hs3 hc3
    go_wp2_with fail
    go_ret2
    exact ⟨_, rfl, HO3.out, Hs3.out, HB3.out⟩
end
end Go.Proofs.Ytiloclekhddkfaa
