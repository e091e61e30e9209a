/- Take of a tick's bytes. -/
import Derived.Test.YtdcmagdglmmdkaaN8
import Derived.Defers
import Derived.Recover
namespace Go.Proofs.Ytdcmagdglmmdkaa
open Go.RowKit
theorem assert_nil (w : World) : (Instr.typeAssert .nilIface 20 98 true).run Try.prog w = .ok (.tuple #[.int .i64 0, .bool false]) w := by kernel_rfl
set_option maxRecDepth 10000 in
theorem catch_idle (p : Nat) (w : World) :
    CallsD Try.prog 71 #[.pointer (some ⟨p, 0, none⟩)] .returning w fun e u' w' => e = .returned (.tuple #[]) ∧ u' = .returning ∧ w' = w := by
  refine callsD_of_wpS Try.func71 rfl fun c₀ cs hu => ?_
  have ha := assert_nil
  apply wpS_seq
  apply wpS_region
  simp [wpOpsS, go_sem, recoverD, hu, Try.ntmps71, Exit.thenS, ha]
  apply wpS_seq
  apply wpS_region
  simp [wpOpsS, go_sem, Exit.thenS]
  refine wpS_cond (t := false) (by simp [Act.eval, Array.replicate]) ?_
  simp only [Bool.false_eq_true, if_false]
  refine wpS_of_wp (wp_skip ?_)
  cases c₀
  simp_all [bodyPostS, results, Try.results71]
/-- What the step leaves: the list at q. -/
def StepTk (w : World) (p q : Nat) (n : Int) (w' : World) : Prop := ∃ v, w'.heap[q]? = some (.cells #[v] 39 (0, 0)) ∧ OwnE fc 14 35 w' w.heap.size v [n] ∧ Chg [p, q] w w'
section
variable {w : World}
set_option maxHeartbeats 2000000 in
set_option maxRecDepth 100000 in
theorem step_tick {p q : Nat} {v : Value} {bs : List Int} {n j k : Int} (hT : TkAt w p v 0) (hq : w.heap[q]? = some (.cells #[.slice none 0 0] 39 (0, 0))) (hpq : q ≠ p) (hv : Oct.Bs w v bs) (hvb : ∀ g, v.ownBlock = some g → g < w.heap.size ∧ g ≠ p) (hby : ∀ x ∈ bs, 0 ≤ x ∧ x < 256) (h0 : nm bs 0 = .ok (1, j)) (h1 : nm bs j = .ok (8, k)) (h2 : nm bs k = .ok (n, (bs.length : Int))) :
    Calls Try.prog 33 #[.pointer (some ⟨p, 0, none⟩), .pointer (some ⟨q, 0, none⟩)] w fun e w' => e = .returned (.tuple #[]) ∧ StepTk w p q n w' := by
  have t := facts_tick hT hv hvb hby h0 h1 h2
  have Hq := Hid.mk hq
  have Hql : Hid (q < w.heap.size) := ⟨(Array.getElem?_eq_some_iff.1 hq).1⟩
  clear hT hv hq hvb h0 h1 h2
  go_enter Try.func33, Try.ntmps33
  go_wp2_with fail
  refine t.mono ?_
  rintro e w2 ⟨v2, rfl, hO2, hc2⟩
  have HO2 := Hid.mk hO2
  have HC2 := Hid.mk hc2
  have hq2 : w2.heap[q]? = some (.cells #[.slice none 0 0] 39 (0, 0)) := (hc2.block q Hql.out (by simpa using hpq)).trans Hq.out
  have hc0 : w2.cell? ⟨q, 0, none⟩ = some (.slice none 0 0) := by rw [cell_of_row _ _ _ _ _ _ hq2]; rfl
  have hf0 : w2.frozen? ⟨q, 0, none⟩ = false := frozen_of_row w2 q 0 _ 39 hq2
  have Hq2 := Hid.mk hq2
  obtain ⟨a2, c2, e2, _⟩ := (hO2.rd 0).shape
  subst e2
  clear hO2 hc2 hq2 t
  go_wp2_with fail
  go_end0
  refine ⟨rfl, _, heap_setCell_same w2 q 0 _ 39 _ Hq2.out, ?_, ?_⟩
  · exact HO2.out.far ((Chg.refl [q] w2).setCell (.inl (by simp)) _) (fun g hg => by have := (HO2.out.lt g hg).1; have := Hql.out; simp; omega)
  · exact (HC2.out.mono (by simp)).setCell (.inl (by simp)) _
set_option maxHeartbeats 2000000 in
set_option maxRecDepth 100000 in
theorem caught_tick {p q : Nat} {v : Value} {bs : List Int} {n j k : Int} (hT : TkAt w p v 0) (hq : w.heap[q]? = some (.cells #[.slice none 0 0] 39 (0, 0))) (hpq : q ≠ p) (hv : Oct.Bs w v bs) (hvb : ∀ g, v.ownBlock = some g → g < w.heap.size ∧ g ≠ p) (hby : ∀ x ∈ bs, 0 ≤ x ∧ x < 256) (h0 : nm bs 0 = .ok (1, j)) (h1 : nm bs j = .ok (8, k)) (h2 : nm bs k = .ok (n, (bs.length : Int))) :
    Calls Try.prog 32 #[.func (.func 33) #[] #[.pointer (some ⟨p, 0, none⟩), .pointer (some ⟨q, 0, none⟩)]] w fun e w' => e = .returned (.int .i64 0) ∧ StepTk w p q n w' := by
  have hmf : ∀ (fn : Fn) (first cap : Array Value) (w : World), (Instr.makeFunc fn first cap).run Try.prog w = .ok (.func fn first cap) w := fun _ _ _ _ => rfl
  obtain ⟨w1, Hw1⟩ : ∃ w1, Hid (w.alloc (.cells #[.int .i64 0] 36) = w1) := ⟨_, ⟨rfl⟩⟩
  have HB1 : Hid (Below w.heap.size w w1) := ⟨by rw [← Hw1.out]; exact (Below.refl _ w).alloc (Nat.le_refl _) _⟩
  have Hk1 : Hid (w1.heap[w.heap.size]? = some (.cells #[.int .i64 0] 36 (0, 0))) := ⟨by rw [← Hw1.out]; exact heap_alloc_new w _⟩
  have Hpl : Hid (p < w.heap.size) := ⟨hT.lt⟩
  have Hql : Hid (q < w.heap.size) := ⟨(Array.getElem?_eq_some_iff.1 hq).1⟩
  have t := step_tick (w := w1) (p := p) (q := q) (v := v) (bs := bs) (hT.far (Chg.ofBelow (X := []) HB1.out) (by simp)) ((HB1.out.block q Hql.out).trans hq) hpq (hv.below HB1.out) (fun g hg => ⟨Nat.lt_of_lt_of_le (hvb g hg).1 HB1.out.size, (hvb g hg).2⟩) hby h0 h1 h2
  obtain ⟨kb, Hk⟩ : ∃ k, Hid (w.heap.size = k) := ⟨_, ⟨rfl⟩⟩
  clear hT hv hvb hq h0 h1 h2
  go_enter_defers Try.func32, Try.ntmps32
  go_upto_region 1 with fail
  rw [Hw1.out]
  rw [Hk.out] at Hk1 Hpl Hql HB1 ⊢
  go_wp2_with fail
  refine t.mono ?_
  rintro e w2 ⟨rfl, v2, hq2, hO2, hc2⟩
  have hk2 : w2.heap[kb]? = some (.cells #[.int .i64 0] 36 (0, 0)) := (hc2.block kb ((Array.getElem?_eq_some_iff.1 Hk1.out).1) (by simp; have := Hpl.out; have := Hql.out; omega)).trans Hk1.out
  have hck : w2.cell? ⟨kb, 0, none⟩ = some (.int .i64 0) := by rw [cell_of_row _ _ _ _ _ _ hk2]; rfl
  have hfk : w2.frozen? ⟨kb, 0, none⟩ = false := frozen_of_row w2 kb 0 _ 36 hk2
  have HCC : Hid (Chg [p, q] w (w2.setCell ⟨kb, 0, none⟩ (.int .i64 0))) := ⟨((Chg.ofBelow (X := [p, q]) (by rw [Hk.out]; exact HB1.out)).trans hc2).setCell (.inr (by rw [Hk.out]; exact Nat.le_refl _)) _⟩
  have Hq3 : Hid ((w2.setCell ⟨kb, 0, none⟩ (.int .i64 0)).heap[q]? = some (.cells #[v2] 39 (0, 0))) := ⟨by rw [heap_setCell_other w2 ⟨kb, 0, none⟩ q _ (by simp; have := Hql.out; omega)]; exact hq2⟩
  have Hk1s : Hid (kb < w1.heap.size) := ⟨(Array.getElem?_eq_some_iff.1 Hk1.out).1⟩
  have HO3 : Hid (OwnE fc 14 35 (w2.setCell ⟨kb, 0, none⟩ (.int .i64 0)) w.heap.size v2 [n]) := ⟨OwnE.base (hO2.far ((Chg.refl [kb] w2).setCell (.inl (by simp)) _) (fun g hg => by have := (hO2.lt g hg).1; have := Hk1s.out; simp; omega)) (by rw [Hk.out]; exact Nat.le_of_lt Hk1s.out)⟩
  have hc' : (w2.setCell ⟨kb, 0, none⟩ (.int .i64 0)).cell? ⟨kb, 0, none⟩ = some (.int .i64 0) := by rw [cell_of_row _ _ _ _ _ _ (heap_setCell_same w2 kb 0 _ 36 _ hk2)]; rfl
  clear hq2 hO2 hc2 t
  go_wp2_with fail
  refine leaves_cons (f := 71) (args := #[.pointer (some ⟨kb, 0, none⟩)]) (by simp) (by simp [go_sem]) ?_
  refine (catch_idle kb _).mono ?_
  rintro e u' w'' ⟨rfl, rfl, rfl⟩
  simp [Leaves, settle, results, Try.results32, go_sem, hc']
  exact ⟨v2, Hq3.out, HO3.out, HCC.out⟩
set_option maxHeartbeats 2000000 in
set_option maxRecDepth 100000 in
theorem take_tick {v : Value} {bs : List Int} {n j k : Int} (hv : Oct.Bs w v bs) (hvb : ∀ g, v.ownBlock = some g → g < w.heap.size) (hby : ∀ x ∈ bs, 0 ≤ x ∧ x < 256) (h0 : nm bs 0 = .ok (1, j)) (h1 : nm bs j = .ok (8, k)) (h2 : nm bs k = .ok (n, (bs.length : Int))) :
    Calls Try.prog 15 #[v] w fun e w' => ∃ v', e = .returned (.tuple #[v', .int .i64 0]) ∧ OwnE fc 14 35 w' w.heap.size v' [n] ∧ Below w.heap.size w w' := by
  have hmf : ∀ (fn : Fn) (first cap : Array Value) (w : World), (Instr.makeFunc fn first cap).run Try.prog w = .ok (.func fn first cap) w := fun _ _ _ _ => rfl
  have hv0 := hv
  obtain ⟨av, cv, rfl, _⟩ := hv
  obtain ⟨nb, Hnb⟩ : ∃ n, Hid (bs.length = n) := ⟨_, ⟨rfl⟩⟩
  rw [Hnb.out] at hv0 hvb ⊢
  obtain ⟨w2, Hw2⟩ : ∃ w2, Hid ((w.alloc (.cells #[.slice av nb cv, .int .i64 0] 76)).alloc (.cells #[.slice none 0 0] 39) = w2) := ⟨_, ⟨rfl⟩⟩
  have HB2 : Hid (Below w.heap.size w w2) := ⟨by rw [← Hw2.out]; exact ((Below.refl _ w).alloc (Nat.le_refl _) _).alloc (by simp) _⟩
  have HT2 : Hid (TkAt w2 w.heap.size (.slice av nb cv) 0) := ⟨⟨by rw [← Hw2.out, Below.heap_alloc _ _ _ (by simp)]; exact heap_alloc_new w _⟩⟩
  have Hq2 : Hid (w2.heap[w.heap.size + 1]? = some (.cells #[.slice none 0 0] 39 (0, 0))) := ⟨by rw [← Hw2.out]; have := heap_alloc_new (w.alloc (.cells #[.slice av nb cv, .int .i64 0] 76)) (.cells #[.slice none 0 0] 39 (0, 0)); simpa using this⟩
  have t := caught_tick (w := w2) (p := w.heap.size) (q := w.heap.size + 1) (v := .slice av nb cv) (bs := bs) HT2.out Hq2.out (by omega) (hv0.below HB2.out) (fun g hg => ⟨Nat.lt_of_lt_of_le (hvb g hg) HB2.out.size, by have := hvb g hg; omega⟩) hby h0 h1 h2
  clear hv0 hvb h0 h1 h2
  go_enter Try.func15, Try.ntmps15
  go_upto_region 3 with fail
  rw [Hw2.out]
  go_upto_region 4 with (go_at_call 32; refine t.mono ?_; rintro e w3 ⟨rfl, v3, hq3, hO3, hc3⟩; clear t)
  obtain ⟨a3, c3, rfl, _⟩ := (hO3.rd 0).shape
  have hcq : w3.cell? ⟨w.heap.size + 1, 0, none⟩ = some (.slice a3 [n].length c3) := by rw [cell_of_row _ _ _ _ _ _ hq3]; rfl
  have HO3 : Hid (OwnE fc 14 35 w3 w.heap.size (.slice a3 [n].length c3) [n]) := ⟨OwnE.base hO3 HB2.out.size⟩
  have HB3 : Hid (Below w.heap.size w w3) := ⟨HB2.out.trans (hc3.below HB2.out.size (fun x hx => by simp at hx; omega))⟩
  clear hq3 hO3 hc3
  go_wp2_with fail
  go_ret2
  exact ⟨_, rfl, HO3.out, HB3.out⟩
end
end Go.Proofs.Ytdcmagdglmmdkaa
