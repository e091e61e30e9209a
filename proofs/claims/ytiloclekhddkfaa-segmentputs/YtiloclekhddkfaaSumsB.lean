/- slices.Index and Contains of sums. -/
import Derived.Test.YtiloclekhddkfaaSums
namespace Go.Proofs.Ytiloclekhddkfaa
open Go.RowKit

section
variable {w : World}
set_option maxHeartbeats 2000000 in
set_option maxRecDepth 100000 in
theorem indexs_any (v : Value) (L : List (List Int)) (s : List Int) (h : RdS w v L) (hL : ∀ t ∈ L, Sum32 t) (hs : Sum32 s) (hl : L.length ≤ 10000000000000) : Calls Try.prog 44 #[v, .agg (sc s).toArray] w fun e w' => ∃ r : Int, e = .returned (.int .i64 r) ∧ (0 ≤ r ↔ s ∈ L) ∧ Below w.heap.size w w' := by
  have H := Hid.mk h
  have HL := Hid.mk hL
  have Hs := Hid.mk hs
  obtain ⟨n, Hn⟩ : ∃ n, Hid (L.length = n) := ⟨_, ⟨rfl⟩⟩
  obtain ⟨a0, c0, rfl, _⟩ := h.shape
  rw [Hn.out] at H hl ⊢
  have hbox := run_boxS
  obtain ⟨cs, Hcs⟩ : ∃ cs, Hid ((sc s).toArray = cs) := ⟨_, ⟨rfl⟩⟩
  rw [Hcs.out]
  obtain ⟨w1, Hw1⟩ : ∃ w1, Hid (w.alloc (.cells cs 25) = w1) := ⟨_, ⟨rfl⟩⟩
  have Hat : Hid (At w1 w.heap.size 0 (sc s)) := ⟨by rw [← Hw1.out]; exact At.row (by rw [Hcs.out]; exact heap_alloc_new w _)⟩
  have HB1 : Hid (Below w.heap.size w w1) := ⟨by rw [← Hw1.out]; exact (Below.refl _ w).alloc (Nat.le_refl _) _⟩
  obtain ⟨p, Hp⟩ : ∃ p, Hid (w.heap.size = p) := ⟨_, ⟨rfl⟩⟩
  clear h hL hs
  go_enter Try.func44, Try.ntmps44
  go_upto_region 1 with fail
  rw [Hw1.out, Hp.out]
  rw [Hp.out] at Hat HB1
  go_wp2_with fail
  go_loopg [5, 8] n (fun gg _ s8 wr => ∃ kk : Nat, kk ≤ n ∧ n - kk ≤ gg ∧ s8 = .int .i64 (kk : Int) ∧ Hid (s ∉ L.take kk) ∧ Hid (Chg [] w1 wr))
  case atStart => exact ⟨0, Nat.zero_le _, by omega, rfl, ⟨by simp⟩, ⟨Chg.refl _ _⟩⟩
  case round =>
    obtain ⟨kk, hkk, hgg, rfl, HN, HG⟩ := hrel
    by_cases hlt : kk < n
    · have hltz : (kk : Int) < (n : Int) := by omega
      have hkL : kk < L.length := by rw [Hn.out]; exact hlt
      obtain ⟨b1, o1, c1, e1, hat⟩ := H.out.at hkL
      rw [Hn.out] at e1
      simp at e1
      obtain ⟨rfl, rfl⟩ := e1
      have Ht : Hid (Sum32 (L.getD kk [])) := ⟨HL.out _ (getD_mem' hkL)⟩
      have HTs : Hid (L.take (kk + 1) = L.take kk ++ [L.getD kk []]) := ⟨by rw [List.take_add_one, List.getElem?_eq_getElem hkL]; simp [List.getD, List.getElem?_eq_getElem hkL]⟩
      have Hmem : Hid (L.getD kk [] ∈ L) := ⟨getD_mem' hkL⟩
      have Hat2 : Hid (At wr b1 (o1 + kk * 32) (sc (L.getD kk []))) := ⟨(hat.far (Chg.ofBelow (X := []) (by rw [Hp.out]; exact HB1.out)) (by simp)).far HG.out (by simp)⟩
      have Hat3 : Hid (At wr p 0 (sc s)) := ⟨Hat.out.far HG.out (by simp)⟩
      generalize L.getD kk [] = t at Ht HTs Hat2 Hmem
      have r1 := run_loadS Hat3.out Hs.out
      have r2 := run_loadS Hat2.out Ht.out
      have hq := fun (w : World) => eqS w Hs.out Ht.out
      have hg := fun (w : World) (x y : Operand) (xs ys : Array Value) => guardS w .eql x y xs ys
      obtain ⟨ct, Hct⟩ : ∃ ct, Hid ((sc t).toArray = ct) := ⟨_, ⟨rfl⟩⟩
      obtain ⟨E, HE⟩ : ∃ E, Hid (decide (s = t) = E) := ⟨_, ⟨rfl⟩⟩
      rw [Hcs.out] at r1
      rw [Hct.out] at r2
      simp only [Hcs.out, Hct.out, HE.out] at hq
      have hS0 : (fun w' => (loadVar 25 ⟨p, 0, none⟩).run Try.prog w' = .ok (.agg cs) w' ∧ (loadVar 25 ⟨b1, o1 + kk * 32, none⟩).run Try.prog w' = .ok (.agg ct) w') wr.drew := by
        refine ⟨?_, ?_⟩
        · have q := run_loadS (w := wr.drew) (Hat3.out.far (Chg.refl [] wr).drew (by simp)) Hs.out
          rw [Hcs.out] at q
          exact q
        · have q := run_loadS (w := wr.drew) (Hat2.out.far (Chg.refl [] wr).drew (by simp)) Ht.out
          rw [Hct.out] at q
          exact q
      clear r1 r2 hat
      go_upto_region 4 with fail
      refine wp_region_held_drew (S := (fun w' => (loadVar 25 ⟨p, 0, none⟩).run Try.prog w' = .ok (.agg cs) w' ∧ (loadVar 25 ⟨b1, o1 + kk * 32, none⟩).run Try.prog w' = .ok (.agg ct) w')) (by kernel_rfl) hS0 (fun hS => ?_)
      refine wpAnyH_take (i := 0) (v := .agg cs) rfl (by kernel_rfl) (by kernel_rfl) (by kernel_rfl) (fun _ _ _ h => h) (Or.inl ⟨by kernel_rfl, fun wx hx => exec_load rfl p 0 (by kernel_rfl) hx.1⟩) hS ?_
      refine wpAnyH_take (i := 1) (v := .slice (some ⟨b1, o1, none⟩) n c0) rfl (by kernel_rfl) (by kernel_rfl) (by kernel_rfl) (fun _ _ _ h => h) (Or.inl ⟨by kernel_rfl, fun _ _ => by kernel_rfl⟩) hS ?_
      refine wpAnyH_take (i := 2) (v := .int .i64 (kk : Int)) rfl (by kernel_rfl) (by kernel_rfl) (by kernel_rfl) (fun _ _ _ h => h) (Or.inl ⟨by kernel_rfl, fun _ _ => by kernel_rfl⟩) hS ?_
      refine wpAnyH_take (i := 3) (v := .pointer (some ⟨b1, o1 + kk * 32, none⟩)) rfl (by kernel_rfl) (by kernel_rfl) (by kernel_rfl) (fun _ _ _ h => h) (Or.inl ⟨by kernel_rfl, fun wx hx => by go_simp⟩) hS ?_
      refine wpAnyH_take (i := 4) (v := .agg ct) rfl (by kernel_rfl) (by kernel_rfl) (by kernel_rfl) (fun _ _ _ h => h) (Or.inl ⟨by kernel_rfl, fun wx hx => exec_load rfl b1 (o1 + kk * 32) (by kernel_rfl) hx.2⟩) hS ?_
      refine wpAnyH_take (i := 5) (v := .bool E) rfl (by kernel_rfl) (by kernel_rfl) (by kernel_rfl) (fun _ _ _ h => h) (Or.inl ⟨by kernel_rfl, fun wx hx => by go_simp⟩) hS ?_
      refine wpAnyH_done (by kernel_rfl) ?_ _
      clear hS hS0
      go_simp
      cases E with
      | true =>
        have HM : Hid (s ∈ L) := ⟨by rw [of_decide_eq_true HE.out]; exact Hmem.out⟩
        go_wp2_with fail
        go_ret
        exact ⟨_, rfl, ⟨fun _ => HM.out, fun _ => by omega⟩, by rw [Hp.out]; exact HB1.out.trans ((HG.out.drew.below (B := p) (by rw [← Hp.out]; have := HB1.out.size; rw [Hp.out] at this ⊢; exact this) (by simp)))⟩
      | false =>
        have HM : Hid (s ∉ L.take (kk + 1)) := ⟨by
          rw [HTs.out]
          intro hm
          rcases List.mem_append.1 hm with q | q
          · exact HN.out q
          · exact of_decide_eq_false HE.out (by simpa using q)⟩
        go_wp2_with fail
        go_roundg (n - (kk + 1))
        case measure => omega
        case rel => exact ⟨kk + 1, by omega, by omega, by go_num, HM, ⟨HG.out.drew⟩⟩
    · obtain rfl : kk = n := by omega
      have HM : Hid (s ∉ L) := ⟨by have := HN.out; rwa [List.take_of_length_le (by rw [Hn.out]; exact Nat.le_refl _)] at this⟩
      go_wp2_with fail
      go_ret
      exact ⟨_, rfl, ⟨fun hz => by omega, fun hm => (HM.out hm).elim⟩, by rw [Hp.out]; exact HB1.out.trans (HG.out.below (B := p) (by rw [← Hp.out]; have := HB1.out.size; rw [Hp.out] at this ⊢; exact this) (by simp))⟩
set_option maxHeartbeats 2000000 in
set_option maxRecDepth 100000 in
theorem containss_any (v : Value) (L : List (List Int)) (s : List Int) (h : RdS w v L) (hL : ∀ t ∈ L, Sum32 t) (hs : Sum32 s) (hl : L.length ≤ 10000000000000) : Calls Try.prog 26 #[v, .agg (sc s).toArray] w fun e w' => e = .returned (.bool (decide (s ∈ L))) ∧ Below w.heap.size w w' := by
  have Hs := Hid.mk hs
  obtain ⟨n, Hn⟩ : ∃ n, Hid (L.length = n) := ⟨_, ⟨rfl⟩⟩
  obtain ⟨a0, c0, e0, _⟩ := h.shape
  subst e0
  have hbox := run_boxS
  have Hcs : Hid ((sc s).toArray = (sc s).toArray) := ⟨rfl⟩
  obtain ⟨w1, Hw1⟩ : ∃ w1, Hid (w.alloc (.cells (sc s).toArray 25) = w1) := ⟨_, ⟨rfl⟩⟩
  have Hat : Hid (At w1 w.heap.size 0 (sc s)) := ⟨by rw [← Hw1.out]; exact At.row (heap_alloc_new w _)⟩
  have HB1 : Hid (Below w.heap.size w w1) := ⟨by rw [← Hw1.out]; exact (Below.refl _ w).alloc (Nat.le_refl _) _⟩
  have t1 := indexs_any (w := w1) _ L s (RdE.far h (Chg.ofBelow (X := []) HB1.out) (by simp)) hL hs hl
  rw [Hn.out] at t1 ⊢
  clear h hL hs
  go_enter Try.func26, Try.ntmps26
  go_upto_region 1 with fail
  rw [Hw1.out]
  go_upto_region 2 with (first
    | (refine wp_loadS rfl (.tmp 3) rfl w.heap.size 0 rfl s Hat.out Hs.out ?_)
    | (go_at_call 44; refine t1.mono ?_; rintro e w2 ⟨r, rfl, hr, hb2⟩))
  all_goals skip
  have HB2 : Hid (Below w.heap.size w w2) := ⟨HB1.out.trans (hb2.mono HB1.out.size)⟩
  have HR := Hid.mk hr
  clear hr hb2 t1
  by_cases h0 : 0 ≤ r
  · have HE : Hid (decide (s ∈ L) = true) := ⟨decide_eq_true (HR.out.1 h0)⟩
    go_wp2_with fail
    go_ret
    exact ⟨by rw [HE.out]; rfl, HB2.out⟩
  · have HE : Hid (decide (s ∈ L) = false) := ⟨decide_eq_false (fun hm => h0 (HR.out.2 hm))⟩
    go_wp2_with fail
    go_ret
    exact ⟨by rw [HE.out]; rfl, HB2.out⟩
end
end Go.Proofs.Ytiloclekhddkfaa
