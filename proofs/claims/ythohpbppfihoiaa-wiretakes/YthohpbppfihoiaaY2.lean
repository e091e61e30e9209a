/- The document's Same, of notes that are the same. -/
import Derived.Test.YthohpbppfihoiaaY1
namespace Go.Proofs.Ythohpbppfihoiaa
open Go.RowKit Go.Lib

section
variable {w : World}
set_option maxHeartbeats 8000000 in
set_option maxRecDepth 100000 in
theorem same14 (n : Nt) (ha pa ba ha2 pa2 ba2 : Option Addr) (hc pc bc hc2 pc2 bc2 : Nat) (hH : RdE he 2 h0 w (.slice ha n.H.length hc) n.H) (hP : RdE pe 33 p0 w (.slice pa n.P.length pc) n.P) (hb : Oct.Bs w (.slice ba n.bs.length bc) n.bs) (hH2 : RdE he 2 h0 w (.slice ha2 n.H.length hc2) n.H) (hP2 : RdE pe 33 p0 w (.slice pa2 n.P.length pc2) n.P) (hb2 : Oct.Bs w (.slice ba2 n.bs.length bc2) n.bs) (hs : ∀ p ∈ n.P, Sum32 p.1) :
    Calls Try.prog 14 #[.agg (na n.s n.nm n.g n.i (.slice ha n.H.length hc) (.slice pa n.P.length pc) (.slice ba n.bs.length bc)), .agg (na n.s n.nm n.g n.i (.slice ha2 n.H.length hc2) (.slice pa2 n.P.length pc2) (.slice ba2 n.bs.length bc2))] w fun e w' => e = .returned (.bool true) ∧ Below w.heap.size w w' := by
  obtain ⟨s, nm, g, i, H, P, bs⟩ := n
  simp only at hH hP hb hH2 hP2 hb2 hs ⊢
  obtain ⟨hn, HHn⟩ : ∃ x, Hid (H.length = x) := ⟨_, ⟨rfl⟩⟩
  obtain ⟨pn, HPn⟩ : ∃ x, Hid (P.length = x) := ⟨_, ⟨rfl⟩⟩
  obtain ⟨bn, HBn⟩ : ∃ x, Hid (bs.length = x) := ⟨_, ⟨rfl⟩⟩
  rw [HHn.out] at hH hH2 ⊢
  rw [HPn.out] at hP hP2 ⊢
  rw [HBn.out] at hb hb2 ⊢
  obtain ⟨q, Hq⟩ : ∃ q, Hid (w.heap.size = q) := ⟨_, ⟨rfl⟩⟩
  obtain ⟨A, HA⟩ : ∃ x, Hid (na s nm g i (.slice ha hn hc) (.slice pa pn pc) (.slice ba bn bc) = x) := ⟨_, ⟨rfl⟩⟩
  obtain ⟨A2, HA2⟩ : ∃ x, Hid (na s nm g i (.slice ha2 hn hc2) (.slice pa2 pn pc2) (.slice ba2 bn bc2) = x) := ⟨_, ⟨rfl⟩⟩
  obtain ⟨wa, Hwa⟩ : ∃ x, Hid (w.alloc (.cells A 27) = x) := ⟨_, ⟨rfl⟩⟩
  obtain ⟨r, Hr⟩ : ∃ q, Hid (wa.heap.size = q) := ⟨_, ⟨rfl⟩⟩
  obtain ⟨w1, Hw1⟩ : ∃ x, Hid (wa.alloc (.cells A2 27) = x) := ⟨_, ⟨rfl⟩⟩
  have HBa : Hid (Below w.heap.size w wa) := ⟨by rw [← Hwa.out]; exact (Below.refl _ w).alloc (Nat.le_refl _) _⟩
  have HBb : Hid (Below wa.heap.size wa w1) := ⟨by rw [← Hw1.out]; exact (Below.refl _ wa).alloc (Nat.le_refl _) _⟩
  have HB1 : Hid (Below w.heap.size w w1) := ⟨HBa.out.trans (HBb.out.mono HBa.out.size)⟩
  have HXa : Hid (wa.heap[q]? = some (.cells A 27 (0, 0))) := ⟨by rw [← Hwa.out, ← Hq.out]; exact heap_alloc_new w _⟩
  have HX1 : Hid (w1.heap[q]? = some (.cells A 27 (0, 0))) := ⟨(HBb.out.block q (Array.getElem?_eq_some_iff.1 HXa.out).1).trans HXa.out⟩
  have HY1 : Hid (w1.heap[r]? = some (.cells A2 27 (0, 0))) := ⟨by rw [← Hw1.out, ← Hr.out]; exact heap_alloc_new wa _⟩
  have HXx : Hid (∀ wx, Below w1.heap.size w1 wx → wx.heap[q]? = some (.cells A 27 (0, 0))) := ⟨fun wx h => (h.block q (Array.getElem?_eq_some_iff.1 HX1.out).1).trans HX1.out⟩
  have HXy : Hid (∀ wx, Below w1.heap.size w1 wx → wx.heap[r]? = some (.cells A2 27 (0, 0))) := ⟨fun wx h => (h.block r (Array.getElem?_eq_some_iff.1 HY1.out).1).trans HY1.out⟩
  have HHx : Hid (∀ wx, Below w1.heap.size w1 wx → RdE he 2 h0 wx (.slice ha hn hc) H) := ⟨fun wx h => hH.far (Chg.ofBelow (X := []) (HB1.out.trans (h.mono HB1.out.size))) (by simp)⟩
  have HPx : Hid (∀ wx, Below w1.heap.size w1 wx → RdE pe 33 p0 wx (.slice pa pn pc) P) := ⟨fun wx h => hP.far (Chg.ofBelow (X := []) (HB1.out.trans (h.mono HB1.out.size))) (by simp)⟩
  have HHy : Hid (∀ wx, Below w1.heap.size w1 wx → RdE he 2 h0 wx (.slice ha2 hn hc2) H) := ⟨fun wx h => hH2.far (Chg.ofBelow (X := []) (HB1.out.trans (h.mono HB1.out.size))) (by simp)⟩
  have HPy : Hid (∀ wx, Below w1.heap.size w1 wx → RdE pe 33 p0 wx (.slice pa2 pn pc2) P) := ⟨fun wx h => hP2.far (Chg.ofBelow (X := []) (HB1.out.trans (h.mono HB1.out.size))) (by simp)⟩
  have HS32 := Hid.mk hs
  obtain ⟨S, HSd⟩ : ∃ S, Hid (strOfNums bs = S) := ⟨_, ⟨rfl⟩⟩
  have hcv1 : (convert 25 9 (.slice ba bn bc)).run Try.prog w1 = .ok (.string S) w1 := by rw [← HSd.out]; exact bs_str (hb.below HB1.out)
  have hcv2 : (convert 25 9 (.slice ba2 bn bc2)).run Try.prog w1 = .ok (.string S) w1 := by rw [← HSd.out]; exact bs_str (hb2.below HB1.out)
  have y0 : w1.cell? ⟨q, 0, none⟩ = some (.int .i64 s) := by rw [cell_of_row _ _ _ _ _ _ HX1.out, ← HA.out]; rfl
  have y1 : w1.cell? ⟨q, 1, none⟩ = some (.string nm) := by rw [cell_of_row _ _ _ _ _ _ HX1.out, ← HA.out]; rfl
  have y2 : w1.cell? ⟨q, 2, none⟩ = some (.int .i64 g) := by rw [cell_of_row _ _ _ _ _ _ HX1.out, ← HA.out]; rfl
  have y3 : w1.cell? ⟨q, 3, none⟩ = some (.int .i64 i) := by rw [cell_of_row _ _ _ _ _ _ HX1.out, ← HA.out]; rfl
  have y4 : w1.cell? ⟨q, 4, none⟩ = some (.slice ha hn hc) := by rw [cell_of_row _ _ _ _ _ _ HX1.out, ← HA.out]; rfl
  have y5 : w1.cell? ⟨q, 5, none⟩ = some (.slice pa pn pc) := by rw [cell_of_row _ _ _ _ _ _ HX1.out, ← HA.out]; rfl
  have y6 : w1.cell? ⟨q, 6, none⟩ = some (.slice ba bn bc) := by rw [cell_of_row _ _ _ _ _ _ HX1.out, ← HA.out]; rfl
  have z0 : w1.cell? ⟨r, 0, none⟩ = some (.int .i64 s) := by rw [cell_of_row _ _ _ _ _ _ HY1.out, ← HA2.out]; rfl
  have z1 : w1.cell? ⟨r, 1, none⟩ = some (.string nm) := by rw [cell_of_row _ _ _ _ _ _ HY1.out, ← HA2.out]; rfl
  have z2 : w1.cell? ⟨r, 2, none⟩ = some (.int .i64 g) := by rw [cell_of_row _ _ _ _ _ _ HY1.out, ← HA2.out]; rfl
  have z3 : w1.cell? ⟨r, 3, none⟩ = some (.int .i64 i) := by rw [cell_of_row _ _ _ _ _ _ HY1.out, ← HA2.out]; rfl
  have z4 : w1.cell? ⟨r, 4, none⟩ = some (.slice ha2 hn hc2) := by rw [cell_of_row _ _ _ _ _ _ HY1.out, ← HA2.out]; rfl
  have z5 : w1.cell? ⟨r, 5, none⟩ = some (.slice pa2 pn pc2) := by rw [cell_of_row _ _ _ _ _ _ HY1.out, ← HA2.out]; rfl
  have z6 : w1.cell? ⟨r, 6, none⟩ = some (.slice ba2 bn bc2) := by rw [cell_of_row _ _ _ _ _ _ HY1.out, ← HA2.out]; rfl
  clear hH hP hb hH2 hP2 hb2 hs
  rw [HA.out, HA2.out]
  go_enter Try.func14, Try.ntmps14
  go_upto_region 1 with (first | (refine wp_box rfl 27 (.tmp 0) rfl A rfl ?_; rw [Hwa.out, Hq.out]) | (refine wp_box rfl 27 (.tmp 1) rfl A2 rfl ?_; rw [Hw1.out, Hr.out]))
  go_upto_region 3 with fail
  clear hcv1 hcv2 y0 z0 y1 z1 y2 z2 y3 z3 y4 z4 y5 z5 y6 z6
  go_wp2_with fail
  go_loopg [5] hn (fun gg s wr => ∃ k : Nat, k ≤ hn ∧ hn - k ≤ gg ∧ s = .int .i64 (k : Int) ∧ Hid (Below w1.heap.size w1 wr))
  case atStart => exact ⟨0, Nat.zero_le _, by omega, rfl, ⟨Below.refl _ _⟩⟩
  case round =>
    obtain ⟨k, hk, hgg, rfl, HB⟩ := hrel
    rename World => wo
    have y4 : wo.cell? ⟨q, 4, none⟩ = some (.slice ha hn hc) := by rw [cell_of_row _ _ _ _ _ _ (HXx.out wo HB.out), ← HA.out]; rfl
    have z4 : wo.cell? ⟨r, 4, none⟩ = some (.slice ha2 hn hc2) := by rw [cell_of_row _ _ _ _ _ _ (HXy.out wo HB.out), ← HA2.out]; rfl
    have y5 : wo.cell? ⟨q, 5, none⟩ = some (.slice pa pn pc) := by rw [cell_of_row _ _ _ _ _ _ (HXx.out wo HB.out), ← HA.out]; rfl
    have z5 : wo.cell? ⟨r, 5, none⟩ = some (.slice pa2 pn pc2) := by rw [cell_of_row _ _ _ _ _ _ (HXy.out wo HB.out), ← HA2.out]; rfl
    by_cases hlt : k < hn
    · have hltz : (k : Int) < (hn : Int) := by omega
      have hkL : k < H.length := by rw [HHn.out]; exact hlt
      obtain ⟨wd, Hwd⟩ : ∃ x, Hid (wo.drew = x) := ⟨_, ⟨rfl⟩⟩
      have HBd : Hid (Below w1.heap.size w1 wd) := ⟨by rw [← Hwd.out]; exact ⟨HB.out.os, HB.out.tape, HB.out.output, HB.out.size, HB.out.block⟩⟩
      have R1 := HHx.out wd HBd.out
      have R2 := HHy.out wd HBd.out
      obtain ⟨b1, o1, d1, e1, hat1⟩ := R1.at' k hkL
      obtain ⟨b2, o2, d2, e2, hat2⟩ := R2.at' k hkL
      have hx1 := R1.each _ (getD_mem' (d := h0) hkL)
      have hcm : hc ≤ 9223372036854775807 := by
        obtain ⟨_, _, e, _, h2, _⟩ := R1.shape
        simp only [Value.slice.injEq] at e
        rw [e.2.2]; exact h2
      have hcn : hn ≤ hc := by
        obtain ⟨_, _, e, h2, _, _⟩ := R1.shape
        simp only [Value.slice.injEq] at e
        rw [e.2.2, ← HHn.out]; exact h2
      have hcm2 : hc2 ≤ 9223372036854775807 := by
        obtain ⟨_, _, e, _, h2, _⟩ := R2.shape
        simp only [Value.slice.injEq] at e
        rw [e.2.2]; exact h2
      have hcn2 : hn ≤ hc2 := by
        obtain ⟨_, _, e, h2, _, _⟩ := R2.shape
        simp only [Value.slice.injEq] at e
        rw [e.2.2, ← HHn.out]; exact h2
      rw [HHn.out] at e1 e2
      simp only [Value.slice.injEq] at e1 e2
      obtain ⟨rfl, -, rfl⟩ := e1
      obtain ⟨rfl, -, rfl⟩ := e2
      generalize H.getD k h0 = x at hat1 hat2 hx1
      have q1 : (loadVar 46 ⟨b1, o1 + k * 2, none⟩).run Try.prog wd = .ok (.agg (he x).toArray) wd := run_loadA 46 wd b1 (o1 + k * 2) (he x) _ (fun j v hv => by have hj : j < 2 := (by have := (List.getElem?_eq_some_iff.1 hv).1; rw [hx1.1] at this; exact this); rw [hat1 j hj]; exact hv) Try.underlying46 rfl (by rw [hx1.1]; exact info46)
      have q2 : (loadVar 46 ⟨b2, o2 + k * 2, none⟩).run Try.prog wd = .ok (.agg (he x).toArray) wd := run_loadA 46 wd b2 (o2 + k * 2) (he x) _ (fun j v hv => by have hj : j < 2 := (by have := (List.getElem?_eq_some_iff.1 hv).1; rw [hx1.1] at this; exact this); rw [hat2 j hj]; exact hv) Try.underlying46 rfl (by rw [hx1.1]; exact info46)
      have hq := fun (w : World) => ne46 w x
      have hg := fun (w : World) (x y : Operand) (xs ys : Array Value) => guard46 w .neq x y xs ys
      obtain ⟨cs, Hcs⟩ : ∃ cs, Hid ((he x).toArray = cs) := ⟨_, ⟨rfl⟩⟩
      rw [Hcs.out] at q1 q2
      simp only [Hcs.out] at hq
      have hS0 : (fun w' : World => w'.cell? ⟨q, 4, none⟩ = some (.slice (some ⟨b1, o1, none⟩) hn hc) ∧ w'.cell? ⟨r, 4, none⟩ = some (.slice (some ⟨b2, o2, none⟩) hn hc2) ∧ (loadVar 46 ⟨b1, o1 + k * 2, none⟩).run Try.prog w' = .ok (.agg cs) w' ∧ (loadVar 46 ⟨b2, o2 + k * 2, none⟩).run Try.prog w' = .ok (.agg cs) w') wo.drew := by
        rw [Hwd.out]
        exact ⟨by rw [cell_of_row _ _ _ _ _ _ (HXx.out wd HBd.out), ← HA.out]; rfl, by rw [cell_of_row _ _ _ _ _ _ (HXy.out wd HBd.out), ← HA2.out]; rfl, q1, q2⟩
      clear hat1 hat2 q1 q2 hx1 R1 R2
      go_upto_region 6 with fail
      clear y4 y5 z4 z5
      refine wp_region_held_drew (S := (fun w' : World => w'.cell? ⟨q, 4, none⟩ = some (.slice (some ⟨b1, o1, none⟩) hn hc) ∧ w'.cell? ⟨r, 4, none⟩ = some (.slice (some ⟨b2, o2, none⟩) hn hc2) ∧ (loadVar 46 ⟨b1, o1 + k * 2, none⟩).run Try.prog w' = .ok (.agg cs) w' ∧ (loadVar 46 ⟨b2, o2 + k * 2, none⟩).run Try.prog w' = .ok (.agg cs) w')) (by kernel_rfl) hS0 (fun hS => ?_)
      refine wpAnyH_take (i := 0) (v := .pointer (some ⟨q, 4, none⟩)) rfl (by kernel_rfl) (by kernel_rfl) (by kernel_rfl) (fun _ _ _ h => h) (Or.inl ⟨by kernel_rfl, fun wx hx => by go_simp⟩) hS ?_
      refine wpAnyH_take (i := 1) (v := .slice (some ⟨b1, o1, none⟩) hn hc) rfl (by kernel_rfl) (by kernel_rfl) (by kernel_rfl) (fun _ _ _ h => h) (Or.inl ⟨by kernel_rfl, fun wx hx => by obtain ⟨hx1, hx2, hx3, hx4⟩ := hx; go_simp⟩) hS ?_
      refine wpAnyH_take (i := 2) (v := .int .i64 (k : Int)) rfl (by kernel_rfl) (by kernel_rfl) (by kernel_rfl) (fun _ _ _ h => h) (Or.inl ⟨by kernel_rfl, fun _ _ => by kernel_rfl⟩) hS ?_
      refine wpAnyH_take (i := 3) (v := .pointer (some ⟨b1, o1 + k * 2, none⟩)) rfl (by kernel_rfl) (by kernel_rfl) (by kernel_rfl) (fun _ _ _ h => h) (Or.inl ⟨by kernel_rfl, fun wx hx => by go_simp⟩) hS ?_
      refine wpAnyH_take (i := 4) (v := .agg cs) rfl (by kernel_rfl) (by kernel_rfl) (by kernel_rfl) (fun _ _ _ h => h) (Or.inl ⟨by kernel_rfl, fun wx hx => exec_load rfl b1 (o1 + k * 2) (by kernel_rfl) hx.2.2.1⟩) hS ?_
      refine wpAnyH_take (i := 5) (v := .pointer (some ⟨r, 4, none⟩)) rfl (by kernel_rfl) (by kernel_rfl) (by kernel_rfl) (fun _ _ _ h => h) (Or.inl ⟨by kernel_rfl, fun wx hx => by go_simp⟩) hS ?_
      refine wpAnyH_take (i := 6) (v := .slice (some ⟨b2, o2, none⟩) hn hc2) rfl (by kernel_rfl) (by kernel_rfl) (by kernel_rfl) (fun _ _ _ h => h) (Or.inl ⟨by kernel_rfl, fun wx hx => by obtain ⟨hx1, hx2, hx3, hx4⟩ := hx; go_simp⟩) hS ?_
      refine wpAnyH_take (i := 7) (v := .int .i64 (k : Int)) rfl (by kernel_rfl) (by kernel_rfl) (by kernel_rfl) (fun _ _ _ h => h) (Or.inl ⟨by kernel_rfl, fun _ _ => by kernel_rfl⟩) hS ?_
      refine wpAnyH_take (i := 8) (v := .pointer (some ⟨b2, o2 + k * 2, none⟩)) rfl (by kernel_rfl) (by kernel_rfl) (by kernel_rfl) (fun _ _ _ h => h) (Or.inl ⟨by kernel_rfl, fun wx hx => by go_simp⟩) hS ?_
      refine wpAnyH_take (i := 9) (v := .agg cs) rfl (by kernel_rfl) (by kernel_rfl) (by kernel_rfl) (fun _ _ _ h => h) (Or.inl ⟨by kernel_rfl, fun wx hx => exec_load rfl b2 (o2 + k * 2) (by kernel_rfl) hx.2.2.2⟩) hS ?_
      refine wpAnyH_take (i := 10) (v := .bool false) rfl (by kernel_rfl) (by kernel_rfl) (by kernel_rfl) (fun _ _ _ h => h) (Or.inl ⟨by kernel_rfl, fun wx hx => by go_simp⟩) hS ?_
      refine wpAnyH_done (by kernel_rfl) ?_ _
      clear hS hS0
      go_simp
      rw [Hwd.out]
      go_wp2_with fail
      go_roundg (hn - (k + 1))
      case measure => omega
      case rel => exact ⟨k + 1, by omega, by omega, by go_num, HBd⟩
    · obtain rfl : hn = k := by omega
      have hltz : ¬ (hn : Int) < (hn : Int) := by omega
      go_wp2_with fail
      go_loopg [6] pn (fun gg s wr => ∃ k : Nat, k ≤ pn ∧ pn - k ≤ gg ∧ s = .int .i64 (k : Int) ∧ Hid (Below w1.heap.size w1 wr))
      case atStart => exact ⟨0, Nat.zero_le _, by omega, rfl, HB⟩
      case round =>
        obtain ⟨k, hk, hgg, rfl, HB⟩ := hrel
        rename World => wo
        have y4 : wo.cell? ⟨q, 4, none⟩ = some (.slice ha hn hc) := by rw [cell_of_row _ _ _ _ _ _ (HXx.out wo HB.out), ← HA.out]; rfl
        have z4 : wo.cell? ⟨r, 4, none⟩ = some (.slice ha2 hn hc2) := by rw [cell_of_row _ _ _ _ _ _ (HXy.out wo HB.out), ← HA2.out]; rfl
        have y5 : wo.cell? ⟨q, 5, none⟩ = some (.slice pa pn pc) := by rw [cell_of_row _ _ _ _ _ _ (HXx.out wo HB.out), ← HA.out]; rfl
        have z5 : wo.cell? ⟨r, 5, none⟩ = some (.slice pa2 pn pc2) := by rw [cell_of_row _ _ _ _ _ _ (HXy.out wo HB.out), ← HA2.out]; rfl
        by_cases hlt : k < pn
        · have hltz : (k : Int) < (pn : Int) := by omega
          have hkL : k < P.length := by rw [HPn.out]; exact hlt
          obtain ⟨wd, Hwd⟩ : ∃ x, Hid (wo.drew = x) := ⟨_, ⟨rfl⟩⟩
          have HBd : Hid (Below w1.heap.size w1 wd) := ⟨by rw [← Hwd.out]; exact ⟨HB.out.os, HB.out.tape, HB.out.output, HB.out.size, HB.out.block⟩⟩
          have R1 := HPx.out wd HBd.out
          have R2 := HPy.out wd HBd.out
          obtain ⟨b1, o1, d1, e1, hat1⟩ := R1.at' k hkL
          obtain ⟨b2, o2, d2, e2, hat2⟩ := R2.at' k hkL
          have hx1 := R1.each _ (getD_mem' (d := p0) hkL)
          have hsm := HS32.out _ (getD_mem' (d := p0) hkL)
          have hcm : pc ≤ 9223372036854775807 := by
            obtain ⟨_, _, e, _, h2, _⟩ := R1.shape
            simp only [Value.slice.injEq] at e
            rw [e.2.2]; exact h2
          have hcn : pn ≤ pc := by
            obtain ⟨_, _, e, h2, _, _⟩ := R1.shape
            simp only [Value.slice.injEq] at e
            rw [e.2.2, ← HPn.out]; exact h2
          have hcm2 : pc2 ≤ 9223372036854775807 := by
            obtain ⟨_, _, e, _, h2, _⟩ := R2.shape
            simp only [Value.slice.injEq] at e
            rw [e.2.2]; exact h2
          have hcn2 : pn ≤ pc2 := by
            obtain ⟨_, _, e, h2, _, _⟩ := R2.shape
            simp only [Value.slice.injEq] at e
            rw [e.2.2, ← HPn.out]; exact h2
          rw [HPn.out] at e1 e2
          simp only [Value.slice.injEq] at e1 e2
          obtain ⟨rfl, -, rfl⟩ := e1
          obtain ⟨rfl, -, rfl⟩ := e2
          generalize P.getD k p0 = x at hat1 hat2 hx1 hsm
          have q1 : (loadVar 49 ⟨b1, o1 + k * 33, none⟩).run Try.prog wd = .ok (.agg (pe x).toArray) wd := run_loadA 49 wd b1 (o1 + k * 33) (pe x) _ (fun j v hv => by have hj : j < 33 := (by have := (List.getElem?_eq_some_iff.1 hv).1; rw [hx1.1] at this; exact this); rw [hat1 j hj]; exact hv) Try.underlying49 rfl (by rw [hx1.1]; exact info49)
          have q2 : (loadVar 49 ⟨b2, o2 + k * 33, none⟩).run Try.prog wd = .ok (.agg (pe x).toArray) wd := run_loadA 49 wd b2 (o2 + k * 33) (pe x) _ (fun j v hv => by have hj : j < 33 := (by have := (List.getElem?_eq_some_iff.1 hv).1; rw [hx1.1] at this; exact this); rw [hat2 j hj]; exact hv) Try.underlying49 rfl (by rw [hx1.1]; exact info49)
          have hq := fun (w : World) => ne49 w x hsm
          have hg := fun (w : World) (x y : Operand) (xs ys : Array Value) => guard49 w .neq x y xs ys
          obtain ⟨cs, Hcs⟩ : ∃ cs, Hid ((pe x).toArray = cs) := ⟨_, ⟨rfl⟩⟩
          rw [Hcs.out] at q1 q2
          simp only [Hcs.out] at hq
          have hS0 : (fun w' : World => w'.cell? ⟨q, 5, none⟩ = some (.slice (some ⟨b1, o1, none⟩) pn pc) ∧ w'.cell? ⟨r, 5, none⟩ = some (.slice (some ⟨b2, o2, none⟩) pn pc2) ∧ (loadVar 49 ⟨b1, o1 + k * 33, none⟩).run Try.prog w' = .ok (.agg cs) w' ∧ (loadVar 49 ⟨b2, o2 + k * 33, none⟩).run Try.prog w' = .ok (.agg cs) w') wo.drew := by
            rw [Hwd.out]
            exact ⟨by rw [cell_of_row _ _ _ _ _ _ (HXx.out wd HBd.out), ← HA.out]; rfl, by rw [cell_of_row _ _ _ _ _ _ (HXy.out wd HBd.out), ← HA2.out]; rfl, q1, q2⟩
          clear hat1 hat2 q1 q2 hx1 R1 R2 hsm
          go_upto_region 11 with fail
          clear y4 y5 z4 z5
          refine wp_region_held_drew (S := (fun w' : World => w'.cell? ⟨q, 5, none⟩ = some (.slice (some ⟨b1, o1, none⟩) pn pc) ∧ w'.cell? ⟨r, 5, none⟩ = some (.slice (some ⟨b2, o2, none⟩) pn pc2) ∧ (loadVar 49 ⟨b1, o1 + k * 33, none⟩).run Try.prog w' = .ok (.agg cs) w' ∧ (loadVar 49 ⟨b2, o2 + k * 33, none⟩).run Try.prog w' = .ok (.agg cs) w')) (by kernel_rfl) hS0 (fun hS => ?_)
          refine wpAnyH_take (i := 0) (v := .pointer (some ⟨q, 5, none⟩)) rfl (by kernel_rfl) (by kernel_rfl) (by kernel_rfl) (fun _ _ _ h => h) (Or.inl ⟨by kernel_rfl, fun wx hx => by go_simp⟩) hS ?_
          refine wpAnyH_take (i := 1) (v := .slice (some ⟨b1, o1, none⟩) pn pc) rfl (by kernel_rfl) (by kernel_rfl) (by kernel_rfl) (fun _ _ _ h => h) (Or.inl ⟨by kernel_rfl, fun wx hx => by obtain ⟨hx1, hx2, hx3, hx4⟩ := hx; go_simp⟩) hS ?_
          refine wpAnyH_take (i := 2) (v := .int .i64 (k : Int)) rfl (by kernel_rfl) (by kernel_rfl) (by kernel_rfl) (fun _ _ _ h => h) (Or.inl ⟨by kernel_rfl, fun _ _ => by kernel_rfl⟩) hS ?_
          refine wpAnyH_take (i := 3) (v := .pointer (some ⟨b1, o1 + k * 33, none⟩)) rfl (by kernel_rfl) (by kernel_rfl) (by kernel_rfl) (fun _ _ _ h => h) (Or.inl ⟨by kernel_rfl, fun wx hx => by go_simp⟩) hS ?_
          refine wpAnyH_take (i := 4) (v := .agg cs) rfl (by kernel_rfl) (by kernel_rfl) (by kernel_rfl) (fun _ _ _ h => h) (Or.inl ⟨by kernel_rfl, fun wx hx => exec_load rfl b1 (o1 + k * 33) (by kernel_rfl) hx.2.2.1⟩) hS ?_
          refine wpAnyH_take (i := 5) (v := .pointer (some ⟨r, 5, none⟩)) rfl (by kernel_rfl) (by kernel_rfl) (by kernel_rfl) (fun _ _ _ h => h) (Or.inl ⟨by kernel_rfl, fun wx hx => by go_simp⟩) hS ?_
          refine wpAnyH_take (i := 6) (v := .slice (some ⟨b2, o2, none⟩) pn pc2) rfl (by kernel_rfl) (by kernel_rfl) (by kernel_rfl) (fun _ _ _ h => h) (Or.inl ⟨by kernel_rfl, fun wx hx => by obtain ⟨hx1, hx2, hx3, hx4⟩ := hx; go_simp⟩) hS ?_
          refine wpAnyH_take (i := 7) (v := .int .i64 (k : Int)) rfl (by kernel_rfl) (by kernel_rfl) (by kernel_rfl) (fun _ _ _ h => h) (Or.inl ⟨by kernel_rfl, fun _ _ => by kernel_rfl⟩) hS ?_
          refine wpAnyH_take (i := 8) (v := .pointer (some ⟨b2, o2 + k * 33, none⟩)) rfl (by kernel_rfl) (by kernel_rfl) (by kernel_rfl) (fun _ _ _ h => h) (Or.inl ⟨by kernel_rfl, fun wx hx => by go_simp⟩) hS ?_
          refine wpAnyH_take (i := 9) (v := .agg cs) rfl (by kernel_rfl) (by kernel_rfl) (by kernel_rfl) (fun _ _ _ h => h) (Or.inl ⟨by kernel_rfl, fun wx hx => exec_load rfl b2 (o2 + k * 33) (by kernel_rfl) hx.2.2.2⟩) hS ?_
          refine wpAnyH_take (i := 10) (v := .bool false) rfl (by kernel_rfl) (by kernel_rfl) (by kernel_rfl) (fun _ _ _ h => h) (Or.inl ⟨by kernel_rfl, fun wx hx => by go_simp⟩) hS ?_
          refine wpAnyH_done (by kernel_rfl) ?_ _
          clear hS hS0
          go_simp
          rw [Hwd.out]
          go_wp2_with fail
          go_roundg (pn - (k + 1))
          case measure => omega
          case rel => exact ⟨k + 1, by omega, by omega, by go_num, HBd⟩
        · obtain rfl : pn = k := by omega
          have hltz : ¬ (pn : Int) < (pn : Int) := by omega
          go_wp2_with fail
          go_ret
          exact ⟨rfl, HB1.out.trans (HB.out.mono HB1.out.size)⟩
end
end Go.Proofs.Ythohpbppfihoiaa
