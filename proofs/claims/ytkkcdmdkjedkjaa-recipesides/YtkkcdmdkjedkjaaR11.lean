/- The document's Cut. -/
import Derived.Test.YtkkcdmdkjedkjaaR10
namespace Go.Proofs.Ytkkcdmdkjedkjaa
open Go.RowKit Go.Lib

/-- Of the first k bytes of a chunk: how many lie from a to b, and where they begin. -/
def nk (a b : Int) (k : Nat) : Nat := (min b k - max a 0).toNat
def fk (a b : Int) (k : Nat) : Nat := if 0 < nk a b k then (max a 0).toNat else 0
theorem nk_zero (a b : Int) : nk a b 0 = 0 := by unfold nk; omega
theorem fk_zero (a b : Int) : fk a b 0 = 0 := by unfold fk; rw [nk_zero]; rfl
theorem nk_in {a b : Int} {k : Nat} (h1 : a ≤ k) (h2 : (k : Int) < b) : nk a b (k + 1) = nk a b k + 1 := by unfold nk; omega
theorem nk_out {a b : Int} {k : Nat} (h : ¬ (a ≤ k ∧ (k : Int) < b)) : nk a b (k + 1) = nk a b k := by unfold nk; omega
theorem fk_out {a b : Int} {k : Nat} (h : ¬ (a ≤ k ∧ (k : Int) < b)) : fk a b (k + 1) = fk a b k := by unfold fk; rw [nk_out h]
theorem fk_first {a b : Int} {k : Nat} (h1 : a ≤ k) (h2 : (k : Int) < b) (h : nk a b k = 0) : fk a b (k + 1) = k := by
  have h3 := nk_in h1 h2
  unfold fk
  rw [h3, if_pos (by omega)]
  unfold nk at h
  omega
theorem fk_next {a b : Int} {k : Nat} (h1 : a ≤ k) (h2 : (k : Int) < b) (h : nk a b k ≠ 0) : fk a b (k + 1) = fk a b k := by
  have h3 := nk_in h1 h2
  unfold fk
  rw [if_pos (by omega), if_pos (by omega)]
theorem pc1_nk (l i : Nat) (a b : Int) : Rp.pc1 l i a b = if 0 < nk a b l then [⟨i, fk a b l, nk a b l⟩] else [] := by
  unfold Rp.pc1
  by_cases h : 0 < nk a b l
  · rw [if_pos h, if_pos (by unfold nk at h; omega)]
    unfold fk
    rw [if_pos h]
    unfold nk
    rfl
  · rw [if_neg h, if_neg (by unfold nk at h; omega)]
theorem nk_le (a b : Int) (k : Nat) : nk a b k ≤ k := by unfold nk; omega
theorem fk_le (a b : Int) (k : Nat) : fk a b k ≤ k := by
  unfold fk
  split
  · unfold nk at *; omega
  · omega
section
variable {w : World}
set_option maxHeartbeats 4000000 in
set_option maxRecDepth 100000 in
theorem rcut_bad (v : Value) (L : List Rf) (fr n : Int) (h : RdR w v L) (hR : Rt L) (hb : fr < 0 ∨ n < 0 ∨ ((lens L).sum : Int) < fr) : Calls Try.prog 21 #[v, .int .i64 fr, .int .i64 n] w fun e w' => e = .returned (.tuple #[.slice none 0 0, .int .i64 2]) ∧ w = w' := by
  have t := rsize_any v L h hR
  obtain ⟨a, c, rfl, _⟩ := h.shape
  generalize (lens L).sum = Z at t hb
  generalize L.length = m at t ⊢
  clear h
  by_cases h0 : fr < 0
  · go_enter Try.func21, Try.ntmps21
    go_wp2_with fail
    go_ret2
    exact ⟨rfl, rfl⟩
  by_cases h1 : n < 0
  · go_enter Try.func21, Try.ntmps21
    go_wp2_with fail
    go_ret2
    exact ⟨rfl, rfl⟩
  have h2 : (Z : Int) < fr := by omega
  go_enter Try.func21, Try.ntmps21
  go_wp2_with (go_at_call 15; refine t.mono ?_; rintro e w2 ⟨rfl, rfl⟩)
  go_ret2
  exact ⟨rfl, rfl⟩
set_option maxHeartbeats 8000000 in
set_option maxRecDepth 100000 in
theorem rcut_any (v : Value) (L : List Rf) (fr : Nat) (n : Int) (h : RdR w v L) (hR : Rt L) (hf : fr ≤ (lens L).sum) (hn : 0 ≤ n ∧ n ≤ 9223372036854775807) : Calls Try.prog 21 #[v, .int .i64 (fr : Int), .int .i64 n] w fun e w' => ∃ v', e = .returned (.tuple #[v', .int .i64 0]) ∧ OwnE pv 3 49 w' w.heap.size v' (Rp.pcs (lens L) 0 fr ((fr : Int) + n)) ∧ Below w.heap.size w w' := by
  have t := rsize_any v L h hR
  have H := Hid.mk h
  have HR := Hid.mk hR
  obtain ⟨av, c, rfl, hcv, hcm, _⟩ := h.shape
  have hsum := lens_sum hR
  have HPs := Hid.mk (fun k hk => Rp.pcs_snoc (lens L) 0 fr ((fr : Int) + n) k hk)
  have HPl := Hid.mk (fun k => Rp.pcs_len ((lens L).take k) 0 fr ((fr : Int) + n))
  have HTe : Hid ((lens L).take L.length = lens L) := ⟨List.take_of_length_le (by rw [lens_len]; exact Nat.le_refl _)⟩
  obtain ⟨Z, HZ⟩ : ∃ Z, Hid ((lens L).sum = Z) := ⟨_, ⟨rfl⟩⟩
  rw [HZ.out] at t hf hsum
  obtain ⟨N, HN⟩ : ∃ x, Hid (L.length = x) := ⟨_, ⟨rfl⟩⟩
  have hN : N ≤ 256 := by rw [← HN.out]; exact hR.few
  rw [HN.out] at t H hcv HTe ⊢
  have hfz : ¬ (Z : Int) < (fr : Int) := by omega
  have hf0 : ¬ (fr : Int) < 0 := by omega
  have hn0 : ¬ n < 0 := by omega
  have hdz : decide (Z < fr) = false := decide_eq_false (by omega)
  have hdn : decide (n < 0) = false := decide_eq_false hn0
  have HO0 : Hid (OwnE pv 3 49 (w.alloc (.cells #[] 49)) w.heap.size (.slice (some ⟨w.heap.size, 0, none⟩) 0 0) []) := ⟨OwnE.none pv 3 49 w⟩
  clear h hR
  go_enter Try.func21, Try.ntmps21
  go_wp2_with (go_at_call 15; refine t.mono ?_; rintro e w2 ⟨rfl, rfl⟩)
  go_loopg [8, 9, 10, 11, 12] N (fun gg s8 s9 s10 _ _ wr => ∃ i : Nat, i ≤ N ∧ N - i ≤ gg ∧ s10 = .int .i64 (i : Int) ∧ s9 = .int .i64 ((Rp.upto (lens L) i : Nat) : Int) ∧ Hid (OwnE pv 3 49 wr w.heap.size s8 (Rp.pcs ((lens L).take i) 0 fr ((fr : Int) + n))) ∧ Hid (Below w.heap.size w wr))
  case atStart => exact ⟨0, Nat.zero_le _, by omega, rfl, by rw [Rp.upto_zero]; rfl, ⟨by simpa [Rp.pcs] using HO0.out⟩, ⟨(Below.refl _ w).alloc (Nat.le_refl _) _⟩⟩
  case round =>
    clear HO0 t
    obtain ⟨i, hi, hgg, rfl, rfl, HO, HB⟩ := hrel
    rename World => wo
    obtain ⟨a8, c8, e8, _⟩ := (HO.out.rd ⟨0, 0, 0⟩).shape
    subst e8
    obtain ⟨n8, Hn8⟩ : ∃ m, Hid ((Rp.pcs ((lens L).take i) 0 fr ((fr : Int) + n)).length = m) := ⟨_, ⟨rfl⟩⟩
    rw [Hn8.out] at HO ⊢
    by_cases hlt : i < N
    · have hltz : (i : Int) < (N : Int) := by omega
      have hiL : i < L.length := by rw [HN.out]; exact hlt
      obtain ⟨b, off, cap, e, hc⟩ := H.out.len hiL
      have hl := lens_at HR.out hiL
      rw [hl.1] at hc
      rw [HN.out] at e
      simp at e
      obtain ⟨rfl, rfl⟩ := e
      have HS := Hid.mk (HPs.out i (by rw [lens_len]; exact hiL))
      have HSu := Hid.mk (Rp.upto_succ (lens L) i (by rw [lens_len]; exact hiL))
      have hub := Rp.upto_le (lens L) i
      rw [HZ.out] at hub
      have HPn : Hid (n8 ≤ 256) := ⟨by rw [← Hn8.out]; have := HPl.out i; rw [List.length_take] at this; omega⟩
      obtain ⟨u, Hu⟩ : ∃ u, Hid (Rp.upto (lens L) i = u) := ⟨_, ⟨rfl⟩⟩
      rw [Hu.out] at HS HSu hub ⊢
      obtain ⟨l, Hl⟩ : ∃ u, Hid ((lens L).getD i 0 = u) := ⟨_, ⟨rfl⟩⟩
      rw [Hl.out] at HS HSu hc hl
      have hl2 := hl.2
      obtain ⟨PR, HPR⟩ : ∃ PR, Hid (Rp.pcs ((lens L).take i) 0 fr ((fr : Int) + n) = PR) := ⟨_, ⟨rfl⟩⟩
      rw [HPR.out] at HO HS Hn8
      obtain ⟨a, Ha⟩ : ∃ x : Int, Hid ((fr : Int) - u = x) := ⟨_, ⟨rfl⟩⟩
      obtain ⟨bb, Hbb⟩ : ∃ x : Int, Hid ((fr : Int) + n - u = x) := ⟨_, ⟨rfl⟩⟩
      rw [Ha.out, Hbb.out, pc1_nk, Nat.zero_add] at HS
      have hcl : b < w.heap.size := World.block_lt_of_cell? _ _ hc
      clear hl
      go_upto_region 9 with fail
      obtain ⟨g, Hg⟩ : ∃ g, Hid (wo.heap.size = g) := ⟨_, ⟨rfl⟩⟩
      obtain ⟨w3, Hw3⟩ : ∃ x, Hid (wo.alloc (.cells #[.int .i64 (i : Int), .int .i64 0, .int .i64 0] 49) = x) := ⟨_, ⟨rfl⟩⟩
      have HC3 : Hid (Chg [g] wo w3) := ⟨by rw [← Hw3.out]; exact (Chg.ofBelow ((Below.refl _ wo).alloc (Nat.le_refl _) _))⟩
      have HG3 : Hid (w3.heap[g]? = some (.cells #[.int .i64 (i : Int), .int .i64 ((fk a bb 0 : Nat) : Int), .int .i64 ((nk a bb 0 : Nat) : Int)] 49 (0, 0))) := ⟨by rw [fk_zero, nk_zero, ← Hw3.out, ← Hg.out]; exact heap_alloc_new wo _⟩
      have HBg : Hid (w.heap.size ≤ g) := ⟨by rw [← Hg.out]; exact HB.out.size⟩
      have HBw : Hid (∀ A, Chg [g] wo A → Below w.heap.size w A) := ⟨fun A hA => HB.out.trans (hA.below HB.out.size (by have := HBg.out; simpa using this))⟩
      have HOg : Hid (g ∉ ob (.slice a8 n8 c8)) := ⟨fun hm => by have := (HO.out.lt g hm).2; have := Hg.out; omega⟩
      rw [Hw3.out, Hg.out]
      go_wp2_with fail
      go_loopg [9, 12] l (fun gg2 s9 s12 w4 => ∃ k : Nat, k ≤ l ∧ l - k ≤ gg2 ∧ s12 = .int .i64 (k : Int) ∧ s9 = .int .i64 ((u : Int) + k) ∧ Hid (w4.heap[g]? = some (.cells #[.int .i64 (i : Int), .int .i64 ((fk a bb k : Nat) : Int), .int .i64 ((nk a bb k : Nat) : Int)] 49 (0, 0))) ∧ Hid (Chg [g] wo w4))
      case atStart => exact ⟨0, Nat.zero_le _, by omega, rfl, by simp, HG3, HC3⟩
      case round =>
        clear HG3 HC3 Hw3
        obtain ⟨k, hk, hgg2, rfl, rfl, HG, HC⟩ := hrel
        have HB4 := Hid.mk (HBw.out wr HC.out)
        have hc4 : wr.cell? ⟨b, off + i * 35 + 32, none⟩ = some (.int .i64 (l : Int)) := (HB4.out.cell (p := ⟨b, off + i * 35 + 32, none⟩) hcl).trans hc
        have hg1 : wr.cell? ⟨g, 1, none⟩ = some (.int .i64 ((fk a bb k : Nat) : Int)) := by rw [cell_of_row _ _ _ _ _ _ HG.out]; rfl
        have hg2 : wr.cell? ⟨g, 2, none⟩ = some (.int .i64 ((nk a bb k : Nat) : Int)) := by rw [cell_of_row _ _ _ _ _ _ HG.out]; rfl
        have hf1 : wr.frozen? ⟨g, 1, none⟩ = false := frozen_of_row wr g 1 _ 49 HG.out
        have hf2 : wr.frozen? ⟨g, 2, none⟩ = false := frozen_of_row wr g 2 _ 49 HG.out
        have hnk := nk_le a bb k
        have hfk := fk_le a bb k
        by_cases hkl : k < l
        · have hklz : (k : Int) < (l : Int) := by omega
          have HA := Ha.out
          have HBB := Hbb.out
          by_cases hin : a ≤ k ∧ (k : Int) < bb
          · have z1 : (fr : Int) ≤ (u : Int) + k := by omega
            have z2 : (u : Int) + k - fr < n := by omega
            have HN1 := Hid.mk (nk_in hin.1 hin.2)
            have HFf := Hid.mk (fun h => fk_first (a := a) (b := bb) (k := k) hin.1 hin.2 h)
            have HFn := Hid.mk (fun h => fk_next (a := a) (b := bb) (k := k) hin.1 hin.2 h)
            obtain ⟨K0, HK0⟩ : ∃ x, Hid (nk a bb k = x) := ⟨_, ⟨rfl⟩⟩
            obtain ⟨F0, HF0⟩ : ∃ x, Hid (fk a bb k = x) := ⟨_, ⟨rfl⟩⟩
            rw [HK0.out] at hg2 hnk HN1 HFf HFn HG
            rw [HF0.out] at hg1 hfk HFn HG
            by_cases hz : K0 = 0
            · subst hz
              have HF2 := Hid.mk (HFf.out rfl)
              go_wp2_with fail
              go_roundg (l - (k + 1))
              case measure => omega
              case rel =>
                refine ⟨k + 1, by omega, by omega, by go_num, by go_num, ⟨?_⟩, ⟨(HC.out.setCell (a := ⟨g, 1, none⟩) (.inl (by simp)) _).setCell (a := ⟨g, 2, none⟩) (.inl (by simp)) _⟩⟩
                rw [HN1.out, HF2.out]
                have e1 := heap_setCell_same wr g 1 _ 49 (.int .i64 (k : Int)) HG.out
                have e2 := heap_setCell_same _ g 2 _ 49 (.int .i64 1) e1
                simpa using e2
            · have hzz : ¬ (K0 : Int) = 0 := by omega
              have HF2 := Hid.mk (HFn.out hz)
              go_wp2_with fail
              go_roundg (l - (k + 1))
              case measure => omega
              case rel =>
                refine ⟨k + 1, by omega, by omega, by go_num, by go_num, ⟨?_⟩, ⟨HC.out.setCell (a := ⟨g, 2, none⟩) (.inl (by simp)) _⟩⟩
                rw [HN1.out, HF2.out]
                have e2 := heap_setCell_same wr g 2 _ 49 (.int .i64 ((K0 : Int) + 1)) HG.out
                simpa using e2
          · have HN1 := Hid.mk (nk_out hin)
            have HF1 := Hid.mk (fk_out hin)
            have Hrel : Hid (wr.heap[g]? = some (.cells #[.int .i64 (i : Int), .int .i64 ((fk a bb (k + 1) : Nat) : Int), .int .i64 ((nk a bb (k + 1) : Nat) : Int)] 49 (0, 0))) := ⟨by rw [HN1.out, HF1.out]; exact HG.out⟩
            clear hg1 hg2 hf1 hf2 HG HN1 HF1 hnk hfk
            by_cases z1 : (fr : Int) ≤ (u : Int) + k
            · have z2 : ¬ (u : Int) + k - fr < n := fun h => hin ⟨by omega, by omega⟩
              go_wp2_with fail
              go_roundg (l - (k + 1))
              case measure => omega
              case rel => exact ⟨k + 1, by omega, by omega, by go_num, by go_num, Hrel, HC⟩
            · go_wp2_with fail
              go_roundg (l - (k + 1))
              case measure => omega
              case rel => exact ⟨k + 1, by omega, by omega, by go_num, by go_num, Hrel, HC⟩
        · obtain rfl : k = l := by omega
          obtain ⟨K0, HK0⟩ : ∃ x, Hid (nk a bb k = x) := ⟨_, ⟨rfl⟩⟩
          obtain ⟨F0, HF0⟩ : ∃ x, Hid (fk a bb k = x) := ⟨_, ⟨rfl⟩⟩
          rw [HK0.out] at hg2 hnk HS HG
          rw [HF0.out] at hg1 hfk HS HG
          have HO4 : Hid (OwnE pv 3 49 wr w.heap.size (.slice a8 n8 c8) PR) := ⟨HO.out.far HC.out (fun x hx hm => by simp at hm; subst hm; exact HOg.out hx)⟩
          have hg0 : wr.cell? ⟨g, 0, none⟩ = some (.int .i64 (i : Int)) := by rw [cell_of_row _ _ _ _ _ _ HG.out]; rfl
          clear hf1 hf2
          by_cases hz : 0 < K0
          · have hzz : (0 : Int) < (K0 : Int) := by omega
            rw [if_pos hz] at HS
            obtain ⟨V, HV⟩ : ∃ V, Hid (wr.alloc (.cells #[.int .i64 (i : Int), .int .i64 (F0 : Int), .int .i64 (K0 : Int)] 49) = V) := ⟨_, ⟨rfl⟩⟩
            have HBV : Hid (Below wr.heap.size wr V) := ⟨by rw [← HV.out]; exact (Below.refl _ wr).alloc (Nat.le_refl _) _⟩
            have HRV : Hid (RdE pv 3 ⟨0, 0, 0⟩ V (.slice (some ⟨wr.heap.size, 0, none⟩) 1 1) [⟨i, F0, K0⟩]) := ⟨by rw [← HV.out]; exact rde_one wr (⟨i, F0, K0⟩ : Rp.Pc) rfl (by intro u hu; simp [pv] at hu; rcases hu with rfl | rfl | rfl <;> rfl) 49⟩
            have HOV : Hid (OwnE pv 3 49 V w.heap.size (.slice a8 n8 c8) PR) := ⟨HO4.out.far (Chg.ofBelow (X := []) HBV.out) (by simp)⟩
            have HB5 : Hid (Below w.heap.size w V) := ⟨HB4.out.trans (HBV.out.mono HB4.out.size)⟩
            have hl1 : (PR.length + [(⟨i, F0, K0⟩ : Rp.Pc)].length) * 24 ≤ 140737488355328 := by rw [Hn8.out]; have := HPn.out; simp; omega
            have hl2 : PR.length + [(⟨i, F0, K0⟩ : Rp.Pc)].length ≤ maxLen := by rw [Hn8.out]; have := HPn.out; unfold maxLen; simp; omega
            have hl3 : w.heap.size ≤ V.heap.size := HB5.out.size
            go_wp2_with (rw [HV.out]; refine wp_appE (f := pv) (d := ⟨0, 0, 0⟩) eltP rfl (.tmp 67) (.tmp 69) rfl rfl HOV.out rfl HRV.out hl1 hl2 hl3 ?_; intro v6 w6 hO6 hG6 hV6)
            have HG6 : Hid (Chg (ob (.slice a8 n8 c8)) V w6) := ⟨hG6⟩
            have HB6 : Hid (Below w.heap.size w w6) := ⟨HB5.out.trans (HG6.out.below HB5.out.size (fun x hx => (HOV.out.lt x hx).1))⟩
            go_roundg (N - (i + 1))
            case measure => omega
            case rel => exact ⟨i + 1, by omega, by omega, by go_num, by rw [HSu.out]; go_num, ⟨by rw [HS.out]; exact hO6⟩, HB6⟩
          · obtain rfl : K0 = 0 := by omega
            rw [if_neg (by omega), List.append_nil] at HS
            go_wp2_with fail
            go_roundg (N - (i + 1))
            case measure => omega
            case rel => exact ⟨i + 1, by omega, by omega, by go_num, by rw [HSu.out]; go_num, ⟨by rw [HS.out]; exact HO4.out⟩, HB4⟩
    · obtain rfl : N = i := by omega
      rw [HTe.out] at HO
      go_wp2_with fail
      go_ret2
      exact ⟨_, rfl, HO.out, HB.out⟩
end
end Go.Proofs.Ytkkcdmdkjedkjaa
