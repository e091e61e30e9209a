/- RecipeBack: the law's walk. -/
import Derived.Test.YtkkcdmdkjedkjaaS3
import Derived.Test.YtkkcdmdkjedkjaaS5
import Derived.Test.YtkkcdmdkjedkjaaRefSame
import Derived.Test.YtkkcdmdkjedkjaaWN
import Derived.Test.YtkkcdmdkjedkjaaMovFrame
namespace Go.Proofs.Ytkkcdmdkjedkjaa
open Go.RowKit Go.Lib

def awy (Z : List Sp) (bin : Int) (k : Nat) : List (Sp × Sp) := (List.range k).map fun (j : Nat) => (Z.getD j q0, (bin, (j : Int)))
def bck (Z : List Sp) (bin : Int) (k : Nat) : List (Sp × Sp) := (List.range k).map fun (j : Nat) => ((bin, (j : Int)), Z.getD j q0)
theorem awy_len (Z : List Sp) (bin : Int) (k : Nat) : (awy Z bin k).length = k := by simp [awy]
theorem bck_len (Z : List Sp) (bin : Int) (k : Nat) : (bck Z bin k).length = k := by simp [bck]
theorem awy_succ (Z : List Sp) (bin : Int) (k : Nat) : awy Z bin (k + 1) = awy Z bin k ++ [(Z.getD k q0, (bin, (k : Int)))] := by simp [awy, List.range_succ]
theorem bck_succ (Z : List Sp) (bin : Int) (k : Nat) : bck Z bin (k + 1) = bck Z bin k ++ [((bin, (k : Int)), Z.getD k q0)] := by simp [bck, List.range_succ]
theorem awy_find (Z : List Sp) (bin : Int) (x : Sp) : ∀ k, (∃ i, i < k ∧ Z.getD i q0 = x) → ∃ i, i < k ∧ Z.getD i q0 = x ∧ fnd2 (awy Z bin k) x = some (bin, (i : Int))
  | 0, ⟨_, h, _⟩ => by omega
  | k + 1, h => by
    rw [awy_succ, fnd2_app]
    by_cases h1 : ∃ i, i < k ∧ Z.getD i q0 = x
    · obtain ⟨i, h2, h3, h4⟩ := awy_find Z bin x k h1
      exact ⟨i, by omega, h3, by rw [h4]⟩
    · obtain ⟨i, h2, h3⟩ := h
      have : i = k := by
        rcases Nat.lt_or_ge i k with h5 | h5
        · exact absurd ⟨i, h5, h3⟩ h1
        · omega
      subst this
      refine ⟨i, by omega, h3, ?_⟩
      cases h4 : fnd2 (awy Z bin i) x with
      | none => simp only [fnd2_cons, h3, if_true]
      | some t =>
        exfalso
        have : ∀ k, (fnd2 (awy Z bin k) x).isSome = true → ∃ j, j < k ∧ Z.getD j q0 = x := by
          intro k
          induction k with
          | zero => intro h; simp [awy, fnd2_nil] at h
          | succ k ih =>
            intro h
            rw [awy_succ, fnd2_app] at h
            cases h6 : fnd2 (awy Z bin k) x with
            | some t => obtain ⟨j, h7, h8⟩ := ih (by rw [h6]; rfl); exact ⟨j, by omega, h8⟩
            | none =>
              rw [h6] at h
              simp only [fnd2_cons, fnd2_nil] at h
              by_cases h7 : Z.getD k q0 = x
              · exact ⟨k, by omega, h7⟩
              · rw [if_neg h7] at h
                cases h
        exact h1 (this i (by rw [h4]; rfl))
theorem bck_none (Z : List Sp) (bin : Int) (i : Nat) : ∀ k, k ≤ i → fnd2 (bck Z bin k) (bin, (i : Int)) = none
  | 0, _ => rfl
  | k + 1, h => by
    rw [bck_succ, fnd2_app, bck_none Z bin i k (by omega)]
    have : ¬ ((bin, (k : Int)) : Sp) = (bin, (i : Int)) := by simp; omega
    simp only [fnd2_cons, fnd2_nil, if_neg this]
theorem bck_find (Z : List Sp) (bin : Int) (i : Nat) : ∀ k, i < k → fnd2 (bck Z bin k) (bin, (i : Int)) = some (Z.getD i q0)
  | k + 1, h => by
    rw [bck_succ, fnd2_app]
    rcases Nat.lt_or_ge i k with h1 | h1
    · rw [bck_find Z bin i k h1]
    · have : i = k := by omega
      subst this
      rw [bck_none Z bin i i (Nat.le_refl _)]
      simp only [fnd2_cons, if_true]
/-- There and back again. -/
theorem back_one {Z : List Sp} {bin : Int} {r : Rf} (h : spo r ∈ Z) : (fnd2 (awy Z bin Z.length) (spo r)).isSome = true ∧ (fnd2 (bck Z bin Z.length) (spo (mv (awy Z bin Z.length) r))).isSome = true ∧ mv (bck Z bin Z.length) (mv (awy Z bin Z.length) r) = r := by
  obtain ⟨i0, h0, e0⟩ := List.getElem_of_mem h
  obtain ⟨i, h1, h2, h3⟩ := awy_find Z bin (spo r) Z.length ⟨i0, h0, by simp [List.getD, List.getElem?_eq_getElem h0, e0]⟩
  have e1 : mv (awy Z bin Z.length) r = { r with b := bin, o := (i : Int) } := by unfold mv; rw [h3]
  have e2 : spo ({ r with b := bin, o := (i : Int) } : Rf) = (bin, (i : Int)) := rfl
  have h4 := bck_find Z bin i Z.length h1
  refine ⟨by rw [h3]; rfl, by rw [e1, e2, h4]; rfl, ?_⟩
  rw [e1]
  unfold mv
  rw [e2, h4, h2]
  rfl
theorem cnt_all {ms : List (Sp × Sp)} {L : List Rf} (h : ∀ r ∈ L, (fnd2 ms (spo r)).isSome = true) : cnt ms L = L.length := by
  unfold cnt
  rw [List.filter_eq_self.2 h]
theorem eltV : Elt Try.prog 51 63 4 32 := by
  have h : ((Try.prog.info? 63).map (fun i => (i.size, i.bytes, (i.zero.map (fun z => z.cells.size))))) = some (4, 32, some 4) := by kernel_rfl
  refine ⟨Try.underlying51, ?_, by decide⟩
  cases hi : Try.prog.info? 63 with
  | none => rw [hi] at h; simp at h
  | some i =>
    rw [hi] at h
    simp at h
    obtain ⟨h1, h2, z, h3, h4⟩ := h
    exact ⟨i, z, rfl, h3, h1, h2, h4⟩
section
variable {w : World}
set_option maxHeartbeats 16000000 in
set_option maxRecDepth 100000 in
theorem recipeBack_any (v : Value) (L : List Rf) (bin : Int) (h : RdR w v L) (hL : L.length ≤ 2513169434843) :
    Calls Try.prog 7 #[v, .int .i64 bin] w fun e w' => e = .returned (.bool true) ∧ Below w.heap.size w w' := by
  have t1 := spots26 sort_any srt_len compact_any v L h hL
  have H := Hid.mk h
  have HSms := Hid.mk h.sums
  obtain ⟨av, cv, rfl, _⟩ := h.shape
  obtain ⟨n, Hn⟩ : ∃ n, Hid (L.length = n) := ⟨_, ⟨rfl⟩⟩
  have Hin : Hid (∀ r ∈ L, spo r ∈ cp (srt (L.map spo)) (srt (L.map spo)).length) := ⟨fun r hr => by
    have h1 : spo r ∈ srt (L.map spo) := (srt_mem _ _).2 (List.mem_map.2 ⟨r, hr, rfl⟩)
    obtain ⟨i, h2, h3⟩ := List.getElem_of_mem h1
    have h4 := cp_mem (srt (L.map spo)) (srt (L.map spo)).length i h2
    have h5 : (srt (L.map spo)).getD i q0 = spo r := by simp [List.getD, List.getElem?_eq_getElem h2, h3]
    rw [h5] at h4
    exact h4⟩
  have Hzl : Hid ((cp (srt (L.map spo)) (srt (L.map spo)).length).length ≤ n) := ⟨by
    have h1 := cp_le (srt (L.map spo)) (srt (L.map spo)).length
    rw [srt_len, List.length_map, Hn.out] at h1
    rw [srt_len, List.length_map, Hn.out]
    exact h1⟩
  obtain ⟨Z, HZ⟩ : ∃ Z, Hid (cp (srt (L.map spo)) (srt (L.map spo)).length = Z) := ⟨_, ⟨rfl⟩⟩
  rw [HZ.out] at t1 Hin Hzl
  rw [Hn.out] at H hL t1 ⊢
  have hzn := Hzl.out
  clear h HZ Hzl
  go_enter Try.func7, Try.ntmps7
  go_upto_region 2 with (go_at_call 26; refine t1.mono ?_; rintro e wS ⟨zv, rfl, hZ, hbS⟩)
  obtain ⟨za, zc, ez, hzc, hzm, _⟩ := hZ.shape
  subst ez
  have HZr := Hid.mk hZ
  have HBS := Hid.mk hbS
  obtain ⟨zl, Hzl⟩ : ∃ x, Hid (Z.length = x) := ⟨_, ⟨rfl⟩⟩
  rw [Hzl.out] at HZr hzc hzn ⊢
  clear t1 hZ hbS
  go_wp2_with fail
  go_loopg [6, 7, 8, 9] zl (fun gg s6 s7 s8 _ wr => ∃ i : Nat, i ≤ zl ∧ zl - i ≤ gg ∧ s8 = .int .i64 (i : Int) ∧ Hid (OwnE mc 4 63 wr wS.heap.size s6 (awy Z bin i)) ∧ Hid (OwnE mc 4 63 wr wS.heap.size s7 (bck Z bin i)) ∧ Hid (∀ g ∈ ob s6, g ∉ ob s7) ∧ Hid (Below wS.heap.size wS wr))
  case atStart => exact ⟨0, Nat.zero_le _, by omega, rfl, ⟨OwnE.nil _ _ _ _ _⟩, ⟨OwnE.nil _ _ _ _ _⟩, ⟨by simp [ob, Value.ownBlock]⟩, ⟨Below.refl _ _⟩⟩
  case round =>
    obtain ⟨i, hi, hgg, rfl, HO6, HO7, HDj, HB⟩ := hrel
    obtain ⟨a6, c6, e6, _⟩ := (HO6.out.rd m0).shape
    subst e6
    obtain ⟨a7, c7, e7, _⟩ := (HO7.out.rd m0).shape
    subst e7
    rw [awy_len] at HO6 HDj
    rw [bck_len] at HO7 HDj
    rw [awy_len, bck_len]
    by_cases hlt : i < zl
    · have hltz : (i : Int) < (zl : Int) := by omega
      have hiZ : i < Z.length := by rw [Hzl.out]; exact hlt
      obtain ⟨zb, zo, zc', ez, hcz⟩ := HZr.out.at' i hiZ
      rw [Hzl.out] at ez
      simp at ez
      obtain ⟨rfl, rfl⟩ := ez
      have Hzbl : Hid (zb < wS.heap.size) := ⟨HZr.out.lt (by decide) (by omega) zb (by simp [ob, Value.ownBlock])⟩
      have HaS := Hid.mk (awy_succ Z bin i)
      have HbS := Hid.mk (bck_succ Z bin i)
      have hq0 : Z.getD i (0, 0) = Z.getD i q0 := rfl
      rw [hq0] at hcz
      obtain ⟨⟨z1, z2⟩, Hz⟩ : ∃ z, Hid (Z.getD i q0 = z) := ⟨_, ⟨rfl⟩⟩
      rw [Hz.out] at hcz HaS HbS
      have k0 : wS.cell? ⟨zb, zo + i * 2, none⟩ = some (.int .i64 z1) := hcz 0 (by decide)
      have k1 : wS.cell? ⟨zb, zo + i * 2 + 1, none⟩ = some (.int .i64 z2) := hcz 1 (by decide)
      have hx0 : wr.cell? ⟨zb, zo + i * 2, none⟩ = some (.int .i64 z1) := (HB.out.cell (p := ⟨zb, zo + i * 2, none⟩) Hzbl.out).trans k0
      have Hk0 := Hid.mk k0
      have Hk1 := Hid.mk k1
      clear hcz k0 k1
      by_cases hbin : z1 = bin
      · subst hbin
        have A12 : ∀ w1, Below wS.heap.size wS w1 → Calls Try.prog 12 #[] w1 fun e w3 => e = .returned (.bool true) ∧ Below wS.heap.size wS w3 := fun w1 hb => live_at hb
        have hbe := HB.out
        go_wp2_with (go_at_call 12; refine (A12 _ (by assumption)).mono ?_; rintro e wx ⟨rfl, hbx⟩)
        go_ret
        exact ⟨rfl, HBS.out.trans (Below.mono (by assumption) HBS.out.size)⟩
      · have HlA : Hid ((awy Z bin i).length = i) := ⟨awy_len _ _ _⟩
        have HlB : Hid ((bck Z bin i).length = i) := ⟨bck_len _ _ _⟩
        obtain ⟨AW, HAW⟩ : ∃ x, Hid (awy Z bin i = x) := ⟨_, ⟨rfl⟩⟩
        obtain ⟨BK, HBK⟩ : ∃ x, Hid (bck Z bin i = x) := ⟨_, ⟨rfl⟩⟩
        rw [HAW.out] at HO6 HaS HlA
        rw [HBK.out] at HO7 HbS HlB
        go_upto_region 9 with fail
        obtain ⟨q, Hq⟩ : ∃ x, Hid (wr.heap.size = x) := ⟨_, ⟨rfl⟩⟩
        obtain ⟨wd, Hwd⟩ : ∃ x, Hid (wr.alloc (.cells #[.int .i64 bin, .int .i64 (i : Int)] 61) = x) := ⟨_, ⟨rfl⟩⟩
        have HBd : Hid (Below wr.heap.size wr wd) := ⟨by rw [← Hwd.out]; exact (Below.refl _ wr).alloc (Nat.le_refl _) _⟩
        have HSt : Hid (Below wS.heap.size wS wd ∧ wd.heap[q]? = some (.cells #[.int .i64 bin, .int .i64 (i : Int)] 61 (0, 0))) := ⟨HB.out.trans (HBd.out.mono HB.out.size), by rw [← Hwd.out, ← Hq.out]; exact heap_alloc_new wr _⟩
        have HK : Hid (∀ w', (Below wS.heap.size wS w' ∧ w'.heap[q]? = some (.cells #[.int .i64 bin, .int .i64 (i : Int)] 61 (0, 0))) → w'.cell? ⟨zb, zo + i * 2, none⟩ = some (.int .i64 z1) ∧ w'.cell? ⟨zb, zo + i * 2 + 1, none⟩ = some (.int .i64 z2) ∧ w'.cell? ⟨q, 0, none⟩ = some (.int .i64 bin) ∧ w'.cell? ⟨q, 1, none⟩ = some (.int .i64 (i : Int))) := ⟨fun w' h => ⟨(h.1.cell (p := ⟨zb, zo + i * 2, none⟩) Hzbl.out).trans Hk0.out, (h.1.cell (p := ⟨zb, zo + i * 2 + 1, none⟩) Hzbl.out).trans Hk1.out, by rw [cell_of_row _ _ _ _ _ _ h.2]; rfl, by rw [cell_of_row _ _ _ _ _ _ h.2]; rfl⟩⟩
        have HO6d : Hid (OwnE mc 4 63 wd wS.heap.size (.slice a6 i c6) AW) := ⟨HO6.out.far (Chg.ofBelow (X := []) HBd.out) (by simp)⟩
        have HO7d : Hid (OwnE mc 4 63 wd wS.heap.size (.slice a7 i c7) BK) := ⟨HO7.out.far (Chg.ofBelow (X := []) HBd.out) (by simp)⟩
        have Hq6 : Hid (q ∉ ob (.slice a6 i c6)) := ⟨fun hm => by have := (HO6.out.lt q hm).2; have := Hq.out; omega⟩
        have Hq7 : Hid (q ∉ ob (.slice a7 i c7)) := ⟨fun hm => by have := (HO7.out.lt q hm).2; have := Hq.out; omega⟩
        have H7lt : Hid (∀ g ∈ ob (.slice a7 i c7), g < wd.heap.size) := ⟨fun g hg => (HO7d.out.lt g hg).2⟩
        have HL1 : Hid ((AW.length + 1) * 32 ≤ 140737488355328) := ⟨by rw [HlA.out]; omega⟩
        have HL2 : Hid (AW.length + 1 ≤ maxLen) := ⟨by rw [HlA.out]; unfold maxLen; omega⟩
        rw [Hwd.out, Hq.out]
        clear HO6 HO7 HB HBd hx0 Hq Hwd
        obtain ⟨V9, HV9⟩ : ∃ V, Hid ((wd.alloc (.cells #[.int .i64 z1, .int .i64 z2, .int .i64 bin, .int .i64 (i : Int)] 63)).drew = V) := ⟨_, ⟨rfl⟩⟩
        have HBV9 : Hid (Below wd.heap.size wd V9) := ⟨by rw [← HV9.out]; exact ((Below.refl _ wd).alloc (Nat.le_refl _) _).trans ⟨rfl, rfl, rfl, Nat.le_refl _, fun _ _ => rfl⟩⟩
        have HRV9 : Hid (RdE mc 4 m0 V9 (.slice (some ⟨wd.heap.size, 0, none⟩) 1 1) [((z1, z2), (bin, (i : Int)))]) := ⟨by rw [← HV9.out]; exact (rde_one (f := mc) (k := 4) (d := m0) wd (((z1, z2), (bin, (i : Int))) : Sp × Sp) rfl (mc_one _).2 63).far (Chg.ofBelow (X := []) ⟨rfl, rfl, rfl, Nat.le_refl _, fun _ _ => rfl⟩) (by simp)⟩
        have HOV9 : Hid (OwnE mc 4 63 V9 wS.heap.size (.slice a6 i c6) AW) := ⟨HO6d.out.far (Chg.ofBelow (X := []) HBV9.out) (by simp)⟩
        have HSV9 : Hid (Below wS.heap.size wS V9 ∧ V9.heap[q]? = some (.cells #[.int .i64 bin, .int .i64 (i : Int)] 61 (0, 0))) := ⟨HSt.out.1.trans (HBV9.out.mono HSt.out.1.size), (HBV9.out.block q (Array.getElem?_eq_some_iff.1 HSt.out.2).1).trans HSt.out.2⟩
        refine wp_region_held_drew (S := fun w' => Below wS.heap.size wS w' ∧ w'.heap[q]? = some (.cells #[.int .i64 bin, .int .i64 (i : Int)] 61 (0, 0))) (by kernel_rfl) ⟨HSt.out.1.trans ⟨rfl, rfl, rfl, Nat.le_refl _, fun _ _ => rfl⟩, HSt.out.2⟩ (fun hS => ?_)
        refine wpAnyH_take (i := 0) (v := .slice a6 i c6) rfl (by kernel_rfl) (by kernel_rfl) (by kernel_rfl) (fun _ _ _ h => h) (Or.inl ⟨by kernel_rfl, fun _ _ => by kernel_rfl⟩) hS ?_
        refine wpAnyH_take (i := 1) (v := .slice (some ⟨zb, zo, none⟩) zl zc) rfl (by kernel_rfl) (by kernel_rfl) (by kernel_rfl) (fun _ _ _ h => h) (Or.inl ⟨by kernel_rfl, fun _ _ => by kernel_rfl⟩) hS ?_
        refine wpAnyH_take (i := 2) (v := .int .i64 (i : Int)) rfl (by kernel_rfl) (by kernel_rfl) (by kernel_rfl) (fun _ _ _ h => h) (Or.inl ⟨by kernel_rfl, fun _ _ => by kernel_rfl⟩) hS ?_
        refine wpAnyH_take (i := 3) (v := .pointer (some ⟨zb, zo + i * 2, none⟩)) rfl (by kernel_rfl) (by kernel_rfl) (by kernel_rfl) (fun _ _ _ h => h) (Or.inl ⟨by kernel_rfl, fun wx hx => by go_simp⟩) hS ?_
        refine wpAnyH_take (i := 4) (v := .agg #[.int .i64 z1, .int .i64 z2]) rfl (by kernel_rfl) (by kernel_rfl) (by kernel_rfl) (fun _ _ _ h => h) (Or.inl ⟨by kernel_rfl, fun wx hx => by have hx0 := HK.out wx hx; obtain ⟨hx1, hx2, hx3, hx4⟩ := hx0; go_simp⟩) hS ?_
        refine wpAnyH_take (i := 5) (v := .agg #[.int .i64 bin, .int .i64 (i : Int)]) rfl (by kernel_rfl) (by kernel_rfl) (by kernel_rfl) (fun _ _ _ h => h) (Or.inl ⟨by kernel_rfl, fun wx hx => by have hx0 := HK.out wx hx; obtain ⟨hx1, hx2, hx3, hx4⟩ := hx0; go_simp⟩) hS ?_
        refine wpAnyH_take (i := 6) (v := .agg #[.int .i64 z1, .int .i64 z2, .int .i64 bin, .int .i64 (i : Int)]) rfl (by kernel_rfl) (by kernel_rfl) (by kernel_rfl) (fun _ _ _ h => h) (Or.inl ⟨by kernel_rfl, fun wx hx => by go_simp⟩) hS ?_
        refine wpAnyH_ready (rs := [7]) (by kernel_rfl) (by simp) (AllReadyH.cons rfl (fun Kc hK => ?_) AllReadyH.nil)
        go_simp
        rw [HV9.out]
        refine hK.out _ _ HSV9.out (fun hS => ?_)
        clear hK
        refine wpAnyH_ready (rs := [8]) (by kernel_rfl) (by simp) (AllReadyH.cons rfl (fun Kc hK => ?_) AllReadyH.nil)
        refine rdy_of (by kernel_rfl) ?_
        refine op_appE (f := mc) (d := m0) eltV (.tmp 33) (.tmp 40) rfl (by kernel_rfl) HOV9.out (by kernel_rfl) HRV9.out HL1.out HL2.out HSV9.out.1.size ?_
        intro v9 w9 hO9 hG9 hV9
        obtain ⟨a9, c9, e9, _⟩ := (hO9.rd m0).shape
        subst e9
        have e9' : (AW ++ [((z1, z2), (bin, (i : Int)))]).length = i + 1 := by rw [List.length_append, HlA.out]; rfl
        have hO9' := hO9
        rw [e9'] at hO9'
        rw [e9'] at hV9 ⊢
        have HSW9 : Hid (Below wS.heap.size wS w9 ∧ w9.heap[q]? = some (.cells #[.int .i64 bin, .int .i64 (i : Int)] 61 (0, 0))) := ⟨HSV9.out.1.trans (hG9.below HSV9.out.1.size (fun x hx => (HOV9.out.lt x hx).1)), (hG9.block q (Array.getElem?_eq_some_iff.1 HSV9.out.2).1 Hq6.out).trans HSV9.out.2⟩
        have HO9 := Hid.mk hO9'
        have HG9 := Hid.mk hG9
        have HVV9 := Hid.mk hV9
        clear hO9 hO9' hG9 hV9 e9'
        refine hK.out _ _ HSW9.out (fun hS => ?_)
        clear hK
        refine wpAnyH_take (i := 9) (v := .slice a9 (i + 1) c9) rfl (by kernel_rfl) (by kernel_rfl) (by kernel_rfl) (fun _ _ _ h => h) (Or.inl ⟨by kernel_rfl, fun _ _ => by kernel_rfl⟩) hS ?_
        refine wpAnyH_done (by kernel_rfl) ?_ _
        clear hS
        go_simp
        have HO7e : Hid (OwnE mc 4 63 w9 wS.heap.size (.slice a7 i c7) BK) := ⟨(HO7d.out.far (Chg.ofBelow (X := []) HBV9.out) (by simp)).far HG9.out (fun g hg hm => HDj.out g hm hg)⟩
        have HSt := HSW9
        have HL1 : Hid ((BK.length + 1) * 32 ≤ 140737488355328) := ⟨by rw [HlB.out]; omega⟩
        have HL2 : Hid (BK.length + 1 ≤ maxLen) := ⟨by rw [HlB.out]; unfold maxLen; omega⟩
        go_upto_region 10 with fail
        obtain ⟨V10, HV10⟩ : ∃ V, Hid ((w9.alloc (.cells #[.int .i64 bin, .int .i64 (i : Int), .int .i64 z1, .int .i64 z2] 63)).drew = V) := ⟨_, ⟨rfl⟩⟩
        have HBV10 : Hid (Below w9.heap.size w9 V10) := ⟨by rw [← HV10.out]; exact ((Below.refl _ w9).alloc (Nat.le_refl _) _).trans ⟨rfl, rfl, rfl, Nat.le_refl _, fun _ _ => rfl⟩⟩
        have HRV10 : Hid (RdE mc 4 m0 V10 (.slice (some ⟨w9.heap.size, 0, none⟩) 1 1) [((bin, (i : Int)), (z1, z2))]) := ⟨by rw [← HV10.out]; exact (rde_one (f := mc) (k := 4) (d := m0) w9 (((bin, (i : Int)), (z1, z2)) : Sp × Sp) rfl (mc_one _).2 63).far (Chg.ofBelow (X := []) ⟨rfl, rfl, rfl, Nat.le_refl _, fun _ _ => rfl⟩) (by simp)⟩
        have HOV10 : Hid (OwnE mc 4 63 V10 wS.heap.size (.slice a7 i c7) BK) := ⟨HO7e.out.far (Chg.ofBelow (X := []) HBV10.out) (by simp)⟩
        have HSV10 : Hid (Below wS.heap.size wS V10 ∧ V10.heap[q]? = some (.cells #[.int .i64 bin, .int .i64 (i : Int)] 61 (0, 0))) := ⟨HSt.out.1.trans (HBV10.out.mono HSt.out.1.size), (HBV10.out.block q (Array.getElem?_eq_some_iff.1 HSt.out.2).1).trans HSt.out.2⟩
        refine wp_region_held_drew (S := fun w' => Below wS.heap.size wS w' ∧ w'.heap[q]? = some (.cells #[.int .i64 bin, .int .i64 (i : Int)] 61 (0, 0))) (by kernel_rfl) ⟨HSt.out.1.trans ⟨rfl, rfl, rfl, Nat.le_refl _, fun _ _ => rfl⟩, HSt.out.2⟩ (fun hS => ?_)
        refine wpAnyH_take (i := 0) (v := .slice a7 i c7) rfl (by kernel_rfl) (by kernel_rfl) (by kernel_rfl) (fun _ _ _ h => h) (Or.inl ⟨by kernel_rfl, fun _ _ => by kernel_rfl⟩) hS ?_
        refine wpAnyH_take (i := 1) (v := .agg #[.int .i64 bin, .int .i64 (i : Int)]) rfl (by kernel_rfl) (by kernel_rfl) (by kernel_rfl) (fun _ _ _ h => h) (Or.inl ⟨by kernel_rfl, fun wx hx => by have hx0 := HK.out wx hx; obtain ⟨hx1, hx2, hx3, hx4⟩ := hx0; go_simp⟩) hS ?_
        refine wpAnyH_take (i := 2) (v := .slice (some ⟨zb, zo, none⟩) zl zc) rfl (by kernel_rfl) (by kernel_rfl) (by kernel_rfl) (fun _ _ _ h => h) (Or.inl ⟨by kernel_rfl, fun _ _ => by kernel_rfl⟩) hS ?_
        refine wpAnyH_take (i := 3) (v := .int .i64 (i : Int)) rfl (by kernel_rfl) (by kernel_rfl) (by kernel_rfl) (fun _ _ _ h => h) (Or.inl ⟨by kernel_rfl, fun _ _ => by kernel_rfl⟩) hS ?_
        refine wpAnyH_take (i := 4) (v := .pointer (some ⟨zb, zo + i * 2, none⟩)) rfl (by kernel_rfl) (by kernel_rfl) (by kernel_rfl) (fun _ _ _ h => h) (Or.inl ⟨by kernel_rfl, fun wx hx => by go_simp⟩) hS ?_
        refine wpAnyH_take (i := 5) (v := .agg #[.int .i64 z1, .int .i64 z2]) rfl (by kernel_rfl) (by kernel_rfl) (by kernel_rfl) (fun _ _ _ h => h) (Or.inl ⟨by kernel_rfl, fun wx hx => by have hx0 := HK.out wx hx; obtain ⟨hx1, hx2, hx3, hx4⟩ := hx0; go_simp⟩) hS ?_
        refine wpAnyH_take (i := 6) (v := .agg #[.int .i64 bin, .int .i64 (i : Int), .int .i64 z1, .int .i64 z2]) rfl (by kernel_rfl) (by kernel_rfl) (by kernel_rfl) (fun _ _ _ h => h) (Or.inl ⟨by kernel_rfl, fun wx hx => by go_simp⟩) hS ?_
        refine wpAnyH_ready (rs := [7]) (by kernel_rfl) (by simp) (AllReadyH.cons rfl (fun Kc hK => ?_) AllReadyH.nil)
        go_simp
        rw [HV10.out]
        refine hK.out _ _ HSV10.out (fun hS => ?_)
        clear hK
        refine wpAnyH_ready (rs := [8]) (by kernel_rfl) (by simp) (AllReadyH.cons rfl (fun Kc hK => ?_) AllReadyH.nil)
        refine rdy_of (by kernel_rfl) ?_
        refine op_appE (f := mc) (d := m0) eltV (.tmp 42) (.tmp 49) rfl (by kernel_rfl) HOV10.out (by kernel_rfl) HRV10.out HL1.out HL2.out HSV10.out.1.size ?_
        intro v10 w10 hO10 hG10 hV10
        obtain ⟨a10, c10, e10, _⟩ := (hO10.rd m0).shape
        subst e10
        have e10' : (BK ++ [((bin, (i : Int)), (z1, z2))]).length = i + 1 := by rw [List.length_append, HlB.out]; rfl
        have hO10' := hO10
        rw [e10'] at hO10'
        rw [e10'] at hV10 ⊢
        have HSW10 : Hid (Below wS.heap.size wS w10 ∧ w10.heap[q]? = some (.cells #[.int .i64 bin, .int .i64 (i : Int)] 61 (0, 0))) := ⟨HSV10.out.1.trans (hG10.below HSV10.out.1.size (fun x hx => (HOV10.out.lt x hx).1)), (hG10.block q (Array.getElem?_eq_some_iff.1 HSV10.out.2).1 Hq7.out).trans HSV10.out.2⟩
        have HO10 := Hid.mk hO10'
        have HG10 := Hid.mk hG10
        have HVV10 := Hid.mk hV10
        clear hO10 hO10' hG10 hV10 e10'
        refine hK.out _ _ HSW10.out (fun hS => ?_)
        clear hK
        refine wpAnyH_take (i := 9) (v := .slice a10 (i + 1) c10) rfl (by kernel_rfl) (by kernel_rfl) (by kernel_rfl) (fun _ _ _ h => h) (Or.inl ⟨by kernel_rfl, fun _ _ => by kernel_rfl⟩) hS ?_
        refine wpAnyH_done (by kernel_rfl) ?_ _
        clear hS
        go_simp
        have HD97 : Hid (∀ g ∈ ob (.slice a9 (i + 1) c9), g ∉ ob (.slice a7 i c7)) := ⟨fun g hg hm => by
          rcases HVV9.out with e | e
          · exact HDj.out g (by simpa [ob, ← e] using hg) hm
          · have h1 : g = V9.heap.size := by simp [ob, e] at hg; exact hg
            have h2 := H7lt.out g hm
            have h3 := HBV9.out.size
            omega⟩
        have HO9e : Hid (OwnE mc 4 63 w10 wS.heap.size (.slice a9 (i + 1) c9) (awy Z bin (i + 1))) := ⟨by rw [HaS.out]; exact (HO9.out.far (Chg.ofBelow (X := []) HBV10.out) (by simp)).far HG10.out HD97.out⟩
        have HD910 : Hid (∀ g ∈ ob (.slice a9 (i + 1) c9), g ∉ ob (.slice a10 (i + 1) c10)) := ⟨fun g hg hm => by
          rcases HVV10.out with e | e
          · exact HD97.out g hg (by simpa [ob, ← e] using hm)
          · have h1 : g = V10.heap.size := by simp [ob, e] at hm; exact hm
            have h2 := (HO9.out.lt g hg).2
            have h3 := HBV10.out.size
            omega⟩
        go_wp2_with fail
        go_roundg (zl - (i + 1))
        case measure => omega
        case rel => exact ⟨i + 1, by omega, by omega, by go_num, HO9e, ⟨by rw [HbS.out]; exact HO10.out⟩, HD910, ⟨HSW10.out.1⟩⟩
    · obtain rfl : zl = i := by omega
      clear hgg
      rw [← Hzl.out] at HO6 HO7
      have Hb1 := Hid.mk (fun (r : Rf) (hr : r ∈ L) => back_one (bin := bin) (Hin.out r hr))
      have HBw : Hid (Below w.heap.size w wr) := ⟨HBS.out.trans (HB.out.mono HBS.out.size)⟩
      have HlA : Hid ((awy Z bin Z.length).length = zl) := ⟨by rw [awy_len, Hzl.out]⟩
      have HlB : Hid ((bck Z bin Z.length).length = zl) := ⟨by rw [bck_len, Hzl.out]⟩
      obtain ⟨AW, HAW⟩ : ∃ x, Hid (awy Z bin Z.length = x) := ⟨_, ⟨rfl⟩⟩
      obtain ⟨BK, HBK⟩ : ∃ x, Hid (bck Z bin Z.length = x) := ⟨_, ⟨rfl⟩⟩
      rw [HAW.out] at HO6 Hb1 HlA
      rw [HBK.out] at HO7 Hb1 HlB
      have c1 : cnt AW L = n := by rw [cnt_all (fun r hr => (Hb1.out r hr).1), Hn.out]
      have c2 : cnt BK (L.map (mv AW)) = n := by rw [cnt_all (fun r hr => by obtain ⟨r', h1, rfl⟩ := List.mem_map.1 hr; exact (Hb1.out r' h1).2.1), List.length_map, Hn.out]
      have c3 : (L.map (mv AW)).map (mv BK) = L := by
        rw [List.map_map]
        conv => rhs; rw [← List.map_id L]
        exact List.map_congr_left (fun r hr => (Hb1.out r hr).2.2)
      have Hsm2 : Hid (∀ r ∈ L.map (mv AW), Sm r.s) := ⟨fun r hr => by
        obtain ⟨r', hr', rfl⟩ := List.mem_map.1 hr
        have := HSms.out r' hr'
        unfold mv
        split
        · exact this
        · exact this⟩
      have t2 := move_any (w := wr) (.slice av n cv) (.slice a6 zl c6) L AW (H.out.below HBw.out) (by rw [Hn.out]; exact hL) (by rw [Hzl.out] at HO6; exact HO6.out.rd m0) (by rw [HlA.out]; omega)
      rw [c1] at t2
      have HO7z : Hid (RdE mc 4 m0 wr (.slice a7 zl c7) BK) := ⟨by rw [Hzl.out] at HO7; exact HO7.out.rd m0⟩
      have T3 : Hid (∀ w4 x, OwnE rc 35 56 w4 wr.heap.size x (L.map (mv AW)) → Below wr.heap.size wr w4 → Calls Try.prog 24 #[x, .slice a7 zl c7] w4 fun e w' => ∃ y, e = .returned (.tuple #[y, .int .i64 (n : Int)]) ∧ OwnE rc 35 56 w' w4.heap.size y L ∧ Below w4.heap.size w4 w') := ⟨fun w4 x ho hb => by
        have := move_any (w := w4) x (.slice a7 zl c7) (L.map (mv AW)) BK ((ho.rd r0).toR Hsm2.out) (by rw [List.length_map, Hn.out]; exact hL) (HO7z.out.far (Chg.ofBelow (X := []) hb) (by simp)) (by rw [HlB.out]; omega)
        rw [c2, c3] at this
        exact this⟩
      have hzl0 : ¬ (zl : Int) < (zl : Int) := by omega
      clear c1 c2 c3 Hb1 HO6 HO7 hlt
      go_upto_region 12 with (go_at_call 24; refine t2.mono ?_; rintro e w4 ⟨x4, rfl, hO4, hb4⟩)
      have t3 := T3.out w4 x4 hO4 hb4
      have HB4 : Hid (Below w.heap.size w w4) := ⟨HBw.out.trans (hb4.mono HBw.out.size)⟩
      clear t2 hO4 hb4
      go_upto_region 13 with (go_at_call 24; refine t3.mono ?_; rintro e w5 ⟨x5, rfl, hO5, hb5⟩)
      obtain ⟨a5, c5, e5, _⟩ := (hO5.rd r0).shape
      subst e5
      have HO5 : Hid (RdR w5 (.slice a5 n c5) L) := ⟨by have := (hO5.rd r0).toR HSms.out; rw [Hn.out] at this; exact this⟩
      have HB5 : Hid (Below w.heap.size w w5) := ⟨HB4.out.trans (hb5.mono HB4.out.size)⟩
      rw [Hn.out]
      clear t3 hO5 hb5
      have A12 := live_any (w := w5)
      have A17 : ∀ w6, Below w5.heap.size w5 w6 → Calls Try.prog 17 #[.slice a5 n c5, .slice av n cv] w6 fun e w' => e = .returned (.bool true) ∧ Below w.heap.size w w' := fun w6 hb => (same_yes _ _ L (HO5.out.below hb) (H.out.below (HB5.out.trans (hb.mono HB5.out.size))) (by rw [Hn.out]; omega)).mono (fun e w' hh => ⟨hh.1, (HB5.out.trans (hb.mono HB5.out.size)).trans (hh.2.below (HB5.out.trans (hb.mono HB5.out.size)).size (by simp))⟩)
      go_wp2_with (first
        | (go_at_call 12; refine A12.mono ?_; rintro e w6 ⟨rfl, hb6⟩)
        | (go_at_call 17; refine (A17 _ (by assumption)).mono ?_; rintro e w7 ⟨rfl, hb7⟩))
      go_ret
      exact ⟨rfl, by assumption⟩
end
end Go.Proofs.Ytkkcdmdkjedkjaa
