/- The document's Choose. -/
import Derived.Test.YtjcojpddjhjhbaaD3
import Derived.Test.YtjcojpddjhjhbaaD1
namespace Go.Proofs.Ytjcojpddjhjhbaa
open Go.RowKit Go.Lib

/-- One of some is wrong. -/
def AnyW (L : List Sh) : Prop := L.any shw = true
theorem ins_perm (M : List Sh) (x : Sh) (k : Nat) : (M.take k ++ [x] ++ M.drop k).Perm (M ++ [x]) := by
  have h1 : (M.take k ++ [x] ++ M.drop k).Perm (x :: (M.take k ++ M.drop k)) := by rw [List.append_assoc]; exact List.perm_middle
  rw [List.take_append_drop] at h1
  exact h1.trans (show (x :: M).Perm (M ++ [x]) from List.perm_append_comm (l₁ := [x]))
theorem aft_of {M : List Sh} (h : Ord M) (hr : AllRt M) {x : Sh} (hx : Rt x) {k : Nat} (hk : k < M.length) (h1 : shl x (M.getD k s0) = true) : ∀ y ∈ M.drop k, shl y x = false := by
  intro y hy
  have hu := hr _ (getD_mem' (d := s0) hk)
  have h2 := shl_as hx hu h1
  rw [List.drop_eq_getElem_cons hk] at hy
  have e : M.getD k s0 = M[k] := by simp [List.getD, List.getElem?_eq_getElem hk]
  rcases List.mem_cons.1 hy with rfl | hy'
  · rw [← e]; exact h2
  · have h3 := h
    unfold Ord at h3
    rw [← List.take_append_drop k M, List.pairwise_append] at h3
    have h4 := h3.2.1
    rw [List.drop_eq_getElem_cons hk, List.pairwise_cons] at h4
    have h5 := h4.1 y hy'
    rw [← e] at h5
    exact shl_nt (hr y (List.mem_of_mem_drop (by rw [List.drop_eq_getElem_cons hk]; exact hy))) hu hx h5 h2
theorem bef_snoc {M : List Sh} {k : Nat} {x : Sh} (hk : k < M.length) (h : ∀ y ∈ M.take k, shl x y = false) (h1 : shl x (M.getD k s0) = false) : ∀ y ∈ M.take (k + 1), shl x y = false := by
  intro y hy
  rw [List.take_add_one, List.getElem?_eq_getElem hk, List.mem_append] at hy
  rcases hy with hy | hy
  · exact h y hy
  · simp at hy
    subst hy
    simpa [List.getD, List.getElem?_eq_getElem hk] using h1
theorem rt_snoc {L : List Sh} {i : Nat} (hi : i < L.length) (h : AllRt (L.take i)) (hx : Rt (L.getD i s0)) : AllRt (L.take (i + 1)) := fun s hs => by
  rw [List.take_add_one, List.getElem?_eq_getElem hi, List.mem_append] at hs
  rcases hs with hs | hs
  · exact h s hs
  · simp at hs
    subst hs
    simpa [List.getD, List.getElem?_eq_getElem hi] using hx
section
variable {w : World}
set_option maxHeartbeats 16000000 in
set_option maxRecDepth 100000 in
theorem rchoose14 (v : Value) (L : List Sh) (h : RdE sh3 3 s0 w v L) (hL : L.length ≤ 5864062014700) (p most : Int) (hp : 0 ≤ p ∧ p ≤ 100) (hm : 0 ≤ most) :
    Calls Try.prog 14 #[v, .int .i64 p, .int .i64 most] w fun e w' => ∃ x, ∃ n : Int, e = .returned (.tuple #[x, .int .i64 n]) ∧ Below w.heap.size w w' ∧ ((AnyW L ∧ n = 2 ∧ x = .slice none 0 0) ∨ (AllRt L ∧ n = 0 ∧ ∃ S, S.Perm (L.filter (low p)) ∧ Ord S ∧ RdI w' x ((S.map (·.1)).take most.toNat))) := by
  have H := Hid.mk h
  obtain ⟨av, cv, rfl, hcv, hcm, _⟩ := h.shape
  obtain ⟨n, Hn⟩ : ∃ n, Hid (L.length = n) := ⟨_, ⟨rfl⟩⟩
  rw [Hn.out] at H hcv hL ⊢
  have hcvx : cv ≤ 9223372036854775807 := hcm
  have p0 : ¬ p < 0 := by omega
  have p1 : ¬ 100 < p := by omega
  have p2 : ¬ most < 0 := by omega
  have HTe : Hid (L.take n = L) := ⟨List.take_of_length_le (by rw [Hn.out]; exact Nat.le_refl _)⟩
  have HO0 : Hid (OwnE sh3 3 27 (w.alloc (.cells #[] 27)) w.heap.size (.slice (some ⟨w.heap.size, 0, none⟩) 0 0) []) := ⟨OwnE.none sh3 3 27 w⟩
  clear h
  go_enter Try.func14, Try.ntmps14
  go_wp2_with fail
  go_loopg [8, 9, 10, 11, 12] n (fun gg s8 s9 _ _ _ wr => ∃ i : Nat, ∃ M : List Sh, i ≤ n ∧ n - i ≤ gg ∧ s9 = .int .i64 (i : Int) ∧ Hid (OwnE sh3 3 27 wr w.heap.size s8 M) ∧ Hid (Ord M) ∧ Hid (M.Perm ((L.take i).filter (low p))) ∧ Hid (AllRt (L.take i)) ∧ Hid (M.length ≤ i) ∧ Hid (Below w.heap.size w wr) ∧ Hid (s8.ownBlock ≠ none))
  case atStart => exact ⟨0, [], Nat.zero_le _, by omega, rfl, HO0, ⟨List.Pairwise.nil⟩, ⟨by simp⟩, ⟨fun s hs => by simp at hs⟩, ⟨Nat.le_refl _⟩, ⟨(Below.refl _ w).alloc (Nat.le_refl _) _⟩, ⟨by simp [Value.ownBlock]⟩⟩
  case round =>
    clear HO0
    obtain ⟨i, M, hi, hgg, rfl, HO, HSr, HMm, HRt, HMl, HB, Hsome⟩ := hrel
    rename World => wo
    obtain ⟨a3, c3, e3, hc3, hc3m, _⟩ := (HO.out.rd s0).shape
    subst e3
    obtain ⟨m, Hm⟩ : ∃ x, Hid (M.length = x) := ⟨_, ⟨rfl⟩⟩
    rw [Hm.out] at HO HMl hc3 Hsome ⊢
    have HMr : Hid (AllRt M) := ⟨fun s hs => HRt.out s (List.mem_filter.1 (HMm.out.mem_iff.1 hs)).1⟩
    by_cases hlt : i < n
    · have hltz : (i : Int) < (n : Int) := by omega
      have hiL : i < L.length := by rw [Hn.out]; exact hlt
      obtain ⟨b, off, cap, e, hc⟩ := (H.out.far (Chg.ofBelow (X := []) HB.out) (by simp)).at' i hiL
      rw [Hn.out] at e
      simp at e
      obtain ⟨rfl, rfl⟩ := e
      have HFs := Hid.mk (filter_snoc (q := low p) hiL)
      have HRs := Hid.mk (rt_snoc hiL HRt.out)
      have HxL : Hid (L.getD i s0 ∈ L) := ⟨getD_mem' hiL⟩
      generalize L.getD i s0 = x at hc HFs HRs HxL
      obtain ⟨x1, x2, x3⟩ := x
      have c0 := hc 0 (by decide)
      have c1 := hc 1 (by decide)
      have c2 := hc 2 (by decide)
      clear hc
      simp [sh3] at c0 c1 c2
      obtain ⟨g, eg⟩ := own_g HO.out Hsome.out
      subst eg
      clear Hsome
      obtain ⟨w2, Hw2⟩ : ∃ x, Hid (wo.alloc (.cells #[.int .i64 x1, .int .i64 x2, .int .i64 x3] 27) = x) := ⟨_, ⟨rfl⟩⟩
      have HB2 : Hid (Below wo.heap.size wo w2) := ⟨by rw [← Hw2.out]; exact (Below.refl _ wo).alloc (Nat.le_refl _) _⟩
      have HA2 : Hid (w2.heap[wo.heap.size]? = some (.cells #[.int .i64 x1, .int .i64 x2, .int .i64 x3] 27 (0, 0))) := ⟨by rw [← Hw2.out]; exact heap_alloc_new wo _⟩
      have HO2 : Hid (OwnE sh3 3 27 w2 w.heap.size (.slice (some ⟨g, 0, none⟩) m c3) M) := ⟨HO.out.far (Chg.ofBelow (X := []) HB2.out) (by simp)⟩
      have HB02 : Hid (Below w.heap.size w w2) := ⟨HB.out.trans (HB2.out.mono HB.out.size)⟩
      obtain ⟨q, Hq⟩ : ∃ x, Hid (wo.heap.size = x) := ⟨_, ⟨rfl⟩⟩
      rw [Hq.out] at HA2
      go_upto_region 8 with fail
      rw [Hw2.out, Hq.out]
      have k0 : w2.cell? ⟨q, 0, none⟩ = some (.int .i64 x1) := by rw [cell_of_row _ _ _ _ _ _ HA2.out]; rfl
      have k1 : w2.cell? ⟨q, 1, none⟩ = some (.int .i64 x2) := by rw [cell_of_row _ _ _ _ _ _ HA2.out]; rfl
      have k2 : w2.cell? ⟨q, 2, none⟩ = some (.int .i64 x3) := by rw [cell_of_row _ _ _ _ _ _ HA2.out]; rfl
      clear c0 c1 c2 HO HB HB2
      by_cases hw : shw (x1, x2, x3) = true
      · have Hany : Hid (AnyW L) := ⟨List.any_eq_true.2 ⟨_, HxL.out, hw⟩⟩
        have hw' : x3 < 0 ∨ x2 < x3 ∨ 32768 < x2 := by simpa [shw] using hw
        clear hw
        by_cases h1 : x3 < 0
        · clear hw'
          go_wp2_with fail
          go_ret2
          exact ⟨_, 2, rfl, HB02.out, .inl ⟨Hany.out, rfl, rfl⟩⟩
        · by_cases h2 : x2 < x3
          · clear hw'
            go_wp2_with fail
            go_ret2
            exact ⟨_, 2, rfl, HB02.out, .inl ⟨Hany.out, rfl, rfl⟩⟩
          · have h3 : 32768 < x2 := by omega
            clear hw'
            go_wp2_with fail
            go_ret2
            exact ⟨_, 2, rfl, HB02.out, .inl ⟨Hany.out, rfl, rfl⟩⟩
      · have hwf : shw (x1, x2, x3) = false := by simpa using hw
        have hrx := (shw_rt _).1 hwf
        have HRn := Hid.mk (HRs.out hrx)
        have Hrx := Hid.mk hrx
        obtain ⟨r1, r2, r3⟩ := hrx
        simp only at r1 r2 r3
        have r1' : ¬ x3 < 0 := by omega
        have r2' : ¬ x2 < x3 := by omega
        have r3' : ¬ 32768 < x2 := by omega
        clear hw hwf HRs
        have pm := prod_fit (a := p) (b := x2) hp.1 (by omega) (by omega) r3
        obtain ⟨pm1, Hpm⟩ : ∃ z, Hid (p * x2 = z) := ⟨_, ⟨rfl⟩⟩
        have hpm := Hpm.out
        rw [hpm] at pm
        have qm : IntKind.i64.wrap pm1 = pm1 := IntWalk.i64_in _ ⟨by omega, by omega⟩
        have Hlow : Hid (low p (x1, x2, x3) = (decide (100 * x3 < pm1) || (decide (x2 = 0) && decide (0 < p)))) := ⟨by
          unfold low
          simp only
          by_cases hz : x2 = 0
          · have h3 : x3 = 0 := by omega
            have h4 : pm1 = 0 := by rw [← hpm, hz, Int.mul_zero]
            simp [hz, h3, h4]
          · rw [if_neg hz, hpm]
            simp [hz]⟩
        by_cases hlow : low p (x1, x2, x3) = true
        · have HFn : Hid ((L.take (i + 1)).filter (low p) = (L.take i).filter (low p) ++ [(x1, x2, x3)]) := ⟨by rw [HFs.out, if_pos hlow]⟩
          rw [Hlow.out] at hlow
          have hcase : 100 * x3 < pm1 ∨ (¬ 100 * x3 < pm1 ∧ x2 = 0 ∧ 0 < p) := by
            simp at hlow
            omega
          clear hlow
          rcases hcase with n1 | ⟨n1, n2, n3⟩
          · go_upto_region 12 with fail
            clear n1 hpm qm pm k0 k1 k2
            go_loopg [11] m (fun gg2 s11 wr => ∃ k : Nat, k ≤ m ∧ m - k ≤ gg2 ∧ s11 = .int .i64 (k : Int) ∧ Hid (∀ y ∈ M.take k, shl (x1, x2, x3) y = false) ∧ Hid (OwnE sh3 3 27 wr w.heap.size (.slice (some ⟨g, 0, none⟩) m c3) M) ∧ Hid (wr.heap[q]? = some (.cells #[.int .i64 x1, .int .i64 x2, .int .i64 x3] 27 (0, 0))) ∧ Hid (Below w.heap.size w wr))
            case atStart => exact ⟨0, Nat.zero_le _, by omega, rfl, ⟨by simp⟩, HO2, HA2, HB02⟩
            case round =>
              clear HO2 HA2 HB02
              obtain ⟨k, hk, hgg2, rfl, Hbef, HOr, HAr, HBr⟩ := hrel
              rename World => wk
              have hmb : m ≤ 5864062014699 := by have := HMl.out; omega
              have hmc : m ≤ c3 := hc3
              have hcx : c3 ≤ 9223372036854775807 := hc3m
              by_cases hkm : k < m
              · have hkmz : (k : Int) < (m : Int) := by omega
                have hkL : k < M.length := by rw [Hm.out]; exact hkm
                have e0 := own_cellE HOr.out s0 (i := k) (j := 0) hkL (by decide)
                have e1 := own_cellE HOr.out s0 (i := k) (j := 1) hkL (by decide)
                have e2 := own_cellE HOr.out s0 (i := k) (j := 2) hkL (by decide)
                have Hru : Hid (Rt (M.getD k s0)) := ⟨HMr.out _ (getD_mem' hkL)⟩
                have Hafk := Hid.mk (aft_of HSr.out HMr.out Hrx.out hkL)
                have Hbfk := Hid.mk (bef_snoc hkL Hbef.out)
                generalize M.getD k s0 = uu at e0 e1 e2 Hru Hafk Hbfk
                obtain ⟨u1, u2, u3⟩ := uu
                simp [sh3] at e0 e1 e2
                have HK : Hid (∀ w', Below wk.heap.size wk w' → w'.cell? ⟨g, k * 3, none⟩ = some (.int .i64 u1) ∧ w'.cell? ⟨g, k * 3 + 1, none⟩ = some (.int .i64 u2) ∧ w'.cell? ⟨g, k * 3 + 2, none⟩ = some (.int .i64 u3) ∧ w'.cell? ⟨q, 0, none⟩ = some (.int .i64 x1) ∧ w'.cell? ⟨q, 1, none⟩ = some (.int .i64 x2) ∧ w'.cell? ⟨q, 2, none⟩ = some (.int .i64 x3)) := ⟨fun w' h => by
                  have hq := (h.block q (Array.getElem?_eq_some_iff.1 HAr.out).1).trans HAr.out
                  refine ⟨(h.cell (p := ⟨g, k * 3, none⟩) (World.block_lt_of_cell? _ _ e0)).trans e0, (h.cell (p := ⟨g, k * 3 + 1, none⟩) (World.block_lt_of_cell? _ _ e1)).trans e1, (h.cell (p := ⟨g, k * 3 + 2, none⟩) (World.block_lt_of_cell? _ _ e2)).trans e2, ?_, ?_, ?_⟩
                  · rw [cell_of_row _ _ _ _ _ _ hq]; rfl
                  · rw [cell_of_row _ _ _ _ _ _ hq]; rfl
                  · rw [cell_of_row _ _ _ _ _ _ hq]; rfl⟩
                clear e0 e1 e2
                obtain ⟨y, Hls⟩ : ∃ y, Hid (shl (x1, x2, x3) (u1, u2, u3) = y) := ⟨_, ⟨rfl⟩⟩
                rw [Hls.out] at Hafk Hbfk
                cases y with
                | false =>
                  have Hnx := Hid.mk (Hbfk.out rfl)
                  clear Hafk Hbfk
                  go_upto_region 12 with fail
                  refine wp_region_held_drew (S := fun w' => Below wk.heap.size wk w') (by kernel_rfl) (below_drewN (Below.refl _ wk) 1) (fun hS => ?_)
                  refine wpAnyH_take (i := 0) (v := .int .i64 (k : Int)) rfl (by kernel_rfl) (by kernel_rfl) (by kernel_rfl) (fun _ _ _ h => h) (Or.inl ⟨by kernel_rfl, fun _ _ => by kernel_rfl⟩) hS ?_
                  refine wpAnyH_take (i := 1) (v := .slice (some ⟨g, 0, none⟩) m c3) rfl (by kernel_rfl) (by kernel_rfl) (by kernel_rfl) (fun _ _ _ h => h) (Or.inl ⟨by kernel_rfl, fun _ _ => by kernel_rfl⟩) hS ?_
                  refine wpAnyH_take (i := 2) (v := .int .i64 (m : Int)) rfl (by kernel_rfl) (by kernel_rfl) (by kernel_rfl) (fun _ _ _ h => h) (Or.inl ⟨by kernel_rfl, fun wx hx => by go_simp⟩) hS ?_
                  refine wpAnyH_take (i := 3) (v := .bool true) rfl (by kernel_rfl) (by kernel_rfl) (by kernel_rfl) (fun _ _ _ h => h) (Or.inl ⟨by kernel_rfl, fun wx hx => by go_simp⟩) hS ?_
                  refine wpAnyH_take (i := 4) (v := .bool true) rfl (by kernel_rfl) (by kernel_rfl) (by kernel_rfl) (fun _ _ _ h => h) (Or.inl ⟨by kernel_rfl, fun wx hx => by go_simp⟩) hS ?_
                  refine wpAnyH_take (i := 5) (v := .agg #[.int .i64 x1, .int .i64 x2, .int .i64 x3]) rfl (by kernel_rfl) (by kernel_rfl) (by kernel_rfl) (fun _ _ _ h => h) (Or.inl ⟨by kernel_rfl, fun wx hx => by have hx0 := HK.out wx hx; obtain ⟨hx1, hx2, hx3, hx4, hx5, hx6⟩ := hx0; go_simp⟩) hS ?_
                  refine wpAnyH_take (i := 6) (v := .slice (some ⟨g, 0, none⟩) m c3) rfl (by kernel_rfl) (by kernel_rfl) (by kernel_rfl) (fun _ _ _ h => h) (Or.inl ⟨by kernel_rfl, fun wx hx => by go_simp⟩) hS ?_
                  refine wpAnyH_take (i := 7) (v := .int .i64 (k : Int)) rfl (by kernel_rfl) (by kernel_rfl) (by kernel_rfl) (fun _ _ _ h => h) (Or.inl ⟨by kernel_rfl, fun wx hx => by go_simp⟩) hS ?_
                  refine wpAnyH_take (i := 8) (v := .pointer (some ⟨g, k * 3, none⟩)) rfl (by kernel_rfl) (by kernel_rfl) (by kernel_rfl) (fun _ _ _ h => h) (Or.inl ⟨by kernel_rfl, fun wx hx => by go_simp⟩) hS ?_
                  refine wpAnyH_take (i := 9) (v := .agg #[.int .i64 u1, .int .i64 u2, .int .i64 u3]) rfl (by kernel_rfl) (by kernel_rfl) (by kernel_rfl) (fun _ _ _ h => h) (Or.inl ⟨by kernel_rfl, fun wx hx => by have hx0 := HK.out wx hx; obtain ⟨hx1, hx2, hx3, hx4, hx5, hx6⟩ := hx0; go_simp⟩) hS ?_
                  refine wpAnyH_ready (rs := [10]) (by kernel_rfl) (by simp) (AllReadyH.cons rfl (fun Kc hK => ?_) AllReadyH.nil)
                  go_simp
                  refine (rless26 (x1, x2, x3) (u1, u2, u3) Hrx.out Hru.out).mono ?_
                  rintro e w5 ⟨rfl, hb5⟩
                  rw [Hls.out]
                  refine hK.out _ _ (hS.trans (hb5.mono hS.size)) (fun hS => ?_)
                  clear hK
                  refine wpAnyH_take (i := 11) (v := .bool true) rfl (by kernel_rfl) (by kernel_rfl) (by kernel_rfl) (fun _ _ _ h => h) (Or.inl ⟨by kernel_rfl, fun wx hx => by go_simp⟩) hS ?_
                  refine wpAnyH_take (i := 12) (v := .bool true) rfl (by kernel_rfl) (by kernel_rfl) (by kernel_rfl) (fun _ _ _ h => h) (Or.inl ⟨by kernel_rfl, fun wx hx => by go_simp⟩) hS ?_
                  have HBr5 := Hid.mk hS
                  clear hS
                  refine wpAnyH_done (by kernel_rfl) ?_ _
                  go_simp
                  have HO5 : Hid (OwnE sh3 3 27 w5 w.heap.size (.slice (some ⟨g, 0, none⟩) m c3) M) := ⟨HOr.out.far (Chg.ofBelow (X := []) HBr5.out) (by simp)⟩
                  have HA5 : Hid (w5.heap[q]? = some (.cells #[.int .i64 x1, .int .i64 x2, .int .i64 x3] 27 (0, 0))) := ⟨(HBr5.out.block q (Array.getElem?_eq_some_iff.1 HAr.out).1).trans HAr.out⟩
                  have HB5 : Hid (Below w.heap.size w w5) := ⟨HBr.out.trans (HBr5.out.mono HBr.out.size)⟩
                  go_wp2_with fail
                  go_roundg (m - (k + 1))
                  case measure => omega
                  case rel => exact ⟨k + 1, by omega, by omega, by go_num, Hnx, HO5, HA5, HB5⟩
                | true =>
                  have Haft := Hid.mk (Hafk.out rfl)
                  clear Hafk Hbfk
                  go_upto_region 12 with fail
                  refine wp_region_held_drew (S := fun w' => Below wk.heap.size wk w') (by kernel_rfl) (below_drewN (Below.refl _ wk) 1) (fun hS => ?_)
                  refine wpAnyH_take (i := 0) (v := .int .i64 (k : Int)) rfl (by kernel_rfl) (by kernel_rfl) (by kernel_rfl) (fun _ _ _ h => h) (Or.inl ⟨by kernel_rfl, fun _ _ => by kernel_rfl⟩) hS ?_
                  refine wpAnyH_take (i := 1) (v := .slice (some ⟨g, 0, none⟩) m c3) rfl (by kernel_rfl) (by kernel_rfl) (by kernel_rfl) (fun _ _ _ h => h) (Or.inl ⟨by kernel_rfl, fun _ _ => by kernel_rfl⟩) hS ?_
                  refine wpAnyH_take (i := 2) (v := .int .i64 (m : Int)) rfl (by kernel_rfl) (by kernel_rfl) (by kernel_rfl) (fun _ _ _ h => h) (Or.inl ⟨by kernel_rfl, fun wx hx => by go_simp⟩) hS ?_
                  refine wpAnyH_take (i := 3) (v := .bool true) rfl (by kernel_rfl) (by kernel_rfl) (by kernel_rfl) (fun _ _ _ h => h) (Or.inl ⟨by kernel_rfl, fun wx hx => by go_simp⟩) hS ?_
                  refine wpAnyH_take (i := 4) (v := .bool true) rfl (by kernel_rfl) (by kernel_rfl) (by kernel_rfl) (fun _ _ _ h => h) (Or.inl ⟨by kernel_rfl, fun wx hx => by go_simp⟩) hS ?_
                  refine wpAnyH_take (i := 5) (v := .agg #[.int .i64 x1, .int .i64 x2, .int .i64 x3]) rfl (by kernel_rfl) (by kernel_rfl) (by kernel_rfl) (fun _ _ _ h => h) (Or.inl ⟨by kernel_rfl, fun wx hx => by have hx0 := HK.out wx hx; obtain ⟨hx1, hx2, hx3, hx4, hx5, hx6⟩ := hx0; go_simp⟩) hS ?_
                  refine wpAnyH_take (i := 6) (v := .slice (some ⟨g, 0, none⟩) m c3) rfl (by kernel_rfl) (by kernel_rfl) (by kernel_rfl) (fun _ _ _ h => h) (Or.inl ⟨by kernel_rfl, fun wx hx => by go_simp⟩) hS ?_
                  refine wpAnyH_take (i := 7) (v := .int .i64 (k : Int)) rfl (by kernel_rfl) (by kernel_rfl) (by kernel_rfl) (fun _ _ _ h => h) (Or.inl ⟨by kernel_rfl, fun wx hx => by go_simp⟩) hS ?_
                  refine wpAnyH_take (i := 8) (v := .pointer (some ⟨g, k * 3, none⟩)) rfl (by kernel_rfl) (by kernel_rfl) (by kernel_rfl) (fun _ _ _ h => h) (Or.inl ⟨by kernel_rfl, fun wx hx => by go_simp⟩) hS ?_
                  refine wpAnyH_take (i := 9) (v := .agg #[.int .i64 u1, .int .i64 u2, .int .i64 u3]) rfl (by kernel_rfl) (by kernel_rfl) (by kernel_rfl) (fun _ _ _ h => h) (Or.inl ⟨by kernel_rfl, fun wx hx => by have hx0 := HK.out wx hx; obtain ⟨hx1, hx2, hx3, hx4, hx5, hx6⟩ := hx0; go_simp⟩) hS ?_
                  refine wpAnyH_ready (rs := [10]) (by kernel_rfl) (by simp) (AllReadyH.cons rfl (fun Kc hK => ?_) AllReadyH.nil)
                  go_simp
                  refine (rless26 (x1, x2, x3) (u1, u2, u3) Hrx.out Hru.out).mono ?_
                  rintro e w5 ⟨rfl, hb5⟩
                  rw [Hls.out]
                  refine hK.out _ _ (hS.trans (hb5.mono hS.size)) (fun hS => ?_)
                  clear hK
                  refine wpAnyH_take (i := 11) (v := .bool false) rfl (by kernel_rfl) (by kernel_rfl) (by kernel_rfl) (fun _ _ _ h => h) (Or.inl ⟨by kernel_rfl, fun wx hx => by go_simp⟩) hS ?_
                  refine wpAnyH_take (i := 12) (v := .bool false) rfl (by kernel_rfl) (by kernel_rfl) (by kernel_rfl) (fun _ _ _ h => h) (Or.inl ⟨by kernel_rfl, fun wx hx => by go_simp⟩) hS ?_
                  have HBr5 := Hid.mk hS
                  clear hS
                  refine wpAnyH_done (by kernel_rfl) ?_ _
                  go_simp
                  have HOi : Hid (OwnE sh3 3 27 w5 w.heap.size (.slice (some ⟨g, 0, none⟩) m c3) M) := ⟨HOr.out.far (Chg.ofBelow (X := []) HBr5.out) (by simp)⟩
                  have HAi : Hid (w5.heap[q]? = some (.cells #[.int .i64 x1, .int .i64 x2, .int .i64 x3] 27 (0, 0))) := ⟨(HBr5.out.block q (Array.getElem?_eq_some_iff.1 HAr.out).1).trans HAr.out⟩
                  have HBi : Hid (Below w.heap.size w w5) := ⟨HBr.out.trans (HBr5.out.mono HBr.out.size)⟩
                  obtain ⟨wi, Hwi⟩ : ∃ x, Hid (w5 = x) := ⟨_, ⟨rfl⟩⟩
                  rw [Hwi.out] at HOi HAi HBi ⊢
                  clear Hwi HOr HAr HBr HBr5 HK Hls Hru
                  have HRT : Hid (RdE sh3 3 s0 wi (.slice (some ⟨g, 0, none⟩) k c3) (M.take k)) := ⟨(HOi.out.rd s0).take' Hm.out (by omega)⟩
                  obtain ⟨V1, HV1⟩ : ∃ x, Hid (wi.alloc (.cells #[] 27) = x) := ⟨_, ⟨rfl⟩⟩
                  have HBV1 : Hid (Below wi.heap.size wi V1) := ⟨by rw [← HV1.out]; exact (Below.refl _ wi).alloc (Nat.le_refl _) _⟩
                  have HN1 : Hid (OwnE sh3 3 27 V1 w.heap.size (.slice (some ⟨wi.heap.size, 0, none⟩) 0 0) []) := ⟨by rw [← HV1.out]; exact (OwnE.none sh3 3 27 wi).base HBi.out.size⟩
                  have HRT1 : Hid (RdE sh3 3 s0 V1 (.slice (some ⟨g, 0, none⟩) k c3) (M.take k)) := ⟨HRT.out.far (Chg.ofBelow (X := []) HBV1.out) (by simp)⟩
                  obtain ⟨z1, Hz1⟩ : ∃ x, Hid (wi.heap.size = x) := ⟨_, ⟨rfl⟩⟩
                  have Hgz : Hid (g < z1) := ⟨by rw [← Hz1.out]; exact (HOi.out.lt g (by simp [ob, Value.ownBlock])).2⟩
                  have Hwz : Hid (w.heap.size ≤ z1) := ⟨by rw [← Hz1.out]; exact HBi.out.size⟩
                  have HV1s : Hid (V1.heap.size = z1 + 1) := ⟨by rw [← HV1.out, ← Hz1.out]; simp⟩
                  rw [Hz1.out] at HN1
                  have hl1 : (([] : List Sh).length + (M.take k).length) * 24 ≤ 140737488355328 := by rw [List.length_take, Hm.out]; simp; omega
                  have hl2 : ([] : List Sh).length + (M.take k).length ≤ maxLen := by rw [List.length_take, Hm.out]; unfold maxLen; simp; omega
                  have hl3 : w.heap.size ≤ V1.heap.size := by have := HV1s.out; have := Hwz.out; omega
                  have Hlt : Hid ((M.take k).length = k) := ⟨by rw [List.length_take, Hm.out]; omega⟩
                  have hkm0 : (k : Int) ≤ (m : Int) := by omega
                  have hkc0 : (k : Int) ≤ (c3 : Int) := by omega
                  have hkm1 : k ≤ m := by omega
                  have hkc1 : k ≤ c3 := by omega
                  go_upto_region 15 with (first
                    | (rw [HV1.out, Hz1.out])
                    | (refine wp_appE (f := sh3) (d := s0) eltS rfl (.tmp 83) (.tmp 86) rfl rfl HN1.out rfl HRT1.out hl1 hl2 hl3 ?_; intro v4 w4 hO4 hG4 hV4))
                  obtain ⟨a4, c4, e4, _⟩ := (hO4.rd s0).shape
                  rw [List.nil_append] at hO4 e4
                  subst e4
                  rw [Hlt.out] at hO4 hV4 ⊢
                  have HG4' : Hid (Chg (ob (.slice (some ⟨z1, 0, none⟩) 0 0)) V1 w4) := ⟨hG4⟩
                  have HG4 : Hid (Chg [z1] V1 w4) := ⟨by have := HG4'.out; simpa [ob, Value.ownBlock] using this⟩
                  have hV4' : (Value.slice a4 k c4).ownBlock = (Value.slice (some ⟨z1, 0, none⟩) 0 0).ownBlock ∨ (Value.slice a4 k c4).ownBlock = some V1.heap.size := hV4
                  have HO4 := Hid.mk hO4
                  have Hv4 : Hid (∀ x ∈ ob (.slice a4 k c4), z1 ≤ x) := ⟨fun x hx => by
                    rw [mem_ob] at hx
                    rcases hV4' with e | e
                    · rw [e] at hx; simp [Value.ownBlock] at hx; omega
                    · rw [e, HV1s.out] at hx; simp at hx; omega⟩
                  have HB4 : Hid (Below w.heap.size w w4) := ⟨(HBi.out.trans (HBV1.out.mono HBi.out.size)).trans (HG4.out.below (by have := HV1s.out; have := Hwz.out; omega) (by have := Hwz.out; simpa using this))⟩
                  have HCD4 : Hid (Chg [] wi w4) := ⟨(Chg.ofBelow (X := []) HBV1.out).thenNew HG4.out (by have := Hz1.out; simp; omega)⟩
                  have HA4 : Hid (w4.heap[q]? = some (.cells #[.int .i64 x1, .int .i64 x2, .int .i64 x3] 27 (0, 0))) := ⟨(HCD4.out.block q (Array.getElem?_eq_some_iff.1 HAi.out).1 (by simp)).trans HAi.out⟩
                  have d0 : w4.cell? ⟨q, 0, none⟩ = some (.int .i64 x1) := by rw [cell_of_row _ _ _ _ _ _ HA4.out]; rfl
                  have d1 : w4.cell? ⟨q, 1, none⟩ = some (.int .i64 x2) := by rw [cell_of_row _ _ _ _ _ _ HA4.out]; rfl
                  have d2 : w4.cell? ⟨q, 2, none⟩ = some (.int .i64 x3) := by rw [cell_of_row _ _ _ _ _ _ HA4.out]; rfl
                  clear hO4 hG4 hV4 hV4' HG4' HRT HRT1 HN1
                  obtain ⟨V5, HV5⟩ : ∃ x, Hid (w4.alloc (.cells #[.int .i64 x1, .int .i64 x2, .int .i64 x3] 27) = x) := ⟨_, ⟨rfl⟩⟩
                  have HBV5 : Hid (Below w4.heap.size w4 V5) := ⟨by rw [← HV5.out]; exact (Below.refl _ w4).alloc (Nat.le_refl _) _⟩
                  have HR5 : Hid (RdE sh3 3 s0 V5 (.slice (some ⟨w4.heap.size, 0, none⟩) 1 1) [(x1, x2, x3)]) := ⟨by rw [← HV5.out]; exact rde_one w4 ((x1, x2, x3) : Sh) rfl (sh3_one (x1, x2, x3)).2 27⟩
                  have HO5 : Hid (OwnE sh3 3 27 V5 w.heap.size (.slice a4 k c4) (M.take k)) := ⟨HO4.out.far (Chg.ofBelow (X := []) HBV5.out) (by simp)⟩
                  have HB5 : Hid (Below w.heap.size w V5) := ⟨HB4.out.trans (HBV5.out.mono HB4.out.size)⟩
                  have hm1 : ((M.take k).length + [((x1, x2, x3) : Sh)].length) * 24 ≤ 140737488355328 := by rw [Hlt.out]; simp; omega
                  have hm2 : (M.take k).length + [((x1, x2, x3) : Sh)].length ≤ maxLen := by rw [Hlt.out]; unfold maxLen; simp; omega
                  have hm3 : w.heap.size ≤ V5.heap.size := HB5.out.size
                  go_upto_region 16 with (first
                    | (refine wp_sliceE eltS rfl (.tmp 89) rfl #[.int .i64 x1, .int .i64 x2, .int .i64 x3] rfl rfl (by decide) ?_; rw [HV5.out])
                    | (rw [HV5.out]; refine wp_appE (f := sh3) (d := s0) eltS rfl (.tmp 88) (.tmp 90) rfl rfl HO5.out rfl HR5.out hm1 hm2 hm3 ?_; intro v6 w6 hO6 hG6 hV6)
                    | (refine wp_appE (f := sh3) (d := s0) eltS rfl (.tmp 88) (.tmp 90) rfl rfl HO5.out rfl HR5.out hm1 hm2 hm3 ?_; intro v6 w6 hO6 hG6 hV6))
                  obtain ⟨a6, c6, e6, _⟩ := (hO6.rd s0).shape
                  subst e6
                  have HG6 : Hid (Chg (ob (.slice a4 k c4)) V5 w6) := ⟨hG6⟩
                  obtain ⟨n6, Hn6⟩ : ∃ x, Hid ((M.take k ++ [((x1, x2, x3) : Sh)]).length = x) := ⟨_, ⟨rfl⟩⟩
                  have Hn6k : Hid (n6 = k + 1) := ⟨by rw [← Hn6.out, List.length_append, Hlt.out]; rfl⟩
                  rw [Hn6.out] at hO6 hV6 ⊢
                  have HO6 := Hid.mk hO6
                  have HB6 : Hid (Below w.heap.size w w6) := ⟨HB5.out.trans (HG6.out.below HB5.out.size (fun x hx => (HO5.out.lt x hx).1))⟩
                  have HCD6 : Hid (Chg [] wi w6) := ⟨(HCD4.out.trans (Chg.ofBelow HBV5.out)).thenNew HG6.out (fun x hx => .inr (by rw [Hz1.out]; exact Hv4.out x hx))⟩
                  have HRD : Hid (RdE sh3 3 s0 w6 (.slice (some ⟨g, k * 3, none⟩) (m - k) (c3 - k)) (M.drop k)) := ⟨by
                    have h0 := (HOi.out.far HCD6.out (by simp)).rd s0
                    have h1 := h0.drop' Hm.out (j := k) (by omega)
                    rw [Nat.zero_add] at h1
                    exact h1⟩
                  have hn1 : ((M.take k ++ [((x1, x2, x3) : Sh)]).length + (M.drop k).length) * 24 ≤ 140737488355328 := by rw [Hn6.out, Hn6k.out, List.length_drop, Hm.out]; omega
                  have hn2 : (M.take k ++ [((x1, x2, x3) : Sh)]).length + (M.drop k).length ≤ maxLen := by rw [Hn6.out, Hn6k.out, List.length_drop, Hm.out]; unfold maxLen; omega
                  have hn3 : w.heap.size ≤ w6.heap.size := HB6.out.size
                  have HLen : Hid ((M.take k ++ [((x1, x2, x3) : Sh)] ++ M.drop k).length = m + 1) := ⟨by rw [List.length_append, Hn6.out, Hn6k.out, List.length_drop, Hm.out]; omega⟩
                  clear hO6 hG6 hV6 d0 d1 d2 HV5 HV1
                  have hck : ¬ c3 = k := by omega
                  have hck' : ¬ k = c3 := by omega
                  go_wp2_with (refine wp_appE (f := sh3) (d := s0) eltS rfl (.tmp 92) (.tmp 95) rfl rfl HO6.out rfl HRD.out hn1 hn2 hn3 ?_; intro v7 w7 hO7 hG7 hV7)
                  have HO7 := Hid.mk hO7
                  have HB7 : Hid (Below w.heap.size w w7) := ⟨HB6.out.trans (Chg.below hG7 HB6.out.size (fun x hx => (HO6.out.lt x hx).1))⟩
                  clear hO7 hG7 hV7
                  go_roundg (n - (i + 1))
                  case measure => omega
                  case rel => exact ⟨i + 1, _, by omega, by omega, by go_num, HO7, ⟨rise_in HSr.out (fun y hy => Hbef.out y hy) (fun y hy => Haft.out y hy)⟩, ⟨by rw [HFn.out]; exact (ins_perm M (x1, x2, x3) k).trans (HMm.out.append_right _)⟩, HRn, ⟨by rw [HLen.out]; have := HMl.out; omega⟩, HB7, ⟨own_some HO7.out (by rw [HLen.out]; omega)⟩⟩
              · have Hkm : Hid (k = m) := ⟨by omega⟩
                have hkmz : ¬ (k : Int) < (m : Int) := by omega
                have Haft : Hid (∀ y ∈ M.drop k, shl y (x1, x2, x3) = false) := ⟨fun y hy => by rw [List.drop_eq_nil_of_le (by rw [Hm.out]; omega)] at hy; simp at hy⟩
                go_upto_region 12 with fail
                go_quiet (fail)
                have HOi : Hid (OwnE sh3 3 27 (wk.drewN nq) w.heap.size (.slice (some ⟨g, 0, none⟩) m c3) M) := ⟨HOr.out.far (Chg.ofBelow (X := []) (below_drewN (Below.refl _ wk) nq)) (by simp)⟩
                have HAi : Hid ((wk.drewN nq).heap[q]? = some (.cells #[.int .i64 x1, .int .i64 x2, .int .i64 x3] 27 (0, 0))) := ⟨HAr.out⟩
                have HBi : Hid (Below w.heap.size w (wk.drewN nq)) := ⟨below_drewN HBr.out nq⟩
                clear HOr HAr HBr
                obtain ⟨wi, Hwi⟩ : ∃ x, Hid (wk.drewN nq = x) := ⟨_, ⟨rfl⟩⟩
                rw [Hwi.out] at HOi HAi HBi ⊢
                clear Hwi
                by_cases hck : c3 = k
                · have hck2 : k = c3 := hck.symm
                  clear hck
                  subst hck2
                  have HRT : Hid (RdE sh3 3 s0 wi (.slice (some ⟨g, 0, none⟩) k k) (M.take k)) := ⟨(HOi.out.rd s0).take' Hm.out (by omega)⟩
                  obtain ⟨V1, HV1⟩ : ∃ x, Hid (wi.alloc (.cells #[] 27) = x) := ⟨_, ⟨rfl⟩⟩
                  have HBV1 : Hid (Below wi.heap.size wi V1) := ⟨by rw [← HV1.out]; exact (Below.refl _ wi).alloc (Nat.le_refl _) _⟩
                  have HN1 : Hid (OwnE sh3 3 27 V1 w.heap.size (.slice (some ⟨wi.heap.size, 0, none⟩) 0 0) []) := ⟨by rw [← HV1.out]; exact (OwnE.none sh3 3 27 wi).base HBi.out.size⟩
                  have HRT1 : Hid (RdE sh3 3 s0 V1 (.slice (some ⟨g, 0, none⟩) k k) (M.take k)) := ⟨HRT.out.far (Chg.ofBelow (X := []) HBV1.out) (by simp)⟩
                  obtain ⟨z1, Hz1⟩ : ∃ x, Hid (wi.heap.size = x) := ⟨_, ⟨rfl⟩⟩
                  have Hgz : Hid (g < z1) := ⟨by rw [← Hz1.out]; exact (HOi.out.lt g (by simp [ob, Value.ownBlock])).2⟩
                  have Hwz : Hid (w.heap.size ≤ z1) := ⟨by rw [← Hz1.out]; exact HBi.out.size⟩
                  have HV1s : Hid (V1.heap.size = z1 + 1) := ⟨by rw [← HV1.out, ← Hz1.out]; simp⟩
                  rw [Hz1.out] at HN1
                  have hl1 : (([] : List Sh).length + (M.take k).length) * 24 ≤ 140737488355328 := by rw [List.length_take, Hm.out]; simp; omega
                  have hl2 : ([] : List Sh).length + (M.take k).length ≤ maxLen := by rw [List.length_take, Hm.out]; unfold maxLen; simp; omega
                  have hl3 : w.heap.size ≤ V1.heap.size := by have := HV1s.out; have := Hwz.out; omega
                  have Hlt : Hid ((M.take k).length = k) := ⟨by rw [List.length_take, Hm.out]; omega⟩
                  have hkm0 : (k : Int) ≤ (m : Int) := by omega
                  have hkc0 : (k : Int) ≤ (k : Int) := by omega
                  have hkm1 : k ≤ m := by omega
                  have hkc1 : k ≤ k := by omega
                  go_upto_region 15 with (first
                    | (rw [HV1.out, Hz1.out])
                    | (refine wp_appE (f := sh3) (d := s0) eltS rfl (.tmp 83) (.tmp 86) rfl rfl HN1.out rfl HRT1.out hl1 hl2 hl3 ?_; intro v4 w4 hO4 hG4 hV4))
                  obtain ⟨a4, c4, e4, _⟩ := (hO4.rd s0).shape
                  rw [List.nil_append] at hO4 e4
                  subst e4
                  rw [Hlt.out] at hO4 hV4 ⊢
                  have HG4' : Hid (Chg (ob (.slice (some ⟨z1, 0, none⟩) 0 0)) V1 w4) := ⟨hG4⟩
                  have HG4 : Hid (Chg [z1] V1 w4) := ⟨by have := HG4'.out; simpa [ob, Value.ownBlock] using this⟩
                  have hV4' : (Value.slice a4 k c4).ownBlock = (Value.slice (some ⟨z1, 0, none⟩) 0 0).ownBlock ∨ (Value.slice a4 k c4).ownBlock = some V1.heap.size := hV4
                  have HO4 := Hid.mk hO4
                  have Hv4 : Hid (∀ x ∈ ob (.slice a4 k c4), z1 ≤ x) := ⟨fun x hx => by
                    rw [mem_ob] at hx
                    rcases hV4' with e | e
                    · rw [e] at hx; simp [Value.ownBlock] at hx; omega
                    · rw [e, HV1s.out] at hx; simp at hx; omega⟩
                  have HB4 : Hid (Below w.heap.size w w4) := ⟨(HBi.out.trans (HBV1.out.mono HBi.out.size)).trans (HG4.out.below (by have := HV1s.out; have := Hwz.out; omega) (by have := Hwz.out; simpa using this))⟩
                  have HCD4 : Hid (Chg [] wi w4) := ⟨(Chg.ofBelow (X := []) HBV1.out).thenNew HG4.out (by have := Hz1.out; simp; omega)⟩
                  have HA4 : Hid (w4.heap[q]? = some (.cells #[.int .i64 x1, .int .i64 x2, .int .i64 x3] 27 (0, 0))) := ⟨(HCD4.out.block q (Array.getElem?_eq_some_iff.1 HAi.out).1 (by simp)).trans HAi.out⟩
                  have d0 : w4.cell? ⟨q, 0, none⟩ = some (.int .i64 x1) := by rw [cell_of_row _ _ _ _ _ _ HA4.out]; rfl
                  have d1 : w4.cell? ⟨q, 1, none⟩ = some (.int .i64 x2) := by rw [cell_of_row _ _ _ _ _ _ HA4.out]; rfl
                  have d2 : w4.cell? ⟨q, 2, none⟩ = some (.int .i64 x3) := by rw [cell_of_row _ _ _ _ _ _ HA4.out]; rfl
                  clear hO4 hG4 hV4 hV4' HG4' HRT HRT1 HN1
                  obtain ⟨V5, HV5⟩ : ∃ x, Hid (w4.alloc (.cells #[.int .i64 x1, .int .i64 x2, .int .i64 x3] 27) = x) := ⟨_, ⟨rfl⟩⟩
                  have HBV5 : Hid (Below w4.heap.size w4 V5) := ⟨by rw [← HV5.out]; exact (Below.refl _ w4).alloc (Nat.le_refl _) _⟩
                  have HR5 : Hid (RdE sh3 3 s0 V5 (.slice (some ⟨w4.heap.size, 0, none⟩) 1 1) [(x1, x2, x3)]) := ⟨by rw [← HV5.out]; exact rde_one w4 ((x1, x2, x3) : Sh) rfl (sh3_one (x1, x2, x3)).2 27⟩
                  have HO5 : Hid (OwnE sh3 3 27 V5 w.heap.size (.slice a4 k c4) (M.take k)) := ⟨HO4.out.far (Chg.ofBelow (X := []) HBV5.out) (by simp)⟩
                  have HB5 : Hid (Below w.heap.size w V5) := ⟨HB4.out.trans (HBV5.out.mono HB4.out.size)⟩
                  have hm1 : ((M.take k).length + [((x1, x2, x3) : Sh)].length) * 24 ≤ 140737488355328 := by rw [Hlt.out]; simp; omega
                  have hm2 : (M.take k).length + [((x1, x2, x3) : Sh)].length ≤ maxLen := by rw [Hlt.out]; unfold maxLen; simp; omega
                  have hm3 : w.heap.size ≤ V5.heap.size := HB5.out.size
                  go_upto_region 16 with (first
                    | (refine wp_sliceE eltS rfl (.tmp 89) rfl #[.int .i64 x1, .int .i64 x2, .int .i64 x3] rfl rfl (by decide) ?_; rw [HV5.out])
                    | (rw [HV5.out]; refine wp_appE (f := sh3) (d := s0) eltS rfl (.tmp 88) (.tmp 90) rfl rfl HO5.out rfl HR5.out hm1 hm2 hm3 ?_; intro v6 w6 hO6 hG6 hV6)
                    | (refine wp_appE (f := sh3) (d := s0) eltS rfl (.tmp 88) (.tmp 90) rfl rfl HO5.out rfl HR5.out hm1 hm2 hm3 ?_; intro v6 w6 hO6 hG6 hV6))
                  obtain ⟨a6, c6, e6, _⟩ := (hO6.rd s0).shape
                  subst e6
                  have HG6 : Hid (Chg (ob (.slice a4 k c4)) V5 w6) := ⟨hG6⟩
                  obtain ⟨n6, Hn6⟩ : ∃ x, Hid ((M.take k ++ [((x1, x2, x3) : Sh)]).length = x) := ⟨_, ⟨rfl⟩⟩
                  have Hn6k : Hid (n6 = k + 1) := ⟨by rw [← Hn6.out, List.length_append, Hlt.out]; rfl⟩
                  rw [Hn6.out] at hO6 hV6 ⊢
                  have HO6 := Hid.mk hO6
                  have HB6 : Hid (Below w.heap.size w w6) := ⟨HB5.out.trans (HG6.out.below HB5.out.size (fun x hx => (HO5.out.lt x hx).1))⟩
                  have HCD6 : Hid (Chg [] wi w6) := ⟨(HCD4.out.trans (Chg.ofBelow HBV5.out)).thenNew HG6.out (fun x hx => .inr (by rw [Hz1.out]; exact Hv4.out x hx))⟩
                  have HRD : Hid (RdE sh3 3 s0 w6 (.slice (some ⟨g, 0, none⟩) 0 0) (M.drop k)) := ⟨by
                    have e : M.drop k = [] := List.drop_eq_nil_of_le (by rw [Hm.out]; have := Hkm.out; omega)
                    rw [e]
                    exact RdE.none' (by unfold maxLen; omega) (by simp)⟩
                  have hn1 : ((M.take k ++ [((x1, x2, x3) : Sh)]).length + (M.drop k).length) * 24 ≤ 140737488355328 := by rw [Hn6.out, Hn6k.out, List.length_drop, Hm.out]; omega
                  have hn2 : (M.take k ++ [((x1, x2, x3) : Sh)]).length + (M.drop k).length ≤ maxLen := by rw [Hn6.out, Hn6k.out, List.length_drop, Hm.out]; unfold maxLen; omega
                  have hn3 : w.heap.size ≤ w6.heap.size := HB6.out.size
                  have HLen : Hid ((M.take k ++ [((x1, x2, x3) : Sh)] ++ M.drop k).length = m + 1) := ⟨by rw [List.length_append, Hn6.out, Hn6k.out, List.length_drop, Hm.out]; omega⟩
                  clear hO6 hG6 hV6 d0 d1 d2 HV5 HV1
                  go_wp2_with (refine wp_appE (f := sh3) (d := s0) eltS rfl (.tmp 92) (.tmp 95) rfl rfl HO6.out rfl HRD.out hn1 hn2 hn3 ?_; intro v7 w7 hO7 hG7 hV7)
                  have HO7 := Hid.mk hO7
                  have HB7 : Hid (Below w.heap.size w w7) := ⟨HB6.out.trans (Chg.below hG7 HB6.out.size (fun x hx => (HO6.out.lt x hx).1))⟩
                  clear hO7 hG7 hV7
                  go_roundg (n - (i + 1))
                  case measure => omega
                  case rel => exact ⟨i + 1, _, by omega, by omega, by go_num, HO7, ⟨rise_in HSr.out (fun y hy => Hbef.out y hy) (fun y hy => Haft.out y hy)⟩, ⟨by rw [HFn.out]; exact (ins_perm M (x1, x2, x3) k).trans (HMm.out.append_right _)⟩, HRn, ⟨by rw [HLen.out]; have := HMl.out; omega⟩, HB7, ⟨own_some HO7.out (by rw [HLen.out]; omega)⟩⟩
                · skip
                  have HRT : Hid (RdE sh3 3 s0 wi (.slice (some ⟨g, 0, none⟩) k c3) (M.take k)) := ⟨(HOi.out.rd s0).take' Hm.out (by omega)⟩
                  obtain ⟨V1, HV1⟩ : ∃ x, Hid (wi.alloc (.cells #[] 27) = x) := ⟨_, ⟨rfl⟩⟩
                  have HBV1 : Hid (Below wi.heap.size wi V1) := ⟨by rw [← HV1.out]; exact (Below.refl _ wi).alloc (Nat.le_refl _) _⟩
                  have HN1 : Hid (OwnE sh3 3 27 V1 w.heap.size (.slice (some ⟨wi.heap.size, 0, none⟩) 0 0) []) := ⟨by rw [← HV1.out]; exact (OwnE.none sh3 3 27 wi).base HBi.out.size⟩
                  have HRT1 : Hid (RdE sh3 3 s0 V1 (.slice (some ⟨g, 0, none⟩) k c3) (M.take k)) := ⟨HRT.out.far (Chg.ofBelow (X := []) HBV1.out) (by simp)⟩
                  obtain ⟨z1, Hz1⟩ : ∃ x, Hid (wi.heap.size = x) := ⟨_, ⟨rfl⟩⟩
                  have Hgz : Hid (g < z1) := ⟨by rw [← Hz1.out]; exact (HOi.out.lt g (by simp [ob, Value.ownBlock])).2⟩
                  have Hwz : Hid (w.heap.size ≤ z1) := ⟨by rw [← Hz1.out]; exact HBi.out.size⟩
                  have HV1s : Hid (V1.heap.size = z1 + 1) := ⟨by rw [← HV1.out, ← Hz1.out]; simp⟩
                  rw [Hz1.out] at HN1
                  have hl1 : (([] : List Sh).length + (M.take k).length) * 24 ≤ 140737488355328 := by rw [List.length_take, Hm.out]; simp; omega
                  have hl2 : ([] : List Sh).length + (M.take k).length ≤ maxLen := by rw [List.length_take, Hm.out]; unfold maxLen; simp; omega
                  have hl3 : w.heap.size ≤ V1.heap.size := by have := HV1s.out; have := Hwz.out; omega
                  have Hlt : Hid ((M.take k).length = k) := ⟨by rw [List.length_take, Hm.out]; omega⟩
                  have hkm0 : (k : Int) ≤ (m : Int) := by omega
                  have hkc0 : (k : Int) ≤ (c3 : Int) := by omega
                  have hkm1 : k ≤ m := by omega
                  have hkc1 : k ≤ c3 := by omega
                  go_upto_region 15 with (first
                    | (rw [HV1.out, Hz1.out])
                    | (refine wp_appE (f := sh3) (d := s0) eltS rfl (.tmp 83) (.tmp 86) rfl rfl HN1.out rfl HRT1.out hl1 hl2 hl3 ?_; intro v4 w4 hO4 hG4 hV4))
                  obtain ⟨a4, c4, e4, _⟩ := (hO4.rd s0).shape
                  rw [List.nil_append] at hO4 e4
                  subst e4
                  rw [Hlt.out] at hO4 hV4 ⊢
                  have HG4' : Hid (Chg (ob (.slice (some ⟨z1, 0, none⟩) 0 0)) V1 w4) := ⟨hG4⟩
                  have HG4 : Hid (Chg [z1] V1 w4) := ⟨by have := HG4'.out; simpa [ob, Value.ownBlock] using this⟩
                  have hV4' : (Value.slice a4 k c4).ownBlock = (Value.slice (some ⟨z1, 0, none⟩) 0 0).ownBlock ∨ (Value.slice a4 k c4).ownBlock = some V1.heap.size := hV4
                  have HO4 := Hid.mk hO4
                  have Hv4 : Hid (∀ x ∈ ob (.slice a4 k c4), z1 ≤ x) := ⟨fun x hx => by
                    rw [mem_ob] at hx
                    rcases hV4' with e | e
                    · rw [e] at hx; simp [Value.ownBlock] at hx; omega
                    · rw [e, HV1s.out] at hx; simp at hx; omega⟩
                  have HB4 : Hid (Below w.heap.size w w4) := ⟨(HBi.out.trans (HBV1.out.mono HBi.out.size)).trans (HG4.out.below (by have := HV1s.out; have := Hwz.out; omega) (by have := Hwz.out; simpa using this))⟩
                  have HCD4 : Hid (Chg [] wi w4) := ⟨(Chg.ofBelow (X := []) HBV1.out).thenNew HG4.out (by have := Hz1.out; simp; omega)⟩
                  have HA4 : Hid (w4.heap[q]? = some (.cells #[.int .i64 x1, .int .i64 x2, .int .i64 x3] 27 (0, 0))) := ⟨(HCD4.out.block q (Array.getElem?_eq_some_iff.1 HAi.out).1 (by simp)).trans HAi.out⟩
                  have d0 : w4.cell? ⟨q, 0, none⟩ = some (.int .i64 x1) := by rw [cell_of_row _ _ _ _ _ _ HA4.out]; rfl
                  have d1 : w4.cell? ⟨q, 1, none⟩ = some (.int .i64 x2) := by rw [cell_of_row _ _ _ _ _ _ HA4.out]; rfl
                  have d2 : w4.cell? ⟨q, 2, none⟩ = some (.int .i64 x3) := by rw [cell_of_row _ _ _ _ _ _ HA4.out]; rfl
                  clear hO4 hG4 hV4 hV4' HG4' HRT HRT1 HN1
                  obtain ⟨V5, HV5⟩ : ∃ x, Hid (w4.alloc (.cells #[.int .i64 x1, .int .i64 x2, .int .i64 x3] 27) = x) := ⟨_, ⟨rfl⟩⟩
                  have HBV5 : Hid (Below w4.heap.size w4 V5) := ⟨by rw [← HV5.out]; exact (Below.refl _ w4).alloc (Nat.le_refl _) _⟩
                  have HR5 : Hid (RdE sh3 3 s0 V5 (.slice (some ⟨w4.heap.size, 0, none⟩) 1 1) [(x1, x2, x3)]) := ⟨by rw [← HV5.out]; exact rde_one w4 ((x1, x2, x3) : Sh) rfl (sh3_one (x1, x2, x3)).2 27⟩
                  have HO5 : Hid (OwnE sh3 3 27 V5 w.heap.size (.slice a4 k c4) (M.take k)) := ⟨HO4.out.far (Chg.ofBelow (X := []) HBV5.out) (by simp)⟩
                  have HB5 : Hid (Below w.heap.size w V5) := ⟨HB4.out.trans (HBV5.out.mono HB4.out.size)⟩
                  have hm1 : ((M.take k).length + [((x1, x2, x3) : Sh)].length) * 24 ≤ 140737488355328 := by rw [Hlt.out]; simp; omega
                  have hm2 : (M.take k).length + [((x1, x2, x3) : Sh)].length ≤ maxLen := by rw [Hlt.out]; unfold maxLen; simp; omega
                  have hm3 : w.heap.size ≤ V5.heap.size := HB5.out.size
                  go_upto_region 16 with (first
                    | (refine wp_sliceE eltS rfl (.tmp 89) rfl #[.int .i64 x1, .int .i64 x2, .int .i64 x3] rfl rfl (by decide) ?_; rw [HV5.out])
                    | (rw [HV5.out]; refine wp_appE (f := sh3) (d := s0) eltS rfl (.tmp 88) (.tmp 90) rfl rfl HO5.out rfl HR5.out hm1 hm2 hm3 ?_; intro v6 w6 hO6 hG6 hV6)
                    | (refine wp_appE (f := sh3) (d := s0) eltS rfl (.tmp 88) (.tmp 90) rfl rfl HO5.out rfl HR5.out hm1 hm2 hm3 ?_; intro v6 w6 hO6 hG6 hV6))
                  obtain ⟨a6, c6, e6, _⟩ := (hO6.rd s0).shape
                  subst e6
                  have HG6 : Hid (Chg (ob (.slice a4 k c4)) V5 w6) := ⟨hG6⟩
                  obtain ⟨n6, Hn6⟩ : ∃ x, Hid ((M.take k ++ [((x1, x2, x3) : Sh)]).length = x) := ⟨_, ⟨rfl⟩⟩
                  have Hn6k : Hid (n6 = k + 1) := ⟨by rw [← Hn6.out, List.length_append, Hlt.out]; rfl⟩
                  rw [Hn6.out] at hO6 hV6 ⊢
                  have HO6 := Hid.mk hO6
                  have HB6 : Hid (Below w.heap.size w w6) := ⟨HB5.out.trans (HG6.out.below HB5.out.size (fun x hx => (HO5.out.lt x hx).1))⟩
                  have HCD6 : Hid (Chg [] wi w6) := ⟨(HCD4.out.trans (Chg.ofBelow HBV5.out)).thenNew HG6.out (fun x hx => .inr (by rw [Hz1.out]; exact Hv4.out x hx))⟩
                  have HRD : Hid (RdE sh3 3 s0 w6 (.slice (some ⟨g, k * 3, none⟩) (m - k) (c3 - k)) (M.drop k)) := ⟨by
                    have h0 := (HOi.out.far HCD6.out (by simp)).rd s0
                    have h1 := h0.drop' Hm.out (j := k) (by omega)
                    rw [Nat.zero_add] at h1
                    exact h1⟩
                  have hn1 : ((M.take k ++ [((x1, x2, x3) : Sh)]).length + (M.drop k).length) * 24 ≤ 140737488355328 := by rw [Hn6.out, Hn6k.out, List.length_drop, Hm.out]; omega
                  have hn2 : (M.take k ++ [((x1, x2, x3) : Sh)]).length + (M.drop k).length ≤ maxLen := by rw [Hn6.out, Hn6k.out, List.length_drop, Hm.out]; unfold maxLen; omega
                  have hn3 : w.heap.size ≤ w6.heap.size := HB6.out.size
                  have HLen : Hid ((M.take k ++ [((x1, x2, x3) : Sh)] ++ M.drop k).length = m + 1) := ⟨by rw [List.length_append, Hn6.out, Hn6k.out, List.length_drop, Hm.out]; omega⟩
                  clear hO6 hG6 hV6 d0 d1 d2 HV5 HV1
                  have hck' : ¬ k = c3 := fun e => hck e.symm
                  go_wp2_with (refine wp_appE (f := sh3) (d := s0) eltS rfl (.tmp 92) (.tmp 95) rfl rfl HO6.out rfl HRD.out hn1 hn2 hn3 ?_; intro v7 w7 hO7 hG7 hV7)
                  have HO7 := Hid.mk hO7
                  have HB7 : Hid (Below w.heap.size w w7) := ⟨HB6.out.trans (Chg.below hG7 HB6.out.size (fun x hx => (HO6.out.lt x hx).1))⟩
                  clear hO7 hG7 hV7
                  go_roundg (n - (i + 1))
                  case measure => omega
                  case rel => exact ⟨i + 1, _, by omega, by omega, by go_num, HO7, ⟨rise_in HSr.out (fun y hy => Hbef.out y hy) (fun y hy => Haft.out y hy)⟩, ⟨by rw [HFn.out]; exact (ins_perm M (x1, x2, x3) k).trans (HMm.out.append_right _)⟩, HRn, ⟨by rw [HLen.out]; have := HMl.out; omega⟩, HB7, ⟨own_some HO7.out (by rw [HLen.out]; omega)⟩⟩
          · have n2b : (x2 == 0) = true := by simp [n2]
            clear n2
            go_upto_region 12 with fail
            clear n1 n3 n2b hpm qm pm k0 k1 k2
            go_loopg [11] m (fun gg2 s11 wr => ∃ k : Nat, k ≤ m ∧ m - k ≤ gg2 ∧ s11 = .int .i64 (k : Int) ∧ Hid (∀ y ∈ M.take k, shl (x1, x2, x3) y = false) ∧ Hid (OwnE sh3 3 27 wr w.heap.size (.slice (some ⟨g, 0, none⟩) m c3) M) ∧ Hid (wr.heap[q]? = some (.cells #[.int .i64 x1, .int .i64 x2, .int .i64 x3] 27 (0, 0))) ∧ Hid (Below w.heap.size w wr))
            case atStart => exact ⟨0, Nat.zero_le _, by omega, rfl, ⟨by simp⟩, HO2, HA2, HB02⟩
            case round =>
              clear HO2 HA2 HB02
              obtain ⟨k, hk, hgg2, rfl, Hbef, HOr, HAr, HBr⟩ := hrel
              rename World => wk
              have hmb : m ≤ 5864062014699 := by have := HMl.out; omega
              have hmc : m ≤ c3 := hc3
              have hcx : c3 ≤ 9223372036854775807 := hc3m
              by_cases hkm : k < m
              · have hkmz : (k : Int) < (m : Int) := by omega
                have hkL : k < M.length := by rw [Hm.out]; exact hkm
                have e0 := own_cellE HOr.out s0 (i := k) (j := 0) hkL (by decide)
                have e1 := own_cellE HOr.out s0 (i := k) (j := 1) hkL (by decide)
                have e2 := own_cellE HOr.out s0 (i := k) (j := 2) hkL (by decide)
                have Hru : Hid (Rt (M.getD k s0)) := ⟨HMr.out _ (getD_mem' hkL)⟩
                have Hafk := Hid.mk (aft_of HSr.out HMr.out Hrx.out hkL)
                have Hbfk := Hid.mk (bef_snoc hkL Hbef.out)
                generalize M.getD k s0 = uu at e0 e1 e2 Hru Hafk Hbfk
                obtain ⟨u1, u2, u3⟩ := uu
                simp [sh3] at e0 e1 e2
                have HK : Hid (∀ w', Below wk.heap.size wk w' → w'.cell? ⟨g, k * 3, none⟩ = some (.int .i64 u1) ∧ w'.cell? ⟨g, k * 3 + 1, none⟩ = some (.int .i64 u2) ∧ w'.cell? ⟨g, k * 3 + 2, none⟩ = some (.int .i64 u3) ∧ w'.cell? ⟨q, 0, none⟩ = some (.int .i64 x1) ∧ w'.cell? ⟨q, 1, none⟩ = some (.int .i64 x2) ∧ w'.cell? ⟨q, 2, none⟩ = some (.int .i64 x3)) := ⟨fun w' h => by
                  have hq := (h.block q (Array.getElem?_eq_some_iff.1 HAr.out).1).trans HAr.out
                  refine ⟨(h.cell (p := ⟨g, k * 3, none⟩) (World.block_lt_of_cell? _ _ e0)).trans e0, (h.cell (p := ⟨g, k * 3 + 1, none⟩) (World.block_lt_of_cell? _ _ e1)).trans e1, (h.cell (p := ⟨g, k * 3 + 2, none⟩) (World.block_lt_of_cell? _ _ e2)).trans e2, ?_, ?_, ?_⟩
                  · rw [cell_of_row _ _ _ _ _ _ hq]; rfl
                  · rw [cell_of_row _ _ _ _ _ _ hq]; rfl
                  · rw [cell_of_row _ _ _ _ _ _ hq]; rfl⟩
                clear e0 e1 e2
                obtain ⟨y, Hls⟩ : ∃ y, Hid (shl (x1, x2, x3) (u1, u2, u3) = y) := ⟨_, ⟨rfl⟩⟩
                rw [Hls.out] at Hafk Hbfk
                cases y with
                | false =>
                  have Hnx := Hid.mk (Hbfk.out rfl)
                  clear Hafk Hbfk
                  go_upto_region 12 with fail
                  refine wp_region_held_drew (S := fun w' => Below wk.heap.size wk w') (by kernel_rfl) (below_drewN (Below.refl _ wk) 1) (fun hS => ?_)
                  refine wpAnyH_take (i := 0) (v := .int .i64 (k : Int)) rfl (by kernel_rfl) (by kernel_rfl) (by kernel_rfl) (fun _ _ _ h => h) (Or.inl ⟨by kernel_rfl, fun _ _ => by kernel_rfl⟩) hS ?_
                  refine wpAnyH_take (i := 1) (v := .slice (some ⟨g, 0, none⟩) m c3) rfl (by kernel_rfl) (by kernel_rfl) (by kernel_rfl) (fun _ _ _ h => h) (Or.inl ⟨by kernel_rfl, fun _ _ => by kernel_rfl⟩) hS ?_
                  refine wpAnyH_take (i := 2) (v := .int .i64 (m : Int)) rfl (by kernel_rfl) (by kernel_rfl) (by kernel_rfl) (fun _ _ _ h => h) (Or.inl ⟨by kernel_rfl, fun wx hx => by go_simp⟩) hS ?_
                  refine wpAnyH_take (i := 3) (v := .bool true) rfl (by kernel_rfl) (by kernel_rfl) (by kernel_rfl) (fun _ _ _ h => h) (Or.inl ⟨by kernel_rfl, fun wx hx => by go_simp⟩) hS ?_
                  refine wpAnyH_take (i := 4) (v := .bool true) rfl (by kernel_rfl) (by kernel_rfl) (by kernel_rfl) (fun _ _ _ h => h) (Or.inl ⟨by kernel_rfl, fun wx hx => by go_simp⟩) hS ?_
                  refine wpAnyH_take (i := 5) (v := .agg #[.int .i64 x1, .int .i64 x2, .int .i64 x3]) rfl (by kernel_rfl) (by kernel_rfl) (by kernel_rfl) (fun _ _ _ h => h) (Or.inl ⟨by kernel_rfl, fun wx hx => by have hx0 := HK.out wx hx; obtain ⟨hx1, hx2, hx3, hx4, hx5, hx6⟩ := hx0; go_simp⟩) hS ?_
                  refine wpAnyH_take (i := 6) (v := .slice (some ⟨g, 0, none⟩) m c3) rfl (by kernel_rfl) (by kernel_rfl) (by kernel_rfl) (fun _ _ _ h => h) (Or.inl ⟨by kernel_rfl, fun wx hx => by go_simp⟩) hS ?_
                  refine wpAnyH_take (i := 7) (v := .int .i64 (k : Int)) rfl (by kernel_rfl) (by kernel_rfl) (by kernel_rfl) (fun _ _ _ h => h) (Or.inl ⟨by kernel_rfl, fun wx hx => by go_simp⟩) hS ?_
                  refine wpAnyH_take (i := 8) (v := .pointer (some ⟨g, k * 3, none⟩)) rfl (by kernel_rfl) (by kernel_rfl) (by kernel_rfl) (fun _ _ _ h => h) (Or.inl ⟨by kernel_rfl, fun wx hx => by go_simp⟩) hS ?_
                  refine wpAnyH_take (i := 9) (v := .agg #[.int .i64 u1, .int .i64 u2, .int .i64 u3]) rfl (by kernel_rfl) (by kernel_rfl) (by kernel_rfl) (fun _ _ _ h => h) (Or.inl ⟨by kernel_rfl, fun wx hx => by have hx0 := HK.out wx hx; obtain ⟨hx1, hx2, hx3, hx4, hx5, hx6⟩ := hx0; go_simp⟩) hS ?_
                  refine wpAnyH_ready (rs := [10]) (by kernel_rfl) (by simp) (AllReadyH.cons rfl (fun Kc hK => ?_) AllReadyH.nil)
                  go_simp
                  refine (rless26 (x1, x2, x3) (u1, u2, u3) Hrx.out Hru.out).mono ?_
                  rintro e w5 ⟨rfl, hb5⟩
                  rw [Hls.out]
                  refine hK.out _ _ (hS.trans (hb5.mono hS.size)) (fun hS => ?_)
                  clear hK
                  refine wpAnyH_take (i := 11) (v := .bool true) rfl (by kernel_rfl) (by kernel_rfl) (by kernel_rfl) (fun _ _ _ h => h) (Or.inl ⟨by kernel_rfl, fun wx hx => by go_simp⟩) hS ?_
                  refine wpAnyH_take (i := 12) (v := .bool true) rfl (by kernel_rfl) (by kernel_rfl) (by kernel_rfl) (fun _ _ _ h => h) (Or.inl ⟨by kernel_rfl, fun wx hx => by go_simp⟩) hS ?_
                  have HBr5 := Hid.mk hS
                  clear hS
                  refine wpAnyH_done (by kernel_rfl) ?_ _
                  go_simp
                  have HO5 : Hid (OwnE sh3 3 27 w5 w.heap.size (.slice (some ⟨g, 0, none⟩) m c3) M) := ⟨HOr.out.far (Chg.ofBelow (X := []) HBr5.out) (by simp)⟩
                  have HA5 : Hid (w5.heap[q]? = some (.cells #[.int .i64 x1, .int .i64 x2, .int .i64 x3] 27 (0, 0))) := ⟨(HBr5.out.block q (Array.getElem?_eq_some_iff.1 HAr.out).1).trans HAr.out⟩
                  have HB5 : Hid (Below w.heap.size w w5) := ⟨HBr.out.trans (HBr5.out.mono HBr.out.size)⟩
                  go_wp2_with fail
                  go_roundg (m - (k + 1))
                  case measure => omega
                  case rel => exact ⟨k + 1, by omega, by omega, by go_num, Hnx, HO5, HA5, HB5⟩
                | true =>
                  have Haft := Hid.mk (Hafk.out rfl)
                  clear Hafk Hbfk
                  go_upto_region 12 with fail
                  refine wp_region_held_drew (S := fun w' => Below wk.heap.size wk w') (by kernel_rfl) (below_drewN (Below.refl _ wk) 1) (fun hS => ?_)
                  refine wpAnyH_take (i := 0) (v := .int .i64 (k : Int)) rfl (by kernel_rfl) (by kernel_rfl) (by kernel_rfl) (fun _ _ _ h => h) (Or.inl ⟨by kernel_rfl, fun _ _ => by kernel_rfl⟩) hS ?_
                  refine wpAnyH_take (i := 1) (v := .slice (some ⟨g, 0, none⟩) m c3) rfl (by kernel_rfl) (by kernel_rfl) (by kernel_rfl) (fun _ _ _ h => h) (Or.inl ⟨by kernel_rfl, fun _ _ => by kernel_rfl⟩) hS ?_
                  refine wpAnyH_take (i := 2) (v := .int .i64 (m : Int)) rfl (by kernel_rfl) (by kernel_rfl) (by kernel_rfl) (fun _ _ _ h => h) (Or.inl ⟨by kernel_rfl, fun wx hx => by go_simp⟩) hS ?_
                  refine wpAnyH_take (i := 3) (v := .bool true) rfl (by kernel_rfl) (by kernel_rfl) (by kernel_rfl) (fun _ _ _ h => h) (Or.inl ⟨by kernel_rfl, fun wx hx => by go_simp⟩) hS ?_
                  refine wpAnyH_take (i := 4) (v := .bool true) rfl (by kernel_rfl) (by kernel_rfl) (by kernel_rfl) (fun _ _ _ h => h) (Or.inl ⟨by kernel_rfl, fun wx hx => by go_simp⟩) hS ?_
                  refine wpAnyH_take (i := 5) (v := .agg #[.int .i64 x1, .int .i64 x2, .int .i64 x3]) rfl (by kernel_rfl) (by kernel_rfl) (by kernel_rfl) (fun _ _ _ h => h) (Or.inl ⟨by kernel_rfl, fun wx hx => by have hx0 := HK.out wx hx; obtain ⟨hx1, hx2, hx3, hx4, hx5, hx6⟩ := hx0; go_simp⟩) hS ?_
                  refine wpAnyH_take (i := 6) (v := .slice (some ⟨g, 0, none⟩) m c3) rfl (by kernel_rfl) (by kernel_rfl) (by kernel_rfl) (fun _ _ _ h => h) (Or.inl ⟨by kernel_rfl, fun wx hx => by go_simp⟩) hS ?_
                  refine wpAnyH_take (i := 7) (v := .int .i64 (k : Int)) rfl (by kernel_rfl) (by kernel_rfl) (by kernel_rfl) (fun _ _ _ h => h) (Or.inl ⟨by kernel_rfl, fun wx hx => by go_simp⟩) hS ?_
                  refine wpAnyH_take (i := 8) (v := .pointer (some ⟨g, k * 3, none⟩)) rfl (by kernel_rfl) (by kernel_rfl) (by kernel_rfl) (fun _ _ _ h => h) (Or.inl ⟨by kernel_rfl, fun wx hx => by go_simp⟩) hS ?_
                  refine wpAnyH_take (i := 9) (v := .agg #[.int .i64 u1, .int .i64 u2, .int .i64 u3]) rfl (by kernel_rfl) (by kernel_rfl) (by kernel_rfl) (fun _ _ _ h => h) (Or.inl ⟨by kernel_rfl, fun wx hx => by have hx0 := HK.out wx hx; obtain ⟨hx1, hx2, hx3, hx4, hx5, hx6⟩ := hx0; go_simp⟩) hS ?_
                  refine wpAnyH_ready (rs := [10]) (by kernel_rfl) (by simp) (AllReadyH.cons rfl (fun Kc hK => ?_) AllReadyH.nil)
                  go_simp
                  refine (rless26 (x1, x2, x3) (u1, u2, u3) Hrx.out Hru.out).mono ?_
                  rintro e w5 ⟨rfl, hb5⟩
                  rw [Hls.out]
                  refine hK.out _ _ (hS.trans (hb5.mono hS.size)) (fun hS => ?_)
                  clear hK
                  refine wpAnyH_take (i := 11) (v := .bool false) rfl (by kernel_rfl) (by kernel_rfl) (by kernel_rfl) (fun _ _ _ h => h) (Or.inl ⟨by kernel_rfl, fun wx hx => by go_simp⟩) hS ?_
                  refine wpAnyH_take (i := 12) (v := .bool false) rfl (by kernel_rfl) (by kernel_rfl) (by kernel_rfl) (fun _ _ _ h => h) (Or.inl ⟨by kernel_rfl, fun wx hx => by go_simp⟩) hS ?_
                  have HBr5 := Hid.mk hS
                  clear hS
                  refine wpAnyH_done (by kernel_rfl) ?_ _
                  go_simp
                  have HOi : Hid (OwnE sh3 3 27 w5 w.heap.size (.slice (some ⟨g, 0, none⟩) m c3) M) := ⟨HOr.out.far (Chg.ofBelow (X := []) HBr5.out) (by simp)⟩
                  have HAi : Hid (w5.heap[q]? = some (.cells #[.int .i64 x1, .int .i64 x2, .int .i64 x3] 27 (0, 0))) := ⟨(HBr5.out.block q (Array.getElem?_eq_some_iff.1 HAr.out).1).trans HAr.out⟩
                  have HBi : Hid (Below w.heap.size w w5) := ⟨HBr.out.trans (HBr5.out.mono HBr.out.size)⟩
                  obtain ⟨wi, Hwi⟩ : ∃ x, Hid (w5 = x) := ⟨_, ⟨rfl⟩⟩
                  rw [Hwi.out] at HOi HAi HBi ⊢
                  clear Hwi HOr HAr HBr HBr5 HK Hls Hru
                  have HRT : Hid (RdE sh3 3 s0 wi (.slice (some ⟨g, 0, none⟩) k c3) (M.take k)) := ⟨(HOi.out.rd s0).take' Hm.out (by omega)⟩
                  obtain ⟨V1, HV1⟩ : ∃ x, Hid (wi.alloc (.cells #[] 27) = x) := ⟨_, ⟨rfl⟩⟩
                  have HBV1 : Hid (Below wi.heap.size wi V1) := ⟨by rw [← HV1.out]; exact (Below.refl _ wi).alloc (Nat.le_refl _) _⟩
                  have HN1 : Hid (OwnE sh3 3 27 V1 w.heap.size (.slice (some ⟨wi.heap.size, 0, none⟩) 0 0) []) := ⟨by rw [← HV1.out]; exact (OwnE.none sh3 3 27 wi).base HBi.out.size⟩
                  have HRT1 : Hid (RdE sh3 3 s0 V1 (.slice (some ⟨g, 0, none⟩) k c3) (M.take k)) := ⟨HRT.out.far (Chg.ofBelow (X := []) HBV1.out) (by simp)⟩
                  obtain ⟨z1, Hz1⟩ : ∃ x, Hid (wi.heap.size = x) := ⟨_, ⟨rfl⟩⟩
                  have Hgz : Hid (g < z1) := ⟨by rw [← Hz1.out]; exact (HOi.out.lt g (by simp [ob, Value.ownBlock])).2⟩
                  have Hwz : Hid (w.heap.size ≤ z1) := ⟨by rw [← Hz1.out]; exact HBi.out.size⟩
                  have HV1s : Hid (V1.heap.size = z1 + 1) := ⟨by rw [← HV1.out, ← Hz1.out]; simp⟩
                  rw [Hz1.out] at HN1
                  have hl1 : (([] : List Sh).length + (M.take k).length) * 24 ≤ 140737488355328 := by rw [List.length_take, Hm.out]; simp; omega
                  have hl2 : ([] : List Sh).length + (M.take k).length ≤ maxLen := by rw [List.length_take, Hm.out]; unfold maxLen; simp; omega
                  have hl3 : w.heap.size ≤ V1.heap.size := by have := HV1s.out; have := Hwz.out; omega
                  have Hlt : Hid ((M.take k).length = k) := ⟨by rw [List.length_take, Hm.out]; omega⟩
                  have hkm0 : (k : Int) ≤ (m : Int) := by omega
                  have hkc0 : (k : Int) ≤ (c3 : Int) := by omega
                  have hkm1 : k ≤ m := by omega
                  have hkc1 : k ≤ c3 := by omega
                  go_upto_region 15 with (first
                    | (rw [HV1.out, Hz1.out])
                    | (refine wp_appE (f := sh3) (d := s0) eltS rfl (.tmp 83) (.tmp 86) rfl rfl HN1.out rfl HRT1.out hl1 hl2 hl3 ?_; intro v4 w4 hO4 hG4 hV4))
                  obtain ⟨a4, c4, e4, _⟩ := (hO4.rd s0).shape
                  rw [List.nil_append] at hO4 e4
                  subst e4
                  rw [Hlt.out] at hO4 hV4 ⊢
                  have HG4' : Hid (Chg (ob (.slice (some ⟨z1, 0, none⟩) 0 0)) V1 w4) := ⟨hG4⟩
                  have HG4 : Hid (Chg [z1] V1 w4) := ⟨by have := HG4'.out; simpa [ob, Value.ownBlock] using this⟩
                  have hV4' : (Value.slice a4 k c4).ownBlock = (Value.slice (some ⟨z1, 0, none⟩) 0 0).ownBlock ∨ (Value.slice a4 k c4).ownBlock = some V1.heap.size := hV4
                  have HO4 := Hid.mk hO4
                  have Hv4 : Hid (∀ x ∈ ob (.slice a4 k c4), z1 ≤ x) := ⟨fun x hx => by
                    rw [mem_ob] at hx
                    rcases hV4' with e | e
                    · rw [e] at hx; simp [Value.ownBlock] at hx; omega
                    · rw [e, HV1s.out] at hx; simp at hx; omega⟩
                  have HB4 : Hid (Below w.heap.size w w4) := ⟨(HBi.out.trans (HBV1.out.mono HBi.out.size)).trans (HG4.out.below (by have := HV1s.out; have := Hwz.out; omega) (by have := Hwz.out; simpa using this))⟩
                  have HCD4 : Hid (Chg [] wi w4) := ⟨(Chg.ofBelow (X := []) HBV1.out).thenNew HG4.out (by have := Hz1.out; simp; omega)⟩
                  have HA4 : Hid (w4.heap[q]? = some (.cells #[.int .i64 x1, .int .i64 x2, .int .i64 x3] 27 (0, 0))) := ⟨(HCD4.out.block q (Array.getElem?_eq_some_iff.1 HAi.out).1 (by simp)).trans HAi.out⟩
                  have d0 : w4.cell? ⟨q, 0, none⟩ = some (.int .i64 x1) := by rw [cell_of_row _ _ _ _ _ _ HA4.out]; rfl
                  have d1 : w4.cell? ⟨q, 1, none⟩ = some (.int .i64 x2) := by rw [cell_of_row _ _ _ _ _ _ HA4.out]; rfl
                  have d2 : w4.cell? ⟨q, 2, none⟩ = some (.int .i64 x3) := by rw [cell_of_row _ _ _ _ _ _ HA4.out]; rfl
                  clear hO4 hG4 hV4 hV4' HG4' HRT HRT1 HN1
                  obtain ⟨V5, HV5⟩ : ∃ x, Hid (w4.alloc (.cells #[.int .i64 x1, .int .i64 x2, .int .i64 x3] 27) = x) := ⟨_, ⟨rfl⟩⟩
                  have HBV5 : Hid (Below w4.heap.size w4 V5) := ⟨by rw [← HV5.out]; exact (Below.refl _ w4).alloc (Nat.le_refl _) _⟩
                  have HR5 : Hid (RdE sh3 3 s0 V5 (.slice (some ⟨w4.heap.size, 0, none⟩) 1 1) [(x1, x2, x3)]) := ⟨by rw [← HV5.out]; exact rde_one w4 ((x1, x2, x3) : Sh) rfl (sh3_one (x1, x2, x3)).2 27⟩
                  have HO5 : Hid (OwnE sh3 3 27 V5 w.heap.size (.slice a4 k c4) (M.take k)) := ⟨HO4.out.far (Chg.ofBelow (X := []) HBV5.out) (by simp)⟩
                  have HB5 : Hid (Below w.heap.size w V5) := ⟨HB4.out.trans (HBV5.out.mono HB4.out.size)⟩
                  have hm1 : ((M.take k).length + [((x1, x2, x3) : Sh)].length) * 24 ≤ 140737488355328 := by rw [Hlt.out]; simp; omega
                  have hm2 : (M.take k).length + [((x1, x2, x3) : Sh)].length ≤ maxLen := by rw [Hlt.out]; unfold maxLen; simp; omega
                  have hm3 : w.heap.size ≤ V5.heap.size := HB5.out.size
                  go_upto_region 16 with (first
                    | (refine wp_sliceE eltS rfl (.tmp 89) rfl #[.int .i64 x1, .int .i64 x2, .int .i64 x3] rfl rfl (by decide) ?_; rw [HV5.out])
                    | (rw [HV5.out]; refine wp_appE (f := sh3) (d := s0) eltS rfl (.tmp 88) (.tmp 90) rfl rfl HO5.out rfl HR5.out hm1 hm2 hm3 ?_; intro v6 w6 hO6 hG6 hV6)
                    | (refine wp_appE (f := sh3) (d := s0) eltS rfl (.tmp 88) (.tmp 90) rfl rfl HO5.out rfl HR5.out hm1 hm2 hm3 ?_; intro v6 w6 hO6 hG6 hV6))
                  obtain ⟨a6, c6, e6, _⟩ := (hO6.rd s0).shape
                  subst e6
                  have HG6 : Hid (Chg (ob (.slice a4 k c4)) V5 w6) := ⟨hG6⟩
                  obtain ⟨n6, Hn6⟩ : ∃ x, Hid ((M.take k ++ [((x1, x2, x3) : Sh)]).length = x) := ⟨_, ⟨rfl⟩⟩
                  have Hn6k : Hid (n6 = k + 1) := ⟨by rw [← Hn6.out, List.length_append, Hlt.out]; rfl⟩
                  rw [Hn6.out] at hO6 hV6 ⊢
                  have HO6 := Hid.mk hO6
                  have HB6 : Hid (Below w.heap.size w w6) := ⟨HB5.out.trans (HG6.out.below HB5.out.size (fun x hx => (HO5.out.lt x hx).1))⟩
                  have HCD6 : Hid (Chg [] wi w6) := ⟨(HCD4.out.trans (Chg.ofBelow HBV5.out)).thenNew HG6.out (fun x hx => .inr (by rw [Hz1.out]; exact Hv4.out x hx))⟩
                  have HRD : Hid (RdE sh3 3 s0 w6 (.slice (some ⟨g, k * 3, none⟩) (m - k) (c3 - k)) (M.drop k)) := ⟨by
                    have h0 := (HOi.out.far HCD6.out (by simp)).rd s0
                    have h1 := h0.drop' Hm.out (j := k) (by omega)
                    rw [Nat.zero_add] at h1
                    exact h1⟩
                  have hn1 : ((M.take k ++ [((x1, x2, x3) : Sh)]).length + (M.drop k).length) * 24 ≤ 140737488355328 := by rw [Hn6.out, Hn6k.out, List.length_drop, Hm.out]; omega
                  have hn2 : (M.take k ++ [((x1, x2, x3) : Sh)]).length + (M.drop k).length ≤ maxLen := by rw [Hn6.out, Hn6k.out, List.length_drop, Hm.out]; unfold maxLen; omega
                  have hn3 : w.heap.size ≤ w6.heap.size := HB6.out.size
                  have HLen : Hid ((M.take k ++ [((x1, x2, x3) : Sh)] ++ M.drop k).length = m + 1) := ⟨by rw [List.length_append, Hn6.out, Hn6k.out, List.length_drop, Hm.out]; omega⟩
                  clear hO6 hG6 hV6 d0 d1 d2 HV5 HV1
                  have hck : ¬ c3 = k := by omega
                  have hck' : ¬ k = c3 := by omega
                  go_wp2_with (refine wp_appE (f := sh3) (d := s0) eltS rfl (.tmp 92) (.tmp 95) rfl rfl HO6.out rfl HRD.out hn1 hn2 hn3 ?_; intro v7 w7 hO7 hG7 hV7)
                  have HO7 := Hid.mk hO7
                  have HB7 : Hid (Below w.heap.size w w7) := ⟨HB6.out.trans (Chg.below hG7 HB6.out.size (fun x hx => (HO6.out.lt x hx).1))⟩
                  clear hO7 hG7 hV7
                  go_roundg (n - (i + 1))
                  case measure => omega
                  case rel => exact ⟨i + 1, _, by omega, by omega, by go_num, HO7, ⟨rise_in HSr.out (fun y hy => Hbef.out y hy) (fun y hy => Haft.out y hy)⟩, ⟨by rw [HFn.out]; exact (ins_perm M (x1, x2, x3) k).trans (HMm.out.append_right _)⟩, HRn, ⟨by rw [HLen.out]; have := HMl.out; omega⟩, HB7, ⟨own_some HO7.out (by rw [HLen.out]; omega)⟩⟩
              · have Hkm : Hid (k = m) := ⟨by omega⟩
                have hkmz : ¬ (k : Int) < (m : Int) := by omega
                have Haft : Hid (∀ y ∈ M.drop k, shl y (x1, x2, x3) = false) := ⟨fun y hy => by rw [List.drop_eq_nil_of_le (by rw [Hm.out]; omega)] at hy; simp at hy⟩
                go_upto_region 12 with fail
                go_quiet (fail)
                have HOi : Hid (OwnE sh3 3 27 (wk.drewN nq) w.heap.size (.slice (some ⟨g, 0, none⟩) m c3) M) := ⟨HOr.out.far (Chg.ofBelow (X := []) (below_drewN (Below.refl _ wk) nq)) (by simp)⟩
                have HAi : Hid ((wk.drewN nq).heap[q]? = some (.cells #[.int .i64 x1, .int .i64 x2, .int .i64 x3] 27 (0, 0))) := ⟨HAr.out⟩
                have HBi : Hid (Below w.heap.size w (wk.drewN nq)) := ⟨below_drewN HBr.out nq⟩
                clear HOr HAr HBr
                obtain ⟨wi, Hwi⟩ : ∃ x, Hid (wk.drewN nq = x) := ⟨_, ⟨rfl⟩⟩
                rw [Hwi.out] at HOi HAi HBi ⊢
                clear Hwi
                by_cases hck : c3 = k
                · have hck2 : k = c3 := hck.symm
                  clear hck
                  subst hck2
                  have HRT : Hid (RdE sh3 3 s0 wi (.slice (some ⟨g, 0, none⟩) k k) (M.take k)) := ⟨(HOi.out.rd s0).take' Hm.out (by omega)⟩
                  obtain ⟨V1, HV1⟩ : ∃ x, Hid (wi.alloc (.cells #[] 27) = x) := ⟨_, ⟨rfl⟩⟩
                  have HBV1 : Hid (Below wi.heap.size wi V1) := ⟨by rw [← HV1.out]; exact (Below.refl _ wi).alloc (Nat.le_refl _) _⟩
                  have HN1 : Hid (OwnE sh3 3 27 V1 w.heap.size (.slice (some ⟨wi.heap.size, 0, none⟩) 0 0) []) := ⟨by rw [← HV1.out]; exact (OwnE.none sh3 3 27 wi).base HBi.out.size⟩
                  have HRT1 : Hid (RdE sh3 3 s0 V1 (.slice (some ⟨g, 0, none⟩) k k) (M.take k)) := ⟨HRT.out.far (Chg.ofBelow (X := []) HBV1.out) (by simp)⟩
                  obtain ⟨z1, Hz1⟩ : ∃ x, Hid (wi.heap.size = x) := ⟨_, ⟨rfl⟩⟩
                  have Hgz : Hid (g < z1) := ⟨by rw [← Hz1.out]; exact (HOi.out.lt g (by simp [ob, Value.ownBlock])).2⟩
                  have Hwz : Hid (w.heap.size ≤ z1) := ⟨by rw [← Hz1.out]; exact HBi.out.size⟩
                  have HV1s : Hid (V1.heap.size = z1 + 1) := ⟨by rw [← HV1.out, ← Hz1.out]; simp⟩
                  rw [Hz1.out] at HN1
                  have hl1 : (([] : List Sh).length + (M.take k).length) * 24 ≤ 140737488355328 := by rw [List.length_take, Hm.out]; simp; omega
                  have hl2 : ([] : List Sh).length + (M.take k).length ≤ maxLen := by rw [List.length_take, Hm.out]; unfold maxLen; simp; omega
                  have hl3 : w.heap.size ≤ V1.heap.size := by have := HV1s.out; have := Hwz.out; omega
                  have Hlt : Hid ((M.take k).length = k) := ⟨by rw [List.length_take, Hm.out]; omega⟩
                  have hkm0 : (k : Int) ≤ (m : Int) := by omega
                  have hkc0 : (k : Int) ≤ (k : Int) := by omega
                  have hkm1 : k ≤ m := by omega
                  have hkc1 : k ≤ k := by omega
                  go_upto_region 15 with (first
                    | (rw [HV1.out, Hz1.out])
                    | (refine wp_appE (f := sh3) (d := s0) eltS rfl (.tmp 83) (.tmp 86) rfl rfl HN1.out rfl HRT1.out hl1 hl2 hl3 ?_; intro v4 w4 hO4 hG4 hV4))
                  obtain ⟨a4, c4, e4, _⟩ := (hO4.rd s0).shape
                  rw [List.nil_append] at hO4 e4
                  subst e4
                  rw [Hlt.out] at hO4 hV4 ⊢
                  have HG4' : Hid (Chg (ob (.slice (some ⟨z1, 0, none⟩) 0 0)) V1 w4) := ⟨hG4⟩
                  have HG4 : Hid (Chg [z1] V1 w4) := ⟨by have := HG4'.out; simpa [ob, Value.ownBlock] using this⟩
                  have hV4' : (Value.slice a4 k c4).ownBlock = (Value.slice (some ⟨z1, 0, none⟩) 0 0).ownBlock ∨ (Value.slice a4 k c4).ownBlock = some V1.heap.size := hV4
                  have HO4 := Hid.mk hO4
                  have Hv4 : Hid (∀ x ∈ ob (.slice a4 k c4), z1 ≤ x) := ⟨fun x hx => by
                    rw [mem_ob] at hx
                    rcases hV4' with e | e
                    · rw [e] at hx; simp [Value.ownBlock] at hx; omega
                    · rw [e, HV1s.out] at hx; simp at hx; omega⟩
                  have HB4 : Hid (Below w.heap.size w w4) := ⟨(HBi.out.trans (HBV1.out.mono HBi.out.size)).trans (HG4.out.below (by have := HV1s.out; have := Hwz.out; omega) (by have := Hwz.out; simpa using this))⟩
                  have HCD4 : Hid (Chg [] wi w4) := ⟨(Chg.ofBelow (X := []) HBV1.out).thenNew HG4.out (by have := Hz1.out; simp; omega)⟩
                  have HA4 : Hid (w4.heap[q]? = some (.cells #[.int .i64 x1, .int .i64 x2, .int .i64 x3] 27 (0, 0))) := ⟨(HCD4.out.block q (Array.getElem?_eq_some_iff.1 HAi.out).1 (by simp)).trans HAi.out⟩
                  have d0 : w4.cell? ⟨q, 0, none⟩ = some (.int .i64 x1) := by rw [cell_of_row _ _ _ _ _ _ HA4.out]; rfl
                  have d1 : w4.cell? ⟨q, 1, none⟩ = some (.int .i64 x2) := by rw [cell_of_row _ _ _ _ _ _ HA4.out]; rfl
                  have d2 : w4.cell? ⟨q, 2, none⟩ = some (.int .i64 x3) := by rw [cell_of_row _ _ _ _ _ _ HA4.out]; rfl
                  clear hO4 hG4 hV4 hV4' HG4' HRT HRT1 HN1
                  obtain ⟨V5, HV5⟩ : ∃ x, Hid (w4.alloc (.cells #[.int .i64 x1, .int .i64 x2, .int .i64 x3] 27) = x) := ⟨_, ⟨rfl⟩⟩
                  have HBV5 : Hid (Below w4.heap.size w4 V5) := ⟨by rw [← HV5.out]; exact (Below.refl _ w4).alloc (Nat.le_refl _) _⟩
                  have HR5 : Hid (RdE sh3 3 s0 V5 (.slice (some ⟨w4.heap.size, 0, none⟩) 1 1) [(x1, x2, x3)]) := ⟨by rw [← HV5.out]; exact rde_one w4 ((x1, x2, x3) : Sh) rfl (sh3_one (x1, x2, x3)).2 27⟩
                  have HO5 : Hid (OwnE sh3 3 27 V5 w.heap.size (.slice a4 k c4) (M.take k)) := ⟨HO4.out.far (Chg.ofBelow (X := []) HBV5.out) (by simp)⟩
                  have HB5 : Hid (Below w.heap.size w V5) := ⟨HB4.out.trans (HBV5.out.mono HB4.out.size)⟩
                  have hm1 : ((M.take k).length + [((x1, x2, x3) : Sh)].length) * 24 ≤ 140737488355328 := by rw [Hlt.out]; simp; omega
                  have hm2 : (M.take k).length + [((x1, x2, x3) : Sh)].length ≤ maxLen := by rw [Hlt.out]; unfold maxLen; simp; omega
                  have hm3 : w.heap.size ≤ V5.heap.size := HB5.out.size
                  go_upto_region 16 with (first
                    | (refine wp_sliceE eltS rfl (.tmp 89) rfl #[.int .i64 x1, .int .i64 x2, .int .i64 x3] rfl rfl (by decide) ?_; rw [HV5.out])
                    | (rw [HV5.out]; refine wp_appE (f := sh3) (d := s0) eltS rfl (.tmp 88) (.tmp 90) rfl rfl HO5.out rfl HR5.out hm1 hm2 hm3 ?_; intro v6 w6 hO6 hG6 hV6)
                    | (refine wp_appE (f := sh3) (d := s0) eltS rfl (.tmp 88) (.tmp 90) rfl rfl HO5.out rfl HR5.out hm1 hm2 hm3 ?_; intro v6 w6 hO6 hG6 hV6))
                  obtain ⟨a6, c6, e6, _⟩ := (hO6.rd s0).shape
                  subst e6
                  have HG6 : Hid (Chg (ob (.slice a4 k c4)) V5 w6) := ⟨hG6⟩
                  obtain ⟨n6, Hn6⟩ : ∃ x, Hid ((M.take k ++ [((x1, x2, x3) : Sh)]).length = x) := ⟨_, ⟨rfl⟩⟩
                  have Hn6k : Hid (n6 = k + 1) := ⟨by rw [← Hn6.out, List.length_append, Hlt.out]; rfl⟩
                  rw [Hn6.out] at hO6 hV6 ⊢
                  have HO6 := Hid.mk hO6
                  have HB6 : Hid (Below w.heap.size w w6) := ⟨HB5.out.trans (HG6.out.below HB5.out.size (fun x hx => (HO5.out.lt x hx).1))⟩
                  have HCD6 : Hid (Chg [] wi w6) := ⟨(HCD4.out.trans (Chg.ofBelow HBV5.out)).thenNew HG6.out (fun x hx => .inr (by rw [Hz1.out]; exact Hv4.out x hx))⟩
                  have HRD : Hid (RdE sh3 3 s0 w6 (.slice (some ⟨g, 0, none⟩) 0 0) (M.drop k)) := ⟨by
                    have e : M.drop k = [] := List.drop_eq_nil_of_le (by rw [Hm.out]; have := Hkm.out; omega)
                    rw [e]
                    exact RdE.none' (by unfold maxLen; omega) (by simp)⟩
                  have hn1 : ((M.take k ++ [((x1, x2, x3) : Sh)]).length + (M.drop k).length) * 24 ≤ 140737488355328 := by rw [Hn6.out, Hn6k.out, List.length_drop, Hm.out]; omega
                  have hn2 : (M.take k ++ [((x1, x2, x3) : Sh)]).length + (M.drop k).length ≤ maxLen := by rw [Hn6.out, Hn6k.out, List.length_drop, Hm.out]; unfold maxLen; omega
                  have hn3 : w.heap.size ≤ w6.heap.size := HB6.out.size
                  have HLen : Hid ((M.take k ++ [((x1, x2, x3) : Sh)] ++ M.drop k).length = m + 1) := ⟨by rw [List.length_append, Hn6.out, Hn6k.out, List.length_drop, Hm.out]; omega⟩
                  clear hO6 hG6 hV6 d0 d1 d2 HV5 HV1
                  go_wp2_with (refine wp_appE (f := sh3) (d := s0) eltS rfl (.tmp 92) (.tmp 95) rfl rfl HO6.out rfl HRD.out hn1 hn2 hn3 ?_; intro v7 w7 hO7 hG7 hV7)
                  have HO7 := Hid.mk hO7
                  have HB7 : Hid (Below w.heap.size w w7) := ⟨HB6.out.trans (Chg.below hG7 HB6.out.size (fun x hx => (HO6.out.lt x hx).1))⟩
                  clear hO7 hG7 hV7
                  go_roundg (n - (i + 1))
                  case measure => omega
                  case rel => exact ⟨i + 1, _, by omega, by omega, by go_num, HO7, ⟨rise_in HSr.out (fun y hy => Hbef.out y hy) (fun y hy => Haft.out y hy)⟩, ⟨by rw [HFn.out]; exact (ins_perm M (x1, x2, x3) k).trans (HMm.out.append_right _)⟩, HRn, ⟨by rw [HLen.out]; have := HMl.out; omega⟩, HB7, ⟨own_some HO7.out (by rw [HLen.out]; omega)⟩⟩
                · skip
                  have HRT : Hid (RdE sh3 3 s0 wi (.slice (some ⟨g, 0, none⟩) k c3) (M.take k)) := ⟨(HOi.out.rd s0).take' Hm.out (by omega)⟩
                  obtain ⟨V1, HV1⟩ : ∃ x, Hid (wi.alloc (.cells #[] 27) = x) := ⟨_, ⟨rfl⟩⟩
                  have HBV1 : Hid (Below wi.heap.size wi V1) := ⟨by rw [← HV1.out]; exact (Below.refl _ wi).alloc (Nat.le_refl _) _⟩
                  have HN1 : Hid (OwnE sh3 3 27 V1 w.heap.size (.slice (some ⟨wi.heap.size, 0, none⟩) 0 0) []) := ⟨by rw [← HV1.out]; exact (OwnE.none sh3 3 27 wi).base HBi.out.size⟩
                  have HRT1 : Hid (RdE sh3 3 s0 V1 (.slice (some ⟨g, 0, none⟩) k c3) (M.take k)) := ⟨HRT.out.far (Chg.ofBelow (X := []) HBV1.out) (by simp)⟩
                  obtain ⟨z1, Hz1⟩ : ∃ x, Hid (wi.heap.size = x) := ⟨_, ⟨rfl⟩⟩
                  have Hgz : Hid (g < z1) := ⟨by rw [← Hz1.out]; exact (HOi.out.lt g (by simp [ob, Value.ownBlock])).2⟩
                  have Hwz : Hid (w.heap.size ≤ z1) := ⟨by rw [← Hz1.out]; exact HBi.out.size⟩
                  have HV1s : Hid (V1.heap.size = z1 + 1) := ⟨by rw [← HV1.out, ← Hz1.out]; simp⟩
                  rw [Hz1.out] at HN1
                  have hl1 : (([] : List Sh).length + (M.take k).length) * 24 ≤ 140737488355328 := by rw [List.length_take, Hm.out]; simp; omega
                  have hl2 : ([] : List Sh).length + (M.take k).length ≤ maxLen := by rw [List.length_take, Hm.out]; unfold maxLen; simp; omega
                  have hl3 : w.heap.size ≤ V1.heap.size := by have := HV1s.out; have := Hwz.out; omega
                  have Hlt : Hid ((M.take k).length = k) := ⟨by rw [List.length_take, Hm.out]; omega⟩
                  have hkm0 : (k : Int) ≤ (m : Int) := by omega
                  have hkc0 : (k : Int) ≤ (c3 : Int) := by omega
                  have hkm1 : k ≤ m := by omega
                  have hkc1 : k ≤ c3 := by omega
                  go_upto_region 15 with (first
                    | (rw [HV1.out, Hz1.out])
                    | (refine wp_appE (f := sh3) (d := s0) eltS rfl (.tmp 83) (.tmp 86) rfl rfl HN1.out rfl HRT1.out hl1 hl2 hl3 ?_; intro v4 w4 hO4 hG4 hV4))
                  obtain ⟨a4, c4, e4, _⟩ := (hO4.rd s0).shape
                  rw [List.nil_append] at hO4 e4
                  subst e4
                  rw [Hlt.out] at hO4 hV4 ⊢
                  have HG4' : Hid (Chg (ob (.slice (some ⟨z1, 0, none⟩) 0 0)) V1 w4) := ⟨hG4⟩
                  have HG4 : Hid (Chg [z1] V1 w4) := ⟨by have := HG4'.out; simpa [ob, Value.ownBlock] using this⟩
                  have hV4' : (Value.slice a4 k c4).ownBlock = (Value.slice (some ⟨z1, 0, none⟩) 0 0).ownBlock ∨ (Value.slice a4 k c4).ownBlock = some V1.heap.size := hV4
                  have HO4 := Hid.mk hO4
                  have Hv4 : Hid (∀ x ∈ ob (.slice a4 k c4), z1 ≤ x) := ⟨fun x hx => by
                    rw [mem_ob] at hx
                    rcases hV4' with e | e
                    · rw [e] at hx; simp [Value.ownBlock] at hx; omega
                    · rw [e, HV1s.out] at hx; simp at hx; omega⟩
                  have HB4 : Hid (Below w.heap.size w w4) := ⟨(HBi.out.trans (HBV1.out.mono HBi.out.size)).trans (HG4.out.below (by have := HV1s.out; have := Hwz.out; omega) (by have := Hwz.out; simpa using this))⟩
                  have HCD4 : Hid (Chg [] wi w4) := ⟨(Chg.ofBelow (X := []) HBV1.out).thenNew HG4.out (by have := Hz1.out; simp; omega)⟩
                  have HA4 : Hid (w4.heap[q]? = some (.cells #[.int .i64 x1, .int .i64 x2, .int .i64 x3] 27 (0, 0))) := ⟨(HCD4.out.block q (Array.getElem?_eq_some_iff.1 HAi.out).1 (by simp)).trans HAi.out⟩
                  have d0 : w4.cell? ⟨q, 0, none⟩ = some (.int .i64 x1) := by rw [cell_of_row _ _ _ _ _ _ HA4.out]; rfl
                  have d1 : w4.cell? ⟨q, 1, none⟩ = some (.int .i64 x2) := by rw [cell_of_row _ _ _ _ _ _ HA4.out]; rfl
                  have d2 : w4.cell? ⟨q, 2, none⟩ = some (.int .i64 x3) := by rw [cell_of_row _ _ _ _ _ _ HA4.out]; rfl
                  clear hO4 hG4 hV4 hV4' HG4' HRT HRT1 HN1
                  obtain ⟨V5, HV5⟩ : ∃ x, Hid (w4.alloc (.cells #[.int .i64 x1, .int .i64 x2, .int .i64 x3] 27) = x) := ⟨_, ⟨rfl⟩⟩
                  have HBV5 : Hid (Below w4.heap.size w4 V5) := ⟨by rw [← HV5.out]; exact (Below.refl _ w4).alloc (Nat.le_refl _) _⟩
                  have HR5 : Hid (RdE sh3 3 s0 V5 (.slice (some ⟨w4.heap.size, 0, none⟩) 1 1) [(x1, x2, x3)]) := ⟨by rw [← HV5.out]; exact rde_one w4 ((x1, x2, x3) : Sh) rfl (sh3_one (x1, x2, x3)).2 27⟩
                  have HO5 : Hid (OwnE sh3 3 27 V5 w.heap.size (.slice a4 k c4) (M.take k)) := ⟨HO4.out.far (Chg.ofBelow (X := []) HBV5.out) (by simp)⟩
                  have HB5 : Hid (Below w.heap.size w V5) := ⟨HB4.out.trans (HBV5.out.mono HB4.out.size)⟩
                  have hm1 : ((M.take k).length + [((x1, x2, x3) : Sh)].length) * 24 ≤ 140737488355328 := by rw [Hlt.out]; simp; omega
                  have hm2 : (M.take k).length + [((x1, x2, x3) : Sh)].length ≤ maxLen := by rw [Hlt.out]; unfold maxLen; simp; omega
                  have hm3 : w.heap.size ≤ V5.heap.size := HB5.out.size
                  go_upto_region 16 with (first
                    | (refine wp_sliceE eltS rfl (.tmp 89) rfl #[.int .i64 x1, .int .i64 x2, .int .i64 x3] rfl rfl (by decide) ?_; rw [HV5.out])
                    | (rw [HV5.out]; refine wp_appE (f := sh3) (d := s0) eltS rfl (.tmp 88) (.tmp 90) rfl rfl HO5.out rfl HR5.out hm1 hm2 hm3 ?_; intro v6 w6 hO6 hG6 hV6)
                    | (refine wp_appE (f := sh3) (d := s0) eltS rfl (.tmp 88) (.tmp 90) rfl rfl HO5.out rfl HR5.out hm1 hm2 hm3 ?_; intro v6 w6 hO6 hG6 hV6))
                  obtain ⟨a6, c6, e6, _⟩ := (hO6.rd s0).shape
                  subst e6
                  have HG6 : Hid (Chg (ob (.slice a4 k c4)) V5 w6) := ⟨hG6⟩
                  obtain ⟨n6, Hn6⟩ : ∃ x, Hid ((M.take k ++ [((x1, x2, x3) : Sh)]).length = x) := ⟨_, ⟨rfl⟩⟩
                  have Hn6k : Hid (n6 = k + 1) := ⟨by rw [← Hn6.out, List.length_append, Hlt.out]; rfl⟩
                  rw [Hn6.out] at hO6 hV6 ⊢
                  have HO6 := Hid.mk hO6
                  have HB6 : Hid (Below w.heap.size w w6) := ⟨HB5.out.trans (HG6.out.below HB5.out.size (fun x hx => (HO5.out.lt x hx).1))⟩
                  have HCD6 : Hid (Chg [] wi w6) := ⟨(HCD4.out.trans (Chg.ofBelow HBV5.out)).thenNew HG6.out (fun x hx => .inr (by rw [Hz1.out]; exact Hv4.out x hx))⟩
                  have HRD : Hid (RdE sh3 3 s0 w6 (.slice (some ⟨g, k * 3, none⟩) (m - k) (c3 - k)) (M.drop k)) := ⟨by
                    have h0 := (HOi.out.far HCD6.out (by simp)).rd s0
                    have h1 := h0.drop' Hm.out (j := k) (by omega)
                    rw [Nat.zero_add] at h1
                    exact h1⟩
                  have hn1 : ((M.take k ++ [((x1, x2, x3) : Sh)]).length + (M.drop k).length) * 24 ≤ 140737488355328 := by rw [Hn6.out, Hn6k.out, List.length_drop, Hm.out]; omega
                  have hn2 : (M.take k ++ [((x1, x2, x3) : Sh)]).length + (M.drop k).length ≤ maxLen := by rw [Hn6.out, Hn6k.out, List.length_drop, Hm.out]; unfold maxLen; omega
                  have hn3 : w.heap.size ≤ w6.heap.size := HB6.out.size
                  have HLen : Hid ((M.take k ++ [((x1, x2, x3) : Sh)] ++ M.drop k).length = m + 1) := ⟨by rw [List.length_append, Hn6.out, Hn6k.out, List.length_drop, Hm.out]; omega⟩
                  clear hO6 hG6 hV6 d0 d1 d2 HV5 HV1
                  have hck' : ¬ k = c3 := fun e => hck e.symm
                  go_wp2_with (refine wp_appE (f := sh3) (d := s0) eltS rfl (.tmp 92) (.tmp 95) rfl rfl HO6.out rfl HRD.out hn1 hn2 hn3 ?_; intro v7 w7 hO7 hG7 hV7)
                  have HO7 := Hid.mk hO7
                  have HB7 : Hid (Below w.heap.size w w7) := ⟨HB6.out.trans (Chg.below hG7 HB6.out.size (fun x hx => (HO6.out.lt x hx).1))⟩
                  clear hO7 hG7 hV7
                  go_roundg (n - (i + 1))
                  case measure => omega
                  case rel => exact ⟨i + 1, _, by omega, by omega, by go_num, HO7, ⟨rise_in HSr.out (fun y hy => Hbef.out y hy) (fun y hy => Haft.out y hy)⟩, ⟨by rw [HFn.out]; exact (ins_perm M (x1, x2, x3) k).trans (HMm.out.append_right _)⟩, HRn, ⟨by rw [HLen.out]; have := HMl.out; omega⟩, HB7, ⟨own_some HO7.out (by rw [HLen.out]; omega)⟩⟩
        · have HFn : Hid ((L.take (i + 1)).filter (low p) = (L.take i).filter (low p)) := ⟨by rw [HFs.out, if_neg hlow, List.append_nil]⟩
          rw [Hlow.out] at hlow
          have n1 : ¬ 100 * x3 < pm1 := by simp at hlow; omega
          have n2 : ¬ (x2 = 0 ∧ 0 < p) := by simp at hlow; omega
          clear hlow
          by_cases hz : x2 = 0
          · have hzb : (x2 == 0) = true := by simp [hz]
            have n3 : ¬ 0 < p := fun h => n2 ⟨hz, h⟩
            clear n2 hz
            go_wp2_with fail
            go_roundg (n - (i + 1))
            case measure => omega
            case rel => exact ⟨i + 1, M, by omega, by omega, by go_num, HO2, HSr, ⟨by rw [HFn.out]; exact HMm.out⟩, HRn, ⟨by rw [Hm.out]; have := HMl.out; omega⟩, HB02, ⟨by simp [Value.ownBlock]⟩⟩
          · have hzb : (x2 == 0) = false := by simp [hz]
            clear n2 hz
            go_wp2_with fail
            go_roundg (n - (i + 1))
            case measure => omega
            case rel => exact ⟨i + 1, M, by omega, by omega, by go_num, HO2, HSr, ⟨by rw [HFn.out]; exact HMm.out⟩, HRn, ⟨by rw [Hm.out]; have := HMl.out; omega⟩, HB02, ⟨by simp [Value.ownBlock]⟩⟩
    · obtain rfl : n = i := by omega
      rw [HTe.out] at HMm HRt
      have HOI : Hid (OwnI (wo.alloc (.cells #[] 3)) w.heap.size (.slice (some ⟨wo.heap.size, 0, none⟩) 0 0) []) := ⟨by
        have := owni_none wo
        exact own_base this (fun g hg => by simp [Value.ownBlock] at hg; rw [← hg]; exact HB.out.size)⟩
      have HBA : Hid (Below wo.heap.size wo (wo.alloc (.cells #[] 3))) := ⟨(Below.refl _ wo).alloc (Nat.le_refl _) _⟩
      have hmb : m ≤ 5864062014700 := by have := HMl.out; omega
      obtain ⟨ww, Hww⟩ : ∃ x, Hid (wo = x) := ⟨_, ⟨rfl⟩⟩
      rw [Hww.out] at HO HB HOI HBA ⊢
      clear Hww
      go_upto_region 19 with fail
      go_loopg [13, 14] m (fun gg s13 s14 wr => ∃ j : Nat, j ≤ m ∧ m - j ≤ gg ∧ (j : Int) ≤ most ∧ s14 = .int .i64 (j : Int) ∧ Hid (OwnI wr w.heap.size s13 ((M.map (·.1)).take j)) ∧ Hid (OwnE sh3 3 27 wr w.heap.size (.slice a3 m c3) M) ∧ Hid (Below w.heap.size w wr))
      case atStart => exact ⟨0, Nat.zero_le _, by omega, by omega, rfl, HOI, ⟨HO.out.far (Chg.ofBelow (X := []) HBA.out) (by simp)⟩, ⟨HB.out.trans (HBA.out.mono HB.out.size)⟩⟩
      case round =>
        clear HO HB HOI HBA Hsome
        obtain ⟨j, hj, hgg2, hjm, rfl, HI, HO, HB⟩ := hrel
        rename World => wk
        obtain ⟨a5, c5, e5, _⟩ := HI.out.shape
        subst e5
        obtain ⟨PJ, HPJ⟩ : ∃ z, Hid ((M.map (·.1)).take j = z) := ⟨_, ⟨rfl⟩⟩
        have HPl : Hid (PJ.length = j) := ⟨by rw [← HPJ.out, List.length_take, List.length_map, Hm.out]; omega⟩
        rw [HPJ.out, HPl.out] at HI
        rw [HPJ.out, HPl.out]
        by_cases hlj : j < m
        · have hljz : (j : Int) < (m : Int) := by omega
          by_cases hjo : (j : Int) < most
          · obtain ⟨g, cur, eg, _⟩ := own_row (by have := HO.out.own; rw [Hm.out] at this; exact this) (show 0 < m by omega)
            subst eg
            have e0 := own_cellE HO.out s0 (i := j) (j := 0) (by rw [Hm.out]; exact hlj) (by decide)
            have Hsn : Hid ((M.map (·.1)).take (j + 1) = PJ ++ [(M.getD j s0).1]) := ⟨by
              rw [List.take_add_one, HPJ.out]
              have hjl : j < M.length := by rw [Hm.out]; exact hlj
              simp [List.getD, List.getElem?_eq_getElem hjl]⟩
            generalize M.getD j s0 = uu at e0 Hsn
            obtain ⟨u1, u2, u3⟩ := uu
            simp [sh3] at e0
            have hl6 : PJ.length ≤ 6000000000000 := by rw [HPl.out]; omega
            have hb6 : w.heap.size ≤ wk.heap.size := HB.out.size
            go_wp2_with (refine wp_appI1 rfl (.tmp 109) (.tmp 115) rfl rfl HI.out rfl hl6 hb6 ?_; intro v7 w7 hO7 hG7 hV7)
            have HI7 : Hid (OwnI w7 w.heap.size v7 ((M.map (·.1)).take (j + 1))) := ⟨by rw [Hsn.out]; exact hO7⟩
            have HG7 : Hid (Chg (ob (.slice a5 j c5)) wk w7) := ⟨hG7⟩
            have HO7 : Hid (OwnE sh3 3 27 w7 w.heap.size (.slice (some ⟨g, 0, none⟩) m c3) M) := ⟨HO.out.far HG7.out (fun x hx hm => (HO.out.ty x hx).ne (own_ty HI.out (mem_ob.1 hm)) (by decide) rfl)⟩
            have HB7 : Hid (Below w.heap.size w w7) := ⟨HB.out.trans (HG7.out.below HB.out.size (fun x hx => (HI.out.lt x (mem_ob.1 hx)).1))⟩
            clear hO7 hG7 hV7
            go_roundg (m - (j + 1))
            case measure => omega
            case rel => exact ⟨j + 1, by omega, by omega, by omega, by go_num, HI7, HO7, HB7⟩
          · have HR : Hid (RdI wk (.slice a5 j c5) ((M.map (·.1)).take most.toNat)) := ⟨by rw [show most.toNat = j by omega, HPJ.out]; exact HI.out.rd⟩
            go_wp2_with fail
            go_ret2
            exact ⟨_, 0, rfl, HB.out, .inr ⟨HRt.out, rfl, M, HMm.out, HSr.out, HR.out⟩⟩
        · have hljz : ¬ (j : Int) < (m : Int) := by omega
          have HR : Hid (RdI wk (.slice a5 j c5) ((M.map (·.1)).take most.toNat)) := ⟨by
            have e1 : (M.map (·.1)).take most.toNat = (M.map (·.1)).take j := by
              rw [List.take_of_length_le (by rw [List.length_map, Hm.out]; omega), List.take_of_length_le (by rw [List.length_map, Hm.out]; omega)]
            rw [e1, HPJ.out]
            exact HI.out.rd⟩
          go_wp2_with fail
          go_ret2
          exact ⟨_, 0, rfl, HB.out, .inr ⟨HRt.out, rfl, M, HMm.out, HSr.out, HR.out⟩⟩
end
end Go.Proofs.Ytjcojpddjhjhbaa
