/- The walk of SegmentApart. -/
import Derived.Test.YtiloclekhddkfaaWS
namespace Go.Proofs.Ytiloclekhddkfaa
open Go.RowKit Go.Lib

theorem ends_nil (most : Int) : ends [] most = false := by unfold ends; simp
theorem sp_open (most : Int) (L : List Rf) : ends (spF most L).2 most = false := by
  have g : ∀ (M : List Rf) (st : List (List Rf) × List Rf), ends st.2 most = false → ends (M.foldl (spStep most) st).2 most = false := by
    intro M
    induction M with
    | nil => intro st h; exact h
    | cons r M ih =>
      intro st h
      refine ih _ ?_
      unfold spStep
      by_cases e : ends (st.2 ++ [r]) most = true
      · rw [if_pos e]; exact ends_nil most
      · rw [if_neg e]; simpa using e
  exact g L ([], []) (ends_nil most)
theorem sp_grows (most : Int) : ∀ (M : List Rf) (st : List (List Rf) × List Rf), ∃ X, (M.foldl (spStep most) st).1 = st.1 ++ X
  | [], st => ⟨[], by simp⟩
  | r :: M, st => by
    obtain ⟨X, hX⟩ := sp_grows most M (spStep most st r)
    rw [List.foldl_cons, hX]
    unfold spStep
    split
    · exact ⟨[st.2 ++ [r]] ++ X, by simp⟩
    · exact ⟨X, rfl⟩
/-- The groups of A, and those of A and B: alike, up to the end of A's last whole one. -/
def Apart (most : Int) (G M : List (List Rf)) : Prop := ∀ i, i < G.length → (i + 1 = G.length ∧ ends (G.getD i []) most = false) ∨ (i < M.length ∧ G.getD i [] = M.getD i [])
theorem apart (most : Int) (A B : List Rf) : Apart most (splitF most A) (splitF most (A ++ B)) := by
  obtain ⟨X, hX⟩ := sp_grows most B (spF most A)
  have e : spF most (A ++ B) = B.foldl (spStep most) (spF most A) := by unfold spF; rw [List.foldl_append]
  have hM : ∃ Y, splitF most (A ++ B) = (spF most A).1 ++ Y := by
    unfold splitF
    rw [e, hX]
    split
    · exact ⟨_, List.append_assoc _ _ _⟩
    · exact ⟨X, rfl⟩
  obtain ⟨Y, hY⟩ := hM
  intro i hi
  rw [hY]
  have ho := sp_open most A
  unfold splitF at hi ⊢
  split at hi
  · rename_i h0
    rw [if_pos h0]
    rw [List.length_append] at hi
    simp at hi
    by_cases hl : i < (spF most A).1.length
    · right
      refine ⟨by rw [List.length_append]; omega, ?_⟩
      simp only [List.getD]
      rw [List.getElem?_append_left hl, List.getElem?_append_left hl]
    · left
      have hi2 : i = (spF most A).1.length := by omega
      refine ⟨by rw [List.length_append]; simp; omega, ?_⟩
      rw [hi2]
      simp only [List.getD]
      rw [List.getElem?_append_right (Nat.le_refl _)]
      simpa using ho
  · rename_i h0
    rw [if_neg h0]
    right
    refine ⟨by rw [List.length_append]; omega, ?_⟩
    simp only [List.getD]
    rw [List.getElem?_append_left hi]
section
variable {w : World}
set_option maxHeartbeats 4000000 in
set_option maxRecDepth 100000 in
theorem walk_apart (v u : Value) (L M : List Rf) (most : Int) (h : RdR w v L) (hu : RdR w u M) (hL : L.length ≤ 1100000) (hM : M.length ≤ 1100000) (hm : -9223372036854775808 ≤ most ∧ most ≤ 9223372036854775807) : Calls Try.prog 5 #[v, u, .int .i64 most] w fun e w' => e = .returned (.bool true) ∧ Below w.heap.size w w' := by
  have t1 := split_any v L most h (by omega)
  have t2 := fun (wx : World) (x : Value) (hx : RdR wx x (L ++ M)) => split_any (w := wx) x (L ++ M) most hx (by rw [List.length_append]; omega)
  have HP := Hid.mk (spR_o most L)
  have HQ := Hid.mk (spR_o most (L ++ M))
  have HAp : Hid ((spR most L).2 = (spR most (L ++ M)).2 ∧ Apart most (spR most L).1 (spR most (L ++ M)).1) := ⟨by
    unfold spR
    split
    · exact ⟨rfl, apart most L M⟩
    · exact ⟨rfl, fun i hi => by simp at hi⟩⟩
  generalize spR most L = sr at t1 HP HAp
  generalize spR most (L ++ M) = sq at t2 HQ HAp
  obtain ⟨G, c⟩ := sr
  obtain ⟨J, c2⟩ := sq
  simp only at t1 t2 HP HQ HAp
  obtain ⟨hc, hap⟩ := HAp.out
  subst hc
  have HA := Hid.mk hap
  have H := Hid.mk h
  have HU := Hid.mk hu
  obtain ⟨n, Hn⟩ : ∃ n, Hid (L.length = n) := ⟨_, ⟨rfl⟩⟩
  obtain ⟨av, cv, rfl, hcv, hcm, _⟩ := h.shape
  obtain ⟨nu, Hnu⟩ : ∃ n, Hid (M.length = n) := ⟨_, ⟨rfl⟩⟩
  obtain ⟨au, cu, rfl, hcu, hcmu, _⟩ := hu.shape
  rw [Hn.out] at hcv t1 H ⊢
  rw [Hnu.out] at hcu HU ⊢
  clear h hu hap HAp
  have HGl : Hid (G.length ≤ 1100000 ∧ G.flatten.length ≤ 1100000) := ⟨by
    rcases HP.out.code with q | q
    · have h1 := lenG_le (fun g hg => (HP.out.each g hg).1)
      rw [q.2] at h1
      rw [q.2]
      omega
    · rw [q.2]; simp⟩
  have HJl : Hid (J.length ≤ 2200000) := ⟨by
    rcases HQ.out.code with q | q
    · have h1 := lenG_le (fun g hg => (HQ.out.each g hg).1)
      rw [q.2, List.length_append] at h1
      omega
    · rw [q.2]; simp⟩
  go_enter Try.func5, Try.ntmps5
  go_upto_region 2 with (go_at_call 14; refine t1.mono ?_; rintro e w1 ⟨v1, rfl, hO1, hb1⟩)
  have HO1 := Hid.mk hO1
  have HB1 := Hid.mk hb1
  clear hO1 hb1 t1
  obtain ⟨a7, c7, e7, _⟩ := HO1.out.rows.shape
  subst e7
  obtain ⟨nG, HnG⟩ : ∃ n, Hid (G.length = n) := ⟨_, ⟨rfl⟩⟩
  rw [HnG.out] at HO1 HGl ⊢
  obtain ⟨w2, Hw2⟩ : ∃ w2, Hid (w1.alloc (.cells #[] 28) = w2) := ⟨_, ⟨rfl⟩⟩
  have HB12 : Hid (Below w1.heap.size w1 w2) := ⟨by rw [← Hw2.out]; exact (Below.refl _ w1).alloc (Nat.le_refl _) _⟩
  have HE2 : Hid (OwnE rc 35 28 w2 w1.heap.size (.slice (some ⟨w1.heap.size, 0, none⟩) 0 0) []) := ⟨by rw [← Hw2.out]; exact OwnE.none rc 35 28 w1⟩
  have HRv : Hid (RdE rc 35 r0 w2 (.slice av n cv) L) := ⟨((H.out.below HB1.out).below HB12.out).toE⟩
  have HLa : Hid ((([] : List Rf).length + L.length) * 56 ≤ 140737488355328 ∧ ([] : List Rf).length + L.length ≤ maxLen) := ⟨by simp; omega, by unfold maxLen; simp; omega⟩
  have hLa := HLa.out
  go_upto_region 3 with (first
    | (at_builtin; rw [Hw2.out]; refine wp_appE eltR rfl (.tmp 19) (.tmp 20) rfl rfl HE2.out rfl HRv.out hLa.1 hLa.2 HB12.out.size ?_; intro v3 w3 hE3 hG3 hV3; obtain ⟨a3, c3, e3, _⟩ := (hE3.rd r0).shape; subst e3
       have HB13 : Hid (Below w1.heap.size w1 w3) := ⟨HB12.out.trans (hG3.below HB12.out.size (fun x hx => (HE2.out.lt x hx).1))⟩
       have HRu : Hid (RdE rc 35 r0 w3 (.slice au nu cu) M) := ⟨((HU.out.below HB1.out).below HB13.out).toE⟩
       have HE3 : Hid (OwnE rc 35 28 w3 w1.heap.size (.slice a3 ([] ++ L).length c3) ([] ++ L)) := ⟨hE3⟩
       have HLb : Hid ((([] ++ L).length + M.length) * 56 ≤ 140737488355328 ∧ ([] ++ L).length + M.length ≤ maxLen) := ⟨by simp; omega, by unfold maxLen; simp; omega⟩
       have hLb := HLb.out
       clear hE3 hG3 hV3)
    | (at_builtin; refine wp_appE eltR rfl (.tmp 21) (.tmp 22) rfl rfl HE3.out rfl HRu.out hLb.1 hLb.2 HB13.out.size ?_; intro v4 w4 hE4 hG4 hV4
       have HB14 : Hid (Below w1.heap.size w1 w4) := ⟨HB13.out.trans (hG4.below HB13.out.size (fun x hx => (HE3.out.lt x hx).1))⟩
       have hR4 : RdR w4 v4 (L ++ M) := (by rw [List.nil_append] at hE4; exact (hE4.rd r0).toR (fun r hr => (List.mem_append.1 hr).elim (fun q => H.out.sums r q) (fun q => HU.out.sums r q)))
       have t3 := t2 w4 v4 hR4
       clear hE4 hG4 hV4)
    | (go_at_call 14; refine t3.mono ?_; rintro e w5 ⟨v5, rfl, hO5, hb5⟩))
  have HO5 := Hid.mk hO5
  have HB15 : Hid (Below w1.heap.size w1 w5) := ⟨HB14.out.trans (hb5.mono HB14.out.size)⟩
  have HO1b : Hid (OwnG w5 (fun k => w.heap.size ≤ k) w.heap.size (.slice a7 nG c7) G) := ⟨HO1.out.far (Chg.ofBelow (X := []) HB15.out) (by simp) (by simp)⟩
  have HB5 : Hid (Below w.heap.size w w5) := ⟨HB1.out.trans (HB15.out.mono HB1.out.size)⟩
  obtain ⟨a9, c9, e9, _⟩ := hO5.rows.shape
  subst e9
  obtain ⟨nH, HnH⟩ : ∃ n, Hid (J.length = n) := ⟨_, ⟨rfl⟩⟩
  rw [HnH.out] at HO5 HJl ⊢
  have hnG := HGl.out.1
  have hnH := HJl.out
  clear hO5 hb5 t3 t2 hR4 HB14 HB15 HRu HE3 hLb hLa HO1
  obtain ⟨W, eW⟩ : ∃ x, x = w5 := ⟨_, rfl⟩
  subst eW
  rcases HP.out.code with q | q
  · have q1 := q.1
    subst q1
    clear q
    go_wp2_with fail
    go_loopg [11] nG (fun gg s11 wq => ∃ k : Nat, k ≤ nG ∧ nG - k ≤ gg ∧ s11 = .int .i64 (k : Int) ∧ Hid (Chg [] W wq))
    case atStart => exact ⟨0, Nat.zero_le _, by omega, rfl, ⟨Chg.refl _ _⟩⟩
    case round =>
      obtain ⟨k, hkb, hg2, rfl, HG⟩ := hrel
      rename World => wq
      have HBq : Hid (Below w.heap.size w wq) := ⟨HB5.out.trans ((HG.out.below (Nat.le_refl _) (by simp)).mono HB5.out.size)⟩
      by_cases hkl : k < nG
      · have hkz : (k : Int) < (nG : Int) := by omega
        have hkG : k < G.length := by rw [HnG.out]; exact hkl
        obtain ⟨b1, o1, d1, x1, m1, z1, e1, _, hc1, hr1⟩ := HO1b.out.rows.at hkG
        rw [HnG.out] at e1
        simp at e1
        obtain ⟨rfl, rfl⟩ := e1
        have Hap := Hid.mk (HA.out k hkG)
        have hm1 : (G.getD k []).length = m1 := by obtain ⟨_, _, e, _⟩ := hr1.shape; obtain ⟨_, e2, _⟩ := Value.slice.inj e; exact e2.symm
        have hml : m1 ≤ 1100000 := by have h1 := flG_le G (k + 1); have h2 := flG_snoc G k hkG; have h3 := HGl.out.2; omega
        have te := rends_any (w := wq) _ (G.getD k []) most (hr1.far HG.out (by simp)) (by rw [hm1]; omega) hm
        have hc1q : wq.cell? ⟨b1, o1 + k, none⟩ = some (.slice x1 m1 z1) := (HG.out.cell (a := ⟨b1, o1 + k, none⟩) (World.block_lt_of_cell? _ _ hc1) (by simp)).trans hc1
        by_cases hkH : k < nH
        · have hkJ : k < J.length := by rw [HnH.out]; exact hkH
          by_cases heq : G.getD k [] = J.getD k []
          · obtain ⟨b2, o2, d2, x2, m2, z2, e2, _, hc2, hr2⟩ := HO5.out.rows.at hkJ
            rw [HnH.out] at e2
            simp at e2
            obtain ⟨rfl, rfl⟩ := e2
            rw [← heq] at hr2
            have hm2 : (G.getD k []).length = m2 := by obtain ⟨_, _, e, _⟩ := hr2.shape; obtain ⟨_, e2, _⟩ := Value.slice.inj e; exact e2.symm
            rw [hm1] at hm2
            subst hm2
            have t4 := same_yes (w := wq.drew) _ _ (G.getD k []) (hr1.far HG.out.drew (by simp)) (hr2.far HG.out.drew (by simp)) (by rw [hm1]; omega)
            have HSS : Hid (∀ w', Chg [] W w' → w'.cell? ⟨b1, o1 + k, none⟩ = some (.slice x1 m1 z1) ∧ w'.cell? ⟨b2, o2 + k, none⟩ = some (.slice x2 m1 z2)) := ⟨fun w' hc => ⟨(hc.cell (a := ⟨b1, o1 + k, none⟩) (World.block_lt_of_cell? _ _ hc1) (by simp)).trans hc1, (hc.cell (a := ⟨b2, o2 + k, none⟩) (World.block_lt_of_cell? _ _ hc2) (by simp)).trans hc2⟩⟩
            have hS0 : (fun w' => w'.cell? ⟨b1, o1 + k, none⟩ = some (.slice x1 m1 z1) ∧ w'.cell? ⟨b2, o2 + k, none⟩ = some (.slice x2 m1 z2)) wq.drew := HSS.out _ HG.out.drew
            have hkHz : (k : Int) < (nH : Int) := by omega
            generalize ends (G.getD k []) most = E at te Hap
            clear hc1 hc2 hr1 hr2 hm1 heq Hap hkG hkJ
            by_cases hlast : k + 1 = nG
            · have hlz : (k : Int) = (nG : Int) - 1 := by omega
              have hlz2 : (nG : Int) - 1 = (k : Int) := by omega
              have Hlast := Hid.mk hlast
              clear hlast hlz
              cases E with
              | false =>
                clear hS0 t4
                go_wp2_with fail
                refine te.mono ?_
                rintro e wx ⟨rfl, ex⟩
                subst ex
                go_wp2_with fail
                refine (live_any (w := wq)).mono ?_
                rintro e w9 ⟨rfl, hb9⟩
                go_wp2_with fail
                go_ret
                exact ⟨rfl, HBq.out.trans (hb9.mono HBq.out.size)⟩
              | true =>
                go_wp2_with fail
                refine te.mono ?_
                rintro e wx ⟨rfl, ex⟩
                subst ex
                clear te hc1q
                go_upto_region 9 with fail
                refine wp_region_held_drew (S := (fun w' => w'.cell? ⟨b1, o1 + k, none⟩ = some (.slice x1 m1 z1) ∧ w'.cell? ⟨b2, o2 + k, none⟩ = some (.slice x2 m1 z2))) (by kernel_rfl) hS0 (fun hS => ?_)
                refine wpAnyH_take (i := 0) (v := .int .i64 (k : Int)) rfl (by kernel_rfl) (by kernel_rfl) (by kernel_rfl) (fun _ _ _ h => h) (Or.inl ⟨by kernel_rfl, fun _ _ => by kernel_rfl⟩) hS ?_
                refine wpAnyH_take (i := 1) (v := .slice (some ⟨b2, o2, none⟩) nH c9) rfl (by kernel_rfl) (by kernel_rfl) (by kernel_rfl) (fun _ _ _ h => h) (Or.inl ⟨by kernel_rfl, fun _ _ => by kernel_rfl⟩) hS ?_
                refine wpAnyH_take (i := 2) (v := .int .i64 (nH : Int)) rfl (by kernel_rfl) (by kernel_rfl) (by kernel_rfl) (fun _ _ _ h => h) (Or.inl ⟨by kernel_rfl, fun wx hx => by go_simp⟩) hS ?_
                refine wpAnyH_take (i := 3) (v := .bool false) rfl (by kernel_rfl) (by kernel_rfl) (by kernel_rfl) (fun _ _ _ h => h) (Or.inl ⟨by kernel_rfl, fun wx hx => by go_simp⟩) hS ?_
                refine wpAnyH_take (i := 4) (v := .bool false) rfl (by kernel_rfl) (by kernel_rfl) (by kernel_rfl) (fun _ _ _ h => h) (Or.inl ⟨by kernel_rfl, fun _ _ => by kernel_rfl⟩) hS ?_
                refine wpAnyH_take (i := 5) (v := .slice (some ⟨b1, o1, none⟩) nG c7) rfl (by kernel_rfl) (by kernel_rfl) (by kernel_rfl) (fun _ _ _ h => h) (Or.inl ⟨by kernel_rfl, fun _ _ => by kernel_rfl⟩) hS ?_
                refine wpAnyH_take (i := 6) (v := .int .i64 (k : Int)) rfl (by kernel_rfl) (by kernel_rfl) (by kernel_rfl) (fun _ _ _ h => h) (Or.inl ⟨by kernel_rfl, fun _ _ => by kernel_rfl⟩) hS ?_
                refine wpAnyH_take (i := 7) (v := .pointer (some ⟨b1, o1 + k, none⟩)) rfl (by kernel_rfl) (by kernel_rfl) (by kernel_rfl) (fun _ _ _ h => h) (Or.inl ⟨by kernel_rfl, fun wx hx => by go_simp⟩) hS ?_
                refine wpAnyH_take (i := 8) (v := .slice x1 m1 z1) rfl (by kernel_rfl) (by kernel_rfl) (by kernel_rfl) (fun _ _ _ h => h) (Or.inl ⟨by kernel_rfl, fun wx hx => by obtain ⟨hx1, hx2⟩ := hx; go_simp⟩) hS ?_
                refine wpAnyH_take (i := 9) (v := .slice (some ⟨b2, o2, none⟩) nH c9) rfl (by kernel_rfl) (by kernel_rfl) (by kernel_rfl) (fun _ _ _ h => h) (Or.inl ⟨by kernel_rfl, fun _ _ => by kernel_rfl⟩) hS ?_
                refine wpAnyH_take (i := 10) (v := .int .i64 (k : Int)) rfl (by kernel_rfl) (by kernel_rfl) (by kernel_rfl) (fun _ _ _ h => h) (Or.inl ⟨by kernel_rfl, fun _ _ => by kernel_rfl⟩) hS ?_
                refine wpAnyH_take (i := 11) (v := .pointer (some ⟨b2, o2 + k, none⟩)) rfl (by kernel_rfl) (by kernel_rfl) (by kernel_rfl) (fun _ _ _ h => h) (Or.inl ⟨by kernel_rfl, fun wx hx => by go_simp⟩) hS ?_
                refine wpAnyH_take (i := 12) (v := .slice x2 m1 z2) rfl (by kernel_rfl) (by kernel_rfl) (by kernel_rfl) (fun _ _ _ h => h) (Or.inl ⟨by kernel_rfl, fun wx hx => by obtain ⟨hx1, hx2⟩ := hx; go_simp⟩) hS ?_
                refine wpAnyH_ready (rs := [13]) (by kernel_rfl) (by simp) (AllReadyH.cons rfl (fun Kc hK => ?_) AllReadyH.nil)
                go_simp
                refine t4.mono ?_
                rintro e w5 ⟨rfl, hc5⟩
                have HG5 : Hid (Chg [] W w5) := ⟨HG.out.drew.trans hc5⟩
                have hS5 : (fun w' => w'.cell? ⟨b1, o1 + k, none⟩ = some (.slice x1 m1 z1) ∧ w'.cell? ⟨b2, o2 + k, none⟩ = some (.slice x2 m1 z2)) w5 := HSS.out w5 HG5.out
                refine hK.out _ _ hS5 (fun hS => ?_)
                clear hK
                refine wpAnyH_take (i := 14) (v := .bool false) rfl (by kernel_rfl) (by kernel_rfl) (by kernel_rfl) (fun _ _ _ h => h) (Or.inl ⟨by kernel_rfl, fun wx hx => by go_simp⟩) hS ?_
                refine wpAnyH_take (i := 15) (v := .bool false) rfl (by kernel_rfl) (by kernel_rfl) (by kernel_rfl) (fun _ _ _ h => h) (Or.inl ⟨by kernel_rfl, fun wx hx => by go_simp⟩) hS ?_
                refine wpAnyH_done (by kernel_rfl) ?_ _
                clear hS hS0 hS5
                go_simp
                go_wp2_with fail
                go_roundg (nG - (k + 1))
                case measure => omega
                case rel => exact ⟨k + 1, by omega, by omega, by go_num, HG5⟩
            · have hlz2 : ¬ (k : Int) = (nG : Int) - 1 := by omega
              have hlz3 : ((k : Int) == (nG : Int) - 1) = false := by simpa using hlz2
              clear te hc1q
              go_upto_region 9 with fail
              refine wp_region_held_drew (S := (fun w' => w'.cell? ⟨b1, o1 + k, none⟩ = some (.slice x1 m1 z1) ∧ w'.cell? ⟨b2, o2 + k, none⟩ = some (.slice x2 m1 z2))) (by kernel_rfl) hS0 (fun hS => ?_)
              refine wpAnyH_take (i := 0) (v := .int .i64 (k : Int)) rfl (by kernel_rfl) (by kernel_rfl) (by kernel_rfl) (fun _ _ _ h => h) (Or.inl ⟨by kernel_rfl, fun _ _ => by kernel_rfl⟩) hS ?_
              refine wpAnyH_take (i := 1) (v := .slice (some ⟨b2, o2, none⟩) nH c9) rfl (by kernel_rfl) (by kernel_rfl) (by kernel_rfl) (fun _ _ _ h => h) (Or.inl ⟨by kernel_rfl, fun _ _ => by kernel_rfl⟩) hS ?_
              refine wpAnyH_take (i := 2) (v := .int .i64 (nH : Int)) rfl (by kernel_rfl) (by kernel_rfl) (by kernel_rfl) (fun _ _ _ h => h) (Or.inl ⟨by kernel_rfl, fun wx hx => by go_simp⟩) hS ?_
              refine wpAnyH_take (i := 3) (v := .bool false) rfl (by kernel_rfl) (by kernel_rfl) (by kernel_rfl) (fun _ _ _ h => h) (Or.inl ⟨by kernel_rfl, fun wx hx => by go_simp⟩) hS ?_
              refine wpAnyH_take (i := 4) (v := .bool false) rfl (by kernel_rfl) (by kernel_rfl) (by kernel_rfl) (fun _ _ _ h => h) (Or.inl ⟨by kernel_rfl, fun _ _ => by kernel_rfl⟩) hS ?_
              refine wpAnyH_take (i := 5) (v := .slice (some ⟨b1, o1, none⟩) nG c7) rfl (by kernel_rfl) (by kernel_rfl) (by kernel_rfl) (fun _ _ _ h => h) (Or.inl ⟨by kernel_rfl, fun _ _ => by kernel_rfl⟩) hS ?_
              refine wpAnyH_take (i := 6) (v := .int .i64 (k : Int)) rfl (by kernel_rfl) (by kernel_rfl) (by kernel_rfl) (fun _ _ _ h => h) (Or.inl ⟨by kernel_rfl, fun _ _ => by kernel_rfl⟩) hS ?_
              refine wpAnyH_take (i := 7) (v := .pointer (some ⟨b1, o1 + k, none⟩)) rfl (by kernel_rfl) (by kernel_rfl) (by kernel_rfl) (fun _ _ _ h => h) (Or.inl ⟨by kernel_rfl, fun wx hx => by go_simp⟩) hS ?_
              refine wpAnyH_take (i := 8) (v := .slice x1 m1 z1) rfl (by kernel_rfl) (by kernel_rfl) (by kernel_rfl) (fun _ _ _ h => h) (Or.inl ⟨by kernel_rfl, fun wx hx => by obtain ⟨hx1, hx2⟩ := hx; go_simp⟩) hS ?_
              refine wpAnyH_take (i := 9) (v := .slice (some ⟨b2, o2, none⟩) nH c9) rfl (by kernel_rfl) (by kernel_rfl) (by kernel_rfl) (fun _ _ _ h => h) (Or.inl ⟨by kernel_rfl, fun _ _ => by kernel_rfl⟩) hS ?_
              refine wpAnyH_take (i := 10) (v := .int .i64 (k : Int)) rfl (by kernel_rfl) (by kernel_rfl) (by kernel_rfl) (fun _ _ _ h => h) (Or.inl ⟨by kernel_rfl, fun _ _ => by kernel_rfl⟩) hS ?_
              refine wpAnyH_take (i := 11) (v := .pointer (some ⟨b2, o2 + k, none⟩)) rfl (by kernel_rfl) (by kernel_rfl) (by kernel_rfl) (fun _ _ _ h => h) (Or.inl ⟨by kernel_rfl, fun wx hx => by go_simp⟩) hS ?_
              refine wpAnyH_take (i := 12) (v := .slice x2 m1 z2) rfl (by kernel_rfl) (by kernel_rfl) (by kernel_rfl) (fun _ _ _ h => h) (Or.inl ⟨by kernel_rfl, fun wx hx => by obtain ⟨hx1, hx2⟩ := hx; go_simp⟩) hS ?_
              refine wpAnyH_ready (rs := [13]) (by kernel_rfl) (by simp) (AllReadyH.cons rfl (fun Kc hK => ?_) AllReadyH.nil)
              go_simp
              refine t4.mono ?_
              rintro e w5 ⟨rfl, hc5⟩
              have HG5 : Hid (Chg [] W w5) := ⟨HG.out.drew.trans hc5⟩
              have hS5 : (fun w' => w'.cell? ⟨b1, o1 + k, none⟩ = some (.slice x1 m1 z1) ∧ w'.cell? ⟨b2, o2 + k, none⟩ = some (.slice x2 m1 z2)) w5 := HSS.out w5 HG5.out
              refine hK.out _ _ hS5 (fun hS => ?_)
              clear hK
              refine wpAnyH_take (i := 14) (v := .bool false) rfl (by kernel_rfl) (by kernel_rfl) (by kernel_rfl) (fun _ _ _ h => h) (Or.inl ⟨by kernel_rfl, fun wx hx => by go_simp⟩) hS ?_
              refine wpAnyH_take (i := 15) (v := .bool false) rfl (by kernel_rfl) (by kernel_rfl) (by kernel_rfl) (fun _ _ _ h => h) (Or.inl ⟨by kernel_rfl, fun wx hx => by go_simp⟩) hS ?_
              refine wpAnyH_done (by kernel_rfl) ?_ _
              clear hS hS0 hS5
              go_simp
              go_wp2_with fail
              go_roundg (nG - (k + 1))
              case measure => omega
              case rel => exact ⟨k + 1, by omega, by omega, by go_num, HG5⟩
          · have hap := Hap.out
            have hE : k + 1 = nG ∧ ends (G.getD k []) most = false := by
              rcases hap with z | z
              · exact ⟨by rw [← HnG.out]; exact z.1, z.2⟩
              · exact (heq z.2).elim
            rw [hE.2] at te
            have hlz2 : (nG : Int) - 1 = (k : Int) := by omega
            clear hE hap Hap heq hc1 hr1 hm1
            go_wp2_with fail
            refine te.mono ?_
            rintro e wx ⟨rfl, ex⟩
            subst ex
            go_wp2_with fail
            refine (live_any (w := wq)).mono ?_
            rintro e w9 ⟨rfl, hb9⟩
            go_wp2_with fail
            go_ret
            exact ⟨rfl, HBq.out.trans (hb9.mono HBq.out.size)⟩
        · have hap := Hap.out
          have hE : k + 1 = nG ∧ ends (G.getD k []) most = false := by
            rcases hap with z | z
            · exact ⟨by rw [← HnG.out]; exact z.1, z.2⟩
            · exact absurd z.1 (by rw [HnH.out]; exact hkH)
          rw [hE.2] at te
          have hlz2 : (nG : Int) - 1 = (k : Int) := by omega
          clear hE hap Hap hc1 hr1 hm1
          go_wp2_with fail
          refine te.mono ?_
          rintro e wx ⟨rfl, ex⟩
          subst ex
          go_wp2_with fail
          refine (live_any (w := wq)).mono ?_
          rintro e w9 ⟨rfl, hb9⟩
          go_wp2_with fail
          go_ret
          exact ⟨rfl, HBq.out.trans (hb9.mono HBq.out.size)⟩
      · obtain rfl : k = nG := by omega
        go_wp2_with fail
        refine (live_any (w := wq)).mono ?_
        rintro e w9 ⟨rfl, hb9⟩
        go_wp2_with fail
        go_ret
        exact ⟨rfl, HBq.out.trans (hb9.mono HBq.out.size)⟩
  · have q1 := q.1
    subst q1
    have q2 : nG = 0 := by rw [← HnG.out, q.2]; rfl
    subst q2
    have q3 : nH = 0 := by
      rcases HQ.out.code with z | z
      · exact absurd z.1 (by decide)
      · rw [← HnH.out, z.2]; rfl
    subst q3
    clear q
    go_wp2_with fail
    refine (live_any (w := W)).mono ?_
    rintro e w9 ⟨rfl, hb9⟩
    go_wp2_with fail
    go_ret
    exact ⟨rfl, HB5.out.trans (hb9.mono HB5.out.size)⟩
end
end Go.Proofs.Ytiloclekhddkfaa
