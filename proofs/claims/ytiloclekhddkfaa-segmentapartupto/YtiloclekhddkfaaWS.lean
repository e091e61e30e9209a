/- The walk of SegmentSplits. -/
import Derived.Test.YtiloclekhddkfaaS23
namespace Go.Proofs.Ytiloclekhddkfaa
open Go.RowKit Go.Lib

theorem splitF_all {most : Int} (hm : 1 ≤ most) (L : List Rf) : (splitF most L).flatten = L := by
  have h := spI hm L
  unfold splitF
  split
  · rw [List.flatten_append]; simpa using h.all
  · rename_i h0
    have e : (spF most L).2 = [] := List.length_eq_zero_iff.1 (by omega)
    have := h.all
    rw [e, List.append_nil] at this
    exact this
theorem splitF_each {most : Int} (hm : 1 ≤ most) (L : List Rf) : ∀ g ∈ splitF most L, 1 ≤ g.length ∧ (g.length : Int) ≤ most := by
  have h := spI hm L
  unfold splitF
  intro g hg
  split at hg
  · rename_i h0
    rcases List.mem_append.1 hg with q | q
    · exact h.each g q
    · simp at q
      subst q
      exact ⟨h0, (sp_len hm L).2.2⟩
  · exact h.each g hg
structure SpO (most : Int) (L : List Rf) (G : List (List Rf)) (c : Int) : Prop where
  each : ∀ g ∈ G, 1 ≤ g.length ∧ (g.length : Int) ≤ most
  code : (c = 0 ∧ G.flatten = L) ∨ (c = 2 ∧ G = [])
theorem spR_o (most : Int) (L : List Rf) : SpO most L (spR most L).1 (spR most L).2 := by
  unfold spR
  split
  · rename_i h
    exact ⟨splitF_each h.1 L, .inl ⟨rfl, splitF_all h.1 L⟩⟩
  · exact ⟨fun g hg => (by cases hg), .inr ⟨rfl, rfl⟩⟩
theorem flG_snoc (G : List (List Rf)) (k : Nat) (hk : k < G.length) : (G.take (k + 1)).flatten.length = (G.take k).flatten.length + (G.getD k []).length := by
  rw [List.take_add_one, List.getElem?_eq_getElem hk, List.flatten_append, List.length_append]
  simp [List.getD, List.getElem?_eq_getElem hk]
theorem flG_le (G : List (List Rf)) (k : Nat) : (G.take k).flatten.length ≤ G.flatten.length := by
  have : G.flatten = (G.take k).flatten ++ (G.drop k).flatten := by rw [← List.flatten_append, List.take_append_drop]
  rw [this, List.length_append]
  omega
theorem lenG_le {G : List (List Rf)} (h : ∀ g ∈ G, 1 ≤ g.length) : G.length ≤ G.flatten.length := by
  induction G with
  | nil => simp
  | cons g G ih => have := ih (fun x hx => h x (by simp [hx])); have := h g (by simp); rw [List.flatten_cons, List.length_append, List.length_cons]; omega
section
variable {w : World}
set_option maxHeartbeats 4000000 in
set_option maxRecDepth 100000 in
theorem walk_splits (v : Value) (L : List Rf) (most : Int) (h : RdR w v L) (hL : L.length ≤ 4000000000000) (hm : -9223372036854775808 ≤ most ∧ most ≤ 9223372036854775807) : Calls Try.prog 4 #[v, .int .i64 most] w fun e w' => e = .returned (.bool true) ∧ Below w.heap.size w w' := by
  have t1 := split_any v L most h hL
  have t2 := fun (wx : World) (hb : Below w.heap.size w wx) => rsplit_any (w := wx) v L most (h.below hb) hL
  have te := fun (wx : World) (hb : Below w.heap.size w wx) => ends_any (w := wx) v L most (h.below hb) (by omega) hm
  have tr := fun (wx : World) (hb : Below w.heap.size w wx) => rends_any (w := wx) v L most (h.below hb) (by omega) hm
  have HP := Hid.mk (spR_o most L)
  generalize spR most L = sr at t1 t2 HP
  obtain ⟨G, c⟩ := sr
  simp only at t1 t2 HP
  generalize ends L most = Ed at te tr
  obtain ⟨n, Hn⟩ : ∃ n, Hid (L.length = n) := ⟨_, ⟨rfl⟩⟩
  obtain ⟨av, cv, rfl, hcv, hcm, _⟩ := h.shape
  rw [Hn.out] at hL hcv t1 ⊢
  simp only [Hn.out] at t2 te tr
  clear h
  have HGl : Hid (G.length ≤ 4000000000000 ∧ G.flatten.length ≤ 4000000000000) := ⟨by
    rcases HP.out.code with q | q
    · have h1 := lenG_le (fun g hg => (HP.out.each g hg).1)
      rw [q.2, Hn.out] at h1
      rw [q.2, Hn.out]
      omega
    · rw [q.2]; simp⟩
  go_enter Try.func4, Try.ntmps4
  go_upto_region 2 with (go_at_call 14; refine t1.mono ?_; rintro e w1 ⟨v1, rfl, hO1, hb1⟩)
  have HO1 := Hid.mk hO1
  have HB1 := Hid.mk hb1
  have t3 := t2 w1 hb1
  clear hO1 hb1 t1 t2
  go_upto_region 3 with (go_at_call 15; refine t3.mono ?_; rintro e w2 ⟨v2, rfl, hO2, hb2⟩)
  have HO1b : Hid (OwnG w2 (fun k => w.heap.size ≤ k) w.heap.size v1 G) := ⟨HO1.out.far (Chg.ofBelow (X := []) hb2) (by simp) (by simp)⟩
  have HO2 := Hid.mk hO2
  have HB2 : Hid (Below w.heap.size w w2) := ⟨HB1.out.trans (hb2.mono HB1.out.size)⟩
  clear hO2 hb2 t3 HO1
  obtain ⟨a5, c5, e5, _⟩ := HO1b.out.rows.shape
  subst e5
  obtain ⟨a7, c7, e7, _⟩ := HO2.out.rows.shape
  subst e7
  obtain ⟨nG, HnG⟩ : ∃ n, Hid (G.length = n) := ⟨_, ⟨rfl⟩⟩
  rw [HnG.out] at HO1b HO2 HGl ⊢
  have hnG := HGl.out.1
  have t3 := te w2 HB2.out
  go_wp2_with fail
  refine t3.mono ?_
  rintro e w3 ⟨rfl, hb3⟩
  have HB3 : Hid (Below w.heap.size w w3) := ⟨HB2.out.trans (hb3.mono HB2.out.size)⟩
  have t4 := tr w3 HB3.out
  have HO13 : Hid (OwnG w3 (fun k => w.heap.size ≤ k) w.heap.size (.slice a5 nG c5) G) := ⟨HO1b.out.far (Chg.ofBelow (X := []) hb3) (by simp) (by simp)⟩
  have HO23 : Hid (OwnG w3 (fun k => w1.heap.size ≤ k) w1.heap.size (.slice a7 nG c7) G) := ⟨HO2.out.far (Chg.ofBelow (X := []) hb3) (by simp) (by simp)⟩
  clear hb3 HO1b HO2 t3 te tr
  go_wp2_with fail
  refine t4.mono ?_
  rintro e w4 ⟨rfl, e4⟩
  subst e4
  obtain ⟨W, eW⟩ : ∃ x, x = w3 := ⟨_, rfl⟩
  subst eW
  clear t4
  cases Ed <;> (
    go_wp2_with fail
    go_loopg [9, 10] nG (fun gg s9 s10 wq => ∃ k : Nat, k ≤ nG ∧ nG - k ≤ gg ∧ s10 = .int .i64 (k : Int) ∧ s9 = .int .i64 ((G.take k).flatten.length : Int) ∧ Hid (Chg [] W wq))
    case atStart => exact ⟨0, Nat.zero_le _, by omega, rfl, by simp, ⟨Chg.refl _ _⟩⟩
    case round =>
      obtain ⟨k, hkb, hg2, rfl, rfl, HG⟩ := hrel
      rename World => wq
      have hfl := flG_le G k
      by_cases hkl : k < nG
      · have hkz : (k : Int) < (nG : Int) := by omega
        have hkG : k < G.length := by rw [HnG.out]; exact hkl
        obtain ⟨b1, o1, d1, x1, m1, z1, e1, _, hc1, hr1⟩ := HO13.out.rows.at hkG
        obtain ⟨b2, o2, d2, x2, m2, z2, e2, _, hc2, hr2⟩ := HO23.out.rows.at hkG
        rw [HnG.out] at e1 e2
        simp at e1 e2
        obtain ⟨rfl, rfl⟩ := e1
        obtain ⟨rfl, rfl⟩ := e2
        have HFs := Hid.mk (flG_snoc G k hkG)
        have hfl1 := flG_le G (k + 1)
        have Heach := Hid.mk (HP.out.each _ (getD_mem' (d := []) hkG))
        generalize G.getD k [] = g at hr1 hr2 HFs Heach
        have hm1 : g.length = m1 := by obtain ⟨_, _, e, _⟩ := hr1.shape; simp at e; exact e.2.1.symm
        have hm2 : g.length = m2 := by obtain ⟨_, _, e, _⟩ := hr2.shape; simp at e; exact e.2.1.symm
        rw [hm1] at hm2
        subst hm2
        rw [hm1] at HFs Heach
        have hea := Heach.out
        have hml : m1 ≤ 4000000000000 := by have := HGl.out.2; have := HFs.out; omega
        have t4 := same_yes (w := wq.drew) _ _ g (hr1.far HG.out.drew (by simp)) (hr2.far HG.out.drew (by simp)) (by rw [hm1]; omega)
        have HSS : Hid (∀ w', Chg [] W w' → w'.cell? ⟨b1, o1 + k, none⟩ = some (.slice x1 m1 z1) ∧ w'.cell? ⟨b2, o2 + k, none⟩ = some (.slice x2 m1 z2)) := ⟨fun w' hc => ⟨(hc.cell (a := ⟨b1, o1 + k, none⟩) (World.block_lt_of_cell? _ _ hc1) (by simp)).trans hc1, (hc.cell (a := ⟨b2, o2 + k, none⟩) (World.block_lt_of_cell? _ _ hc2) (by simp)).trans hc2⟩⟩
        have hS0 : (fun w' => w'.cell? ⟨b1, o1 + k, none⟩ = some (.slice x1 m1 z1) ∧ w'.cell? ⟨b2, o2 + k, none⟩ = some (.slice x2 m1 z2)) wq.drew := HSS.out _ HG.out.drew
        have hq1 : ¬ (m1 : Int) < 1 := by omega
        have hq2 : ¬ most < (m1 : Int) := by omega
        obtain ⟨T, HT⟩ : ∃ T, Hid ((G.take k).flatten.length = T) := ⟨_, ⟨rfl⟩⟩
        have hT : T + m1 ≤ 4000000000000 := by have := HGl.out.2; have := HFs.out; have := HT.out; omega
        rw [HT.out] at HFs ⊢
        clear hc1 hc2 hr1 hr2 hm1 hea hfl hfl1
        go_upto_region 9 with fail
        refine wp_region_held_drew (S := (fun w' => w'.cell? ⟨b1, o1 + k, none⟩ = some (.slice x1 m1 z1) ∧ w'.cell? ⟨b2, o2 + k, none⟩ = some (.slice x2 m1 z2))) (by kernel_rfl) hS0 (fun hS => ?_)
        refine wpAnyH_take (i := 0) (v := .slice (some ⟨b1, o1, none⟩) nG c5) rfl (by kernel_rfl) (by kernel_rfl) (by kernel_rfl) (fun _ _ _ h => h) (Or.inl ⟨by kernel_rfl, fun _ _ => by kernel_rfl⟩) hS ?_
        refine wpAnyH_take (i := 1) (v := .int .i64 (k : Int)) rfl (by kernel_rfl) (by kernel_rfl) (by kernel_rfl) (fun _ _ _ h => h) (Or.inl ⟨by kernel_rfl, fun _ _ => by kernel_rfl⟩) hS ?_
        refine wpAnyH_take (i := 2) (v := .pointer (some ⟨b1, o1 + k, none⟩)) rfl (by kernel_rfl) (by kernel_rfl) (by kernel_rfl) (fun _ _ _ h => h) (Or.inl ⟨by kernel_rfl, fun wx hx => by go_simp⟩) hS ?_
        refine wpAnyH_take (i := 3) (v := .slice x1 m1 z1) rfl (by kernel_rfl) (by kernel_rfl) (by kernel_rfl) (fun _ _ _ h => h) (Or.inl ⟨by kernel_rfl, fun wx hx => by obtain ⟨hx1, hx2⟩ := hx; go_simp⟩) hS ?_
        refine wpAnyH_take (i := 4) (v := .slice (some ⟨b2, o2, none⟩) nG c7) rfl (by kernel_rfl) (by kernel_rfl) (by kernel_rfl) (fun _ _ _ h => h) (Or.inl ⟨by kernel_rfl, fun _ _ => by kernel_rfl⟩) hS ?_
        refine wpAnyH_take (i := 5) (v := .int .i64 (k : Int)) rfl (by kernel_rfl) (by kernel_rfl) (by kernel_rfl) (fun _ _ _ h => h) (Or.inl ⟨by kernel_rfl, fun _ _ => by kernel_rfl⟩) hS ?_
        refine wpAnyH_take (i := 6) (v := .pointer (some ⟨b2, o2 + k, none⟩)) rfl (by kernel_rfl) (by kernel_rfl) (by kernel_rfl) (fun _ _ _ h => h) (Or.inl ⟨by kernel_rfl, fun wx hx => by go_simp⟩) hS ?_
        refine wpAnyH_take (i := 7) (v := .slice x2 m1 z2) rfl (by kernel_rfl) (by kernel_rfl) (by kernel_rfl) (fun _ _ _ h => h) (Or.inl ⟨by kernel_rfl, fun wx hx => by obtain ⟨hx1, hx2⟩ := hx; go_simp⟩) hS ?_
        refine wpAnyH_ready (rs := [8]) (by kernel_rfl) (by simp) (AllReadyH.cons rfl (fun Kc hK => ?_) AllReadyH.nil)
        go_simp
        refine t4.mono ?_
        rintro e w5 ⟨rfl, hc5⟩
        have HG5 : Hid (Chg [] W w5) := ⟨HG.out.drew.trans hc5⟩
        have hS5 : (fun w' => w'.cell? ⟨b1, o1 + k, none⟩ = some (.slice x1 m1 z1) ∧ w'.cell? ⟨b2, o2 + k, none⟩ = some (.slice x2 m1 z2)) w5 := HSS.out w5 HG5.out
        refine hK.out _ _ hS5 (fun hS => ?_)
        clear hK
        refine wpAnyH_take (i := 9) (v := .bool false) rfl (by kernel_rfl) (by kernel_rfl) (by kernel_rfl) (fun _ _ _ h => h) (Or.inl ⟨by kernel_rfl, fun wx hx => by go_simp⟩) hS ?_
        refine wpAnyH_take (i := 10) (v := .bool false) rfl (by kernel_rfl) (by kernel_rfl) (by kernel_rfl) (fun _ _ _ h => h) (Or.inl ⟨by kernel_rfl, fun _ _ => by kernel_rfl⟩) hS ?_
        refine wpAnyH_take (i := 11) (v := .slice (some ⟨b1, o1, none⟩) nG c5) rfl (by kernel_rfl) (by kernel_rfl) (by kernel_rfl) (fun _ _ _ h => h) (Or.inl ⟨by kernel_rfl, fun _ _ => by kernel_rfl⟩) hS ?_
        refine wpAnyH_take (i := 12) (v := .int .i64 (k : Int)) rfl (by kernel_rfl) (by kernel_rfl) (by kernel_rfl) (fun _ _ _ h => h) (Or.inl ⟨by kernel_rfl, fun _ _ => by kernel_rfl⟩) hS ?_
        refine wpAnyH_take (i := 13) (v := .pointer (some ⟨b1, o1 + k, none⟩)) rfl (by kernel_rfl) (by kernel_rfl) (by kernel_rfl) (fun _ _ _ h => h) (Or.inl ⟨by kernel_rfl, fun wx hx => by go_simp⟩) hS ?_
        refine wpAnyH_take (i := 14) (v := .slice x1 m1 z1) rfl (by kernel_rfl) (by kernel_rfl) (by kernel_rfl) (fun _ _ _ h => h) (Or.inl ⟨by kernel_rfl, fun wx hx => by obtain ⟨hx1, hx2⟩ := hx; go_simp⟩) hS ?_
        refine wpAnyH_take (i := 15) (v := .int .i64 (m1 : Int)) rfl (by kernel_rfl) (by kernel_rfl) (by kernel_rfl) (fun _ _ _ h => h) (Or.inl ⟨by kernel_rfl, fun wx hx => by go_simp⟩) hS ?_
        refine wpAnyH_take (i := 16) (v := .bool false) rfl (by kernel_rfl) (by kernel_rfl) (by kernel_rfl) (fun _ _ _ h => h) (Or.inl ⟨by kernel_rfl, fun wx hx => by go_simp⟩) hS ?_
        refine wpAnyH_take (i := 17) (v := .bool false) rfl (by kernel_rfl) (by kernel_rfl) (by kernel_rfl) (fun _ _ _ h => h) (Or.inl ⟨by kernel_rfl, fun wx hx => by go_simp⟩) hS ?_
        refine wpAnyH_take (i := 18) (v := .bool false) rfl (by kernel_rfl) (by kernel_rfl) (by kernel_rfl) (fun _ _ _ h => h) (Or.inl ⟨by kernel_rfl, fun _ _ => by kernel_rfl⟩) hS ?_
        refine wpAnyH_take (i := 19) (v := .slice (some ⟨b1, o1, none⟩) nG c5) rfl (by kernel_rfl) (by kernel_rfl) (by kernel_rfl) (fun _ _ _ h => h) (Or.inl ⟨by kernel_rfl, fun _ _ => by kernel_rfl⟩) hS ?_
        refine wpAnyH_take (i := 20) (v := .int .i64 (k : Int)) rfl (by kernel_rfl) (by kernel_rfl) (by kernel_rfl) (fun _ _ _ h => h) (Or.inl ⟨by kernel_rfl, fun _ _ => by kernel_rfl⟩) hS ?_
        refine wpAnyH_take (i := 21) (v := .pointer (some ⟨b1, o1 + k, none⟩)) rfl (by kernel_rfl) (by kernel_rfl) (by kernel_rfl) (fun _ _ _ h => h) (Or.inl ⟨by kernel_rfl, fun wx hx => by go_simp⟩) hS ?_
        refine wpAnyH_take (i := 22) (v := .slice x1 m1 z1) rfl (by kernel_rfl) (by kernel_rfl) (by kernel_rfl) (fun _ _ _ h => h) (Or.inl ⟨by kernel_rfl, fun wx hx => by obtain ⟨hx1, hx2⟩ := hx; go_simp⟩) hS ?_
        refine wpAnyH_take (i := 23) (v := .int .i64 (m1 : Int)) rfl (by kernel_rfl) (by kernel_rfl) (by kernel_rfl) (fun _ _ _ h => h) (Or.inl ⟨by kernel_rfl, fun wx hx => by go_simp⟩) hS ?_
        refine wpAnyH_take (i := 24) (v := .int .i64 most) rfl (by kernel_rfl) (by kernel_rfl) (by kernel_rfl) (fun _ _ _ h => h) (Or.inl ⟨by kernel_rfl, fun _ _ => by kernel_rfl⟩) hS ?_
        refine wpAnyH_take (i := 25) (v := .bool false) rfl (by kernel_rfl) (by kernel_rfl) (by kernel_rfl) (fun _ _ _ h => h) (Or.inl ⟨by kernel_rfl, fun wx hx => by go_simp⟩) hS ?_
        refine wpAnyH_take (i := 26) (v := .bool false) rfl (by kernel_rfl) (by kernel_rfl) (by kernel_rfl) (fun _ _ _ h => h) (Or.inl ⟨by kernel_rfl, fun wx hx => by go_simp⟩) hS ?_
        refine wpAnyH_done (by kernel_rfl) ?_ _
        clear hS hS0
        obtain ⟨hS5a, hS5b⟩ := hS5
        go_simp
        go_wp2_with fail
        go_roundg (nG - (k + 1))
        case measure => omega
        case rel => exact ⟨k + 1, by omega, by omega, by go_num, by rw [HFs.out]; go_num, HG5⟩
      · obtain rfl : k = nG := by omega
        have HT : Hid (G.take k = G) := ⟨List.take_of_length_le (by rw [HnG.out]; exact Nat.le_refl _)⟩
        rw [HT.out]
        have HBq : Hid (Below w.heap.size w wq) := ⟨HB3.out.trans ((HG.out.below (Nat.le_refl _) (by simp)).mono HB3.out.size)⟩
        rcases HP.out.code with q | q
        · have Hq : Hid (G.flatten.length = n) := ⟨by rw [q.2, Hn.out]⟩
          rw [Hq.out]
          have q1 := q.1
          subst q1
          clear q hfl
          go_wp2_with fail
          refine (live_any (w := wq)).mono ?_
          rintro e w9 ⟨rfl, hb9⟩
          go_wp2_with fail
          go_ret
          exact ⟨rfl, HBq.out.trans (hb9.mono HBq.out.size)⟩
        · have q1 := q.1
          subst q1
          clear q hfl
          go_wp2_with fail
          refine (live_any (w := wq)).mono ?_
          rintro e w9 ⟨rfl, hb9⟩
          go_wp2_with fail
          go_ret
          exact ⟨rfl, HBq.out.trans (hb9.mono HBq.out.size)⟩)
end
end Go.Proofs.Ytiloclekhddkfaa
