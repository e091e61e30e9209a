/- The document's Spots. -/
import Derived.Test.YtkkcdmdkjedkjaaS6
namespace Go.Proofs.Ytkkcdmdkjedkjaa
open Go.RowKit Go.Lib

theorem own_some {w : World} {base : Nat} {v : Value} {M : List Sp} (h : OwnE sp2 2 61 w base v M) (h0 : 0 < M.length) : v.ownBlock ≠ none := by
  obtain ⟨a, c, rfl, h1, _, h3⟩ := (h.rd (0, 0)).shape
  cases a with
  | none => have := h3 rfl; omega
  | some x => simp [Value.ownBlock]
theorem drop_lt {M : List Sp} (h : M.Pairwise Lt2) {k : Nat} {s : Sp} (hk : k < M.length) (h1 : Lt2 s (M.getD k (0, 0))) : ∀ y ∈ M.drop k, Lt2 s y := by
  intro y hy
  rw [List.drop_eq_getElem_cons hk] at hy
  have e : M.getD k (0, 0) = M[k] := by simp [List.getD, List.getElem?_eq_getElem hk]
  rcases List.mem_cons.1 hy with rfl | hy
  · rw [← e]; exact h1
  · rw [e] at h1
    refine lt2_tr _ _ _ h1 ?_
    have h2 := h
    rw [← List.take_append_drop k M, List.pairwise_append] at h2
    have h3 := h2.2.1
    rw [List.drop_eq_getElem_cons hk, List.pairwise_cons] at h3
    exact h3.1 y hy
theorem take_lt_snoc {M : List Sp} {k : Nat} {s : Sp} (hk : k < M.length) (h : ∀ y ∈ M.take k, Lt2 y s) (h1 : Lt2 (M.getD k (0, 0)) s) : ∀ y ∈ M.take (k + 1), Lt2 y s := by
  intro y hy
  rw [List.take_add_one, List.getElem?_eq_getElem hk] at hy
  rw [List.mem_append] at hy
  rcases hy with hy | hy
  · exact h y hy
  · simp at hy
    subst hy
    simpa [List.getD, List.getElem?_eq_getElem hk] using h1
section
variable {w : World}
set_option maxHeartbeats 16000000 in
set_option maxRecDepth 100000 in
theorem rspots_any (v : Value) (L : List Rf) (h : RdR w v L) (hL : L.length ≤ 2513169434843) :
    Calls Try.prog 27 #[v] w fun e w' => ∃ x, e = .returned x ∧ ∃ M, OwnE sp2 2 61 w' w.heap.size x M ∧ M.Pairwise Lt2 ∧ (∀ y, y ∈ M ↔ y ∈ L.map spo) ∧ M.length ≤ L.length ∧ Below w.heap.size w w' := by
  have H := Hid.mk h
  obtain ⟨av, cv, rfl, hcv, hcm, _⟩ := h.shape
  obtain ⟨n, Hn⟩ : ∃ n, Hid (L.length = n) := ⟨_, ⟨rfl⟩⟩
  rw [Hn.out] at H hcv hL ⊢
  have HTe : Hid (L.take n = L) := ⟨List.take_of_length_le (by rw [Hn.out]; exact Nat.le_refl _)⟩
  have HO0 : Hid (OwnE sp2 2 61 (w.alloc (.cells #[] 61)) w.heap.size (.slice (some ⟨w.heap.size, 0, none⟩) 0 0) []) := ⟨OwnE.none sp2 2 61 w⟩
  clear h
  go_enter Try.func27, Try.ntmps27
  go_wp2_with fail
  go_loopg [3, 4, 5, 6, 7] n (fun gg s3 s4 _ _ _ wr => ∃ i : Nat, ∃ M : List Sp, i ≤ n ∧ n - i ≤ gg ∧ s4 = .int .i64 (i : Int) ∧ Hid (OwnE sp2 2 61 wr w.heap.size s3 M) ∧ Hid (M.Pairwise Lt2) ∧ Hid (∀ y, y ∈ M ↔ y ∈ (L.take i).map spo) ∧ Hid (M.length ≤ i) ∧ Hid (Below w.heap.size w wr) ∧ Hid (s3.ownBlock ≠ none))
  case atStart => exact ⟨0, [], Nat.zero_le _, by omega, rfl, HO0, ⟨List.Pairwise.nil⟩, ⟨by simp⟩, ⟨Nat.le_refl _⟩, ⟨(Below.refl _ w).alloc (Nat.le_refl _) _⟩, ⟨by simp [Value.ownBlock]⟩⟩
  case round =>
    clear HO0
    obtain ⟨i, M, hi, hgg, rfl, HO, HSr, HMm, HMl, HB, Hsome⟩ := hrel
    rename World => wo
    obtain ⟨a3, c3, e3, hc3, hc3m, _⟩ := (HO.out.rd (0, 0)).shape
    subst e3
    obtain ⟨m, Hm⟩ : ∃ x, Hid (M.length = x) := ⟨_, ⟨rfl⟩⟩
    rw [Hm.out] at HO HMl hc3 Hsome ⊢
    by_cases hlt : i < n
    · have hltz : (i : Int) < (n : Int) := by omega
      have hiL : i < L.length := by rw [Hn.out]; exact hlt
      have hRd : RdR wo (.slice av n cv) L := H.out.below HB.out
      obtain ⟨b, off, cap, e, hc⟩ := hRd.ref hiL
      have hsm := hRd.sum hiL
      rw [Hn.out] at e
      simp at e
      obtain ⟨rfl, rfl⟩ := e
      have HTk : Hid (∀ y, y ∈ (L.take (i + 1)).map spo ↔ y ∈ (L.take i).map spo ∨ y = spo (L.getD i r0)) := ⟨fun y => by
        rw [List.take_add_one, List.getElem?_eq_getElem hiL, List.map_append, List.mem_append]
        simp [List.getD, List.getElem?_eq_getElem hiL]⟩
      have hn3 := rc_num (L.getD i r0) hsm
      have hc33 := hc 33 _ hn3.2.1
      have hc34 := hc 34 _ hn3.2.2
      have Hsp : Hid (spo (L.getD i r0) = ((L.getD i r0).b, (L.getD i r0).o)) := ⟨rfl⟩
      rw [Hsp.out] at HTk
      generalize (L.getD i r0).b = sb at hc33 HTk
      generalize (L.getD i r0).o = so at hc34 HTk
      clear hc hsm hRd hn3 Hsp
      obtain ⟨g, eg⟩ : ∃ g, a3 = some ⟨g, 0, none⟩ := by
        have h0 := HO.out.own
        rw [Hm.out] at h0
        rcases h0.2 with ⟨hz, _⟩ | ⟨g', cap', cur, e', _⟩
        · cases hz
          exact absurd rfl Hsome.out
        · simp at e'
          exact ⟨g', e'.1⟩
      subst eg
      clear Hsome
      have hS0 := And.intro hc33 hc34
      clear hc33 hc34
      go_upto_region 5 with fail
      have HK : Hid (∀ w', Below wo.heap.size wo w' → w'.cell? ⟨b, off + i * 35 + 33, none⟩ = some (.int .i64 sb) ∧ w'.cell? ⟨b, off + i * 35 + 34, none⟩ = some (.int .i64 so)) := ⟨fun w' h => ⟨(h.cell (p := ⟨b, off + i * 35 + 33, none⟩) (World.block_lt_of_cell? _ _ hS0.1)).trans hS0.1, (h.cell (p := ⟨b, off + i * 35 + 34, none⟩) (World.block_lt_of_cell? _ _ hS0.2)).trans hS0.2⟩⟩
      refine wp_region_held_drew (S := fun w' => Below wo.heap.size wo w') (by kernel_rfl) (below_drewN (Below.refl _ wo) 1) (fun hS => ?_)
      refine wpAnyH_take (i := 0) (v := .slice (some ⟨b, off, none⟩) n cv) rfl (by kernel_rfl) (by kernel_rfl) (by kernel_rfl) (fun _ _ _ h => h) (Or.inl ⟨by kernel_rfl, fun _ _ => by kernel_rfl⟩) hS ?_
      refine wpAnyH_take (i := 1) (v := .int .i64 (i : Int)) rfl (by kernel_rfl) (by kernel_rfl) (by kernel_rfl) (fun _ _ _ h => h) (Or.inl ⟨by kernel_rfl, fun _ _ => by kernel_rfl⟩) hS ?_
      refine wpAnyH_take (i := 2) (v := .pointer (some ⟨b, off + i * 35, none⟩)) rfl (by kernel_rfl) (by kernel_rfl) (by kernel_rfl) (fun _ _ _ h => h) (Or.inl ⟨by kernel_rfl, fun wx hx => by go_simp⟩) hS ?_
      refine wpAnyH_take (i := 3) (v := .pointer (some ⟨b, off + i * 35 + 33, none⟩)) rfl (by kernel_rfl) (by kernel_rfl) (by kernel_rfl) (fun _ _ _ h => h) (Or.inl ⟨by kernel_rfl, fun wx hx => by go_simp⟩) hS ?_
      refine wpAnyH_take (i := 4) (v := .int .i64 sb) rfl (by kernel_rfl) (by kernel_rfl) (by kernel_rfl) (fun _ _ _ h => h) (Or.inl ⟨by kernel_rfl, fun wx hx => by have hx0 := HK.out wx hx; obtain ⟨hx1, hx2⟩ := hx0; go_simp⟩) hS ?_
      refine wpAnyH_take (i := 5) (v := .slice (some ⟨b, off, none⟩) n cv) rfl (by kernel_rfl) (by kernel_rfl) (by kernel_rfl) (fun _ _ _ h => h) (Or.inl ⟨by kernel_rfl, fun _ _ => by kernel_rfl⟩) hS ?_
      refine wpAnyH_take (i := 6) (v := .int .i64 (i : Int)) rfl (by kernel_rfl) (by kernel_rfl) (by kernel_rfl) (fun _ _ _ h => h) (Or.inl ⟨by kernel_rfl, fun _ _ => by kernel_rfl⟩) hS ?_
      refine wpAnyH_take (i := 7) (v := .pointer (some ⟨b, off + i * 35, none⟩)) rfl (by kernel_rfl) (by kernel_rfl) (by kernel_rfl) (fun _ _ _ h => h) (Or.inl ⟨by kernel_rfl, fun wx hx => by go_simp⟩) hS ?_
      refine wpAnyH_take (i := 8) (v := .pointer (some ⟨b, off + i * 35 + 34, none⟩)) rfl (by kernel_rfl) (by kernel_rfl) (by kernel_rfl) (fun _ _ _ h => h) (Or.inl ⟨by kernel_rfl, fun wx hx => by go_simp⟩) hS ?_
      refine wpAnyH_take (i := 9) (v := .int .i64 so) rfl (by kernel_rfl) (by kernel_rfl) (by kernel_rfl) (fun _ _ _ h => h) (Or.inl ⟨by kernel_rfl, fun wx hx => by have hx0 := HK.out wx hx; obtain ⟨hx1, hx2⟩ := hx0; go_simp⟩) hS ?_
      refine wpAnyH_take (i := 10) (v := .agg #[.int .i64 sb, .int .i64 so]) rfl (by kernel_rfl) (by kernel_rfl) (by kernel_rfl) (fun _ _ _ h => h) (Or.inl ⟨by kernel_rfl, fun wx hx => by go_simp⟩) hS ?_
      refine wpAnyH_ready (rs := [11]) (by kernel_rfl) (by simp) (AllReadyH.cons rfl (fun Kc hK => ?_) AllReadyH.nil)
      go_simp
      refine hK.out _ _ (hS.alloc hS.size _) (fun hS => ?_)
      clear hK
      refine wpAnyH_ready (rs := [12]) (by kernel_rfl) (by simp) (AllReadyH.cons rfl (fun Kc hK => ?_) AllReadyH.nil)
      go_simp
      obtain ⟨q, Hq⟩ : ∃ x, Hid (wo.heap.size = x) := ⟨_, ⟨rfl⟩⟩
      obtain ⟨w2, Hw2⟩ : ∃ x, Hid ((wo.alloc (.cells #[.int .i64 sb, .int .i64 so] 61)).drew = x) := ⟨_, ⟨rfl⟩⟩
      have HB2 : Hid (Below wo.heap.size wo w2) := ⟨by rw [← Hw2.out]; exact below_drewN ((Below.refl _ wo).alloc (Nat.le_refl _) _) 1⟩
      have HA2 : Hid (w2.heap[q]? = some (.cells #[.int .i64 sb, .int .i64 so] 61 (0, 0))) := ⟨by rw [← Hw2.out, ← Hq.out]; exact heap_alloc_new wo _⟩
      have HO2 : Hid (OwnE sp2 2 61 w2 w.heap.size (.slice (some ⟨g, 0, none⟩) m c3) M) := ⟨HO.out.far (Chg.ofBelow (X := []) HB2.out) (by simp)⟩
      have HB02 : Hid (Below w.heap.size w w2) := ⟨HB.out.trans (HB2.out.mono HB.out.size)⟩
      have Hgq : Hid (g < q) := ⟨by rw [← Hq.out]; exact (HO.out.lt g (by simp [ob, Value.ownBlock])).2⟩
      have Hwq : Hid (w.heap.size ≤ q) := ⟨by rw [← Hq.out]; exact HB.out.size⟩
      rw [Hw2.out, Hq.out]
      refine hK.out _ _ HB2.out (fun hS => ?_)
      clear hK hS HK hS0 HO HB
      refine wpAnyH_done (by kernel_rfl) ?_ _
      go_simp
      go_wp2_with fail
      go_loopg [6] m (fun gg2 s6 wr => ∃ k : Nat, k ≤ m ∧ m - k ≤ gg2 ∧ s6 = .int .i64 (k : Int) ∧ Hid (∀ y ∈ M.take k, Lt2 y (sb, so)) ∧ Hid (OwnE sp2 2 61 wr w.heap.size (.slice (some ⟨g, 0, none⟩) m c3) M) ∧ Hid (wr.heap[q]? = some (.cells #[.int .i64 sb, .int .i64 so] 61 (0, 0))) ∧ Hid (Below w.heap.size w wr))
      case atStart => exact ⟨0, Nat.zero_le _, by omega, rfl, ⟨by simp⟩, HO2, HA2, HB02⟩
      case round =>
        clear HO2 HA2 HB02 HB2
        obtain ⟨k, hk, hgg2, rfl, Hbef, HOr, HAr, HBr⟩ := hrel
        rename World => wk
        have hmb : m ≤ 2513169434843 := by have := HMl.out; omega
        have hmc : m ≤ c3 := hc3
        have hcx : c3 ≤ 9223372036854775807 := hc3m
        by_cases hkm : k < m
        · have hkmz : (k : Int) < (m : Int) := by omega
          have hkL : k < M.length := by rw [Hm.out]; exact hkm
          obtain ⟨hu0, hu1⟩ := own_cells2 HOr.out hkL
          have HdL := Hid.mk (drop_lt (s := (sb, so)) HSr.out hkL)
          have HtS := Hid.mk (take_lt_snoc (s := (sb, so)) hkL Hbef.out)
          have HuM : Hid (M.getD k (0, 0) ∈ M) := ⟨getD_mem' hkL⟩
          rw [show M.getD k q0 = M.getD k (0, 0) from rfl] at hu0 hu1
          generalize M.getD k (0, 0) = uu at hu0 hu1 HdL HtS HuM
          obtain ⟨ub, uo⟩ := uu
          have HK : Hid (∀ w', Below wk.heap.size wk w' → w'.cell? ⟨g, k * 2, none⟩ = some (.int .i64 ub) ∧ w'.cell? ⟨g, k * 2 + 1, none⟩ = some (.int .i64 uo) ∧ w'.cell? ⟨q, 0, none⟩ = some (.int .i64 sb) ∧ w'.cell? ⟨q, 1, none⟩ = some (.int .i64 so)) := ⟨fun w' h => by
            have hq := (h.block q (Array.getElem?_eq_some_iff.1 HAr.out).1).trans HAr.out
            refine ⟨(h.cell (p := ⟨g, k * 2, none⟩) (World.block_lt_of_cell? _ _ hu0)).trans hu0, (h.cell (p := ⟨g, k * 2 + 1, none⟩) (World.block_lt_of_cell? _ _ hu1)).trans hu1, ?_, ?_⟩
            · rw [cell_of_row _ _ _ _ _ _ hq]; rfl
            · rw [cell_of_row _ _ _ _ _ _ hq]; rfl⟩
          clear hu0 hu1
          by_cases hls : Lt2 (ub, uo) (sb, so)
          · have Hls : Hid (decide (Lt2 (ub, uo) (sb, so)) = true) := ⟨by simp [hls]⟩
            have Hnx := Hid.mk (HtS.out hls)
            clear hls
            go_upto_region 7 with fail
            refine wp_region_held_drew (S := fun w' => Below wk.heap.size wk w') (by kernel_rfl) (below_drewN (Below.refl _ wk) 1) (fun hS => ?_)
            refine wpAnyH_take (i := 0) (v := .int .i64 (k : Int)) rfl (by kernel_rfl) (by kernel_rfl) (by kernel_rfl) (fun _ _ _ h => h) (Or.inl ⟨by kernel_rfl, fun _ _ => by kernel_rfl⟩) hS ?_
            refine wpAnyH_take (i := 1) (v := .slice (some ⟨g, 0, none⟩) m c3) rfl (by kernel_rfl) (by kernel_rfl) (by kernel_rfl) (fun _ _ _ h => h) (Or.inl ⟨by kernel_rfl, fun _ _ => by kernel_rfl⟩) hS ?_
            refine wpAnyH_take (i := 2) (v := .int .i64 (m : Int)) rfl (by kernel_rfl) (by kernel_rfl) (by kernel_rfl) (fun _ _ _ h => h) (Or.inl ⟨by kernel_rfl, fun wx hx => by go_simp⟩) hS ?_
            refine wpAnyH_take (i := 3) (v := .bool true) rfl (by kernel_rfl) (by kernel_rfl) (by kernel_rfl) (fun _ _ _ h => h) (Or.inl ⟨by kernel_rfl, fun wx hx => by go_simp⟩) hS ?_
            refine wpAnyH_take (i := 4) (v := .bool true) rfl (by kernel_rfl) (by kernel_rfl) (by kernel_rfl) (fun _ _ _ h => h) (Or.inl ⟨by kernel_rfl, fun wx hx => by go_simp⟩) hS ?_
            refine wpAnyH_take (i := 5) (v := .slice (some ⟨g, 0, none⟩) m c3) rfl (by kernel_rfl) (by kernel_rfl) (by kernel_rfl) (fun _ _ _ h => h) (Or.inl ⟨by kernel_rfl, fun wx hx => by go_simp⟩) hS ?_
            refine wpAnyH_take (i := 6) (v := .int .i64 (k : Int)) rfl (by kernel_rfl) (by kernel_rfl) (by kernel_rfl) (fun _ _ _ h => h) (Or.inl ⟨by kernel_rfl, fun wx hx => by go_simp⟩) hS ?_
            refine wpAnyH_take (i := 7) (v := .pointer (some ⟨g, k * 2, none⟩)) rfl (by kernel_rfl) (by kernel_rfl) (by kernel_rfl) (fun _ _ _ h => h) (Or.inl ⟨by kernel_rfl, fun wx hx => by go_simp⟩) hS ?_
            refine wpAnyH_take (i := 8) (v := .agg #[.int .i64 ub, .int .i64 uo]) rfl (by kernel_rfl) (by kernel_rfl) (by kernel_rfl) (fun _ _ _ h => h) (Or.inl ⟨by kernel_rfl, fun wx hx => by have hx0 := HK.out wx hx; obtain ⟨hx1, hx2, hx3, hx4⟩ := hx0; go_simp⟩) hS ?_
            refine wpAnyH_take (i := 9) (v := .agg #[.int .i64 sb, .int .i64 so]) rfl (by kernel_rfl) (by kernel_rfl) (by kernel_rfl) (fun _ _ _ h => h) (Or.inl ⟨by kernel_rfl, fun wx hx => by have hx0 := HK.out wx hx; obtain ⟨hx1, hx2, hx3, hx4⟩ := hx0; go_simp⟩) hS ?_
            refine wpAnyH_ready (rs := [10]) (by kernel_rfl) (by simp) (AllReadyH.cons rfl (fun Kc hK => ?_) AllReadyH.nil)
            go_simp
            refine (rless_any ub uo sb so).mono ?_
            rintro e w5 ⟨rfl, hb5⟩
            rw [Hls.out]
            refine hK.out _ _ (hS.trans (hb5.mono hS.size)) (fun hS => ?_)
            clear hK
            refine wpAnyH_take (i := 11) (v := .bool true) rfl (by kernel_rfl) (by kernel_rfl) (by kernel_rfl) (fun _ _ _ h => h) (Or.inl ⟨by kernel_rfl, fun wx hx => by go_simp⟩) hS ?_
            refine wpAnyH_done (by kernel_rfl) ?_ _
            have HBr5 := Hid.mk hS
            clear hS
            go_simp
            have HO5 : Hid (OwnE sp2 2 61 w5 w.heap.size (.slice (some ⟨g, 0, none⟩) m c3) M) := ⟨HOr.out.far (Chg.ofBelow (X := []) HBr5.out) (by simp)⟩
            have HA5 : Hid (w5.heap[q]? = some (.cells #[.int .i64 sb, .int .i64 so] 61 (0, 0))) := ⟨(HBr5.out.block q (Array.getElem?_eq_some_iff.1 HAr.out).1).trans HAr.out⟩
            have HB5 : Hid (Below w.heap.size w w5) := ⟨HBr.out.trans (HBr5.out.mono HBr.out.size)⟩
            go_wp2_with fail
            go_roundg (m - (k + 1))
            case measure => omega
            case rel => exact ⟨k + 1, by omega, by omega, by go_num, Hnx, HO5, HA5, HB5⟩
          · have Hls : Hid (decide (Lt2 (ub, uo) (sb, so)) = false) := ⟨by simp [hls]⟩
            have Htot := Hid.mk (lt2_tot (ub, uo) (sb, so) hls)
            clear hls
            go_upto_region 7 with fail
            refine wp_region_held_drew (S := fun w' => Below wk.heap.size wk w') (by kernel_rfl) (below_drewN (Below.refl _ wk) 1) (fun hS => ?_)
            refine wpAnyH_take (i := 0) (v := .int .i64 (k : Int)) rfl (by kernel_rfl) (by kernel_rfl) (by kernel_rfl) (fun _ _ _ h => h) (Or.inl ⟨by kernel_rfl, fun _ _ => by kernel_rfl⟩) hS ?_
            refine wpAnyH_take (i := 1) (v := .slice (some ⟨g, 0, none⟩) m c3) rfl (by kernel_rfl) (by kernel_rfl) (by kernel_rfl) (fun _ _ _ h => h) (Or.inl ⟨by kernel_rfl, fun _ _ => by kernel_rfl⟩) hS ?_
            refine wpAnyH_take (i := 2) (v := .int .i64 (m : Int)) rfl (by kernel_rfl) (by kernel_rfl) (by kernel_rfl) (fun _ _ _ h => h) (Or.inl ⟨by kernel_rfl, fun wx hx => by go_simp⟩) hS ?_
            refine wpAnyH_take (i := 3) (v := .bool true) rfl (by kernel_rfl) (by kernel_rfl) (by kernel_rfl) (fun _ _ _ h => h) (Or.inl ⟨by kernel_rfl, fun wx hx => by go_simp⟩) hS ?_
            refine wpAnyH_take (i := 4) (v := .bool true) rfl (by kernel_rfl) (by kernel_rfl) (by kernel_rfl) (fun _ _ _ h => h) (Or.inl ⟨by kernel_rfl, fun wx hx => by go_simp⟩) hS ?_
            refine wpAnyH_take (i := 5) (v := .slice (some ⟨g, 0, none⟩) m c3) rfl (by kernel_rfl) (by kernel_rfl) (by kernel_rfl) (fun _ _ _ h => h) (Or.inl ⟨by kernel_rfl, fun wx hx => by go_simp⟩) hS ?_
            refine wpAnyH_take (i := 6) (v := .int .i64 (k : Int)) rfl (by kernel_rfl) (by kernel_rfl) (by kernel_rfl) (fun _ _ _ h => h) (Or.inl ⟨by kernel_rfl, fun wx hx => by go_simp⟩) hS ?_
            refine wpAnyH_take (i := 7) (v := .pointer (some ⟨g, k * 2, none⟩)) rfl (by kernel_rfl) (by kernel_rfl) (by kernel_rfl) (fun _ _ _ h => h) (Or.inl ⟨by kernel_rfl, fun wx hx => by go_simp⟩) hS ?_
            refine wpAnyH_take (i := 8) (v := .agg #[.int .i64 ub, .int .i64 uo]) rfl (by kernel_rfl) (by kernel_rfl) (by kernel_rfl) (fun _ _ _ h => h) (Or.inl ⟨by kernel_rfl, fun wx hx => by have hx0 := HK.out wx hx; obtain ⟨hx1, hx2, hx3, hx4⟩ := hx0; go_simp⟩) hS ?_
            refine wpAnyH_take (i := 9) (v := .agg #[.int .i64 sb, .int .i64 so]) rfl (by kernel_rfl) (by kernel_rfl) (by kernel_rfl) (fun _ _ _ h => h) (Or.inl ⟨by kernel_rfl, fun wx hx => by have hx0 := HK.out wx hx; obtain ⟨hx1, hx2, hx3, hx4⟩ := hx0; go_simp⟩) hS ?_
            refine wpAnyH_ready (rs := [10]) (by kernel_rfl) (by simp) (AllReadyH.cons rfl (fun Kc hK => ?_) AllReadyH.nil)
            go_simp
            refine (rless_any ub uo sb so).mono ?_
            rintro e w5 ⟨rfl, hb5⟩
            rw [Hls.out]
            refine hK.out _ _ (hS.trans (hb5.mono hS.size)) (fun hS => ?_)
            clear hK
            refine wpAnyH_take (i := 11) (v := .bool false) rfl (by kernel_rfl) (by kernel_rfl) (by kernel_rfl) (fun _ _ _ h => h) (Or.inl ⟨by kernel_rfl, fun wx hx => by go_simp⟩) hS ?_
            refine wpAnyH_done (by kernel_rfl) ?_ _
            have HBr5 := Hid.mk hS
            clear hS
            go_simp
            have HOi : Hid (OwnE sp2 2 61 w5 w.heap.size (.slice (some ⟨g, 0, none⟩) m c3) M) := ⟨HOr.out.far (Chg.ofBelow (X := []) HBr5.out) (by simp)⟩
            have HAi : Hid (w5.heap[q]? = some (.cells #[.int .i64 sb, .int .i64 so] 61 (0, 0))) := ⟨(HBr5.out.block q (Array.getElem?_eq_some_iff.1 HAr.out).1).trans HAr.out⟩
            have HBi : Hid (Below w.heap.size w w5) := ⟨HBr.out.trans (HBr5.out.mono HBr.out.size)⟩
            have hcs := HK.out w5 HBr5.out
            obtain ⟨e0, e1, e2, e3⟩ := hcs
            clear HOr HAr HBr HBr5 HK
            have hg := guard61
            by_cases heq : (ub, uo) = (sb, so)
            · have hq : ∀ w : World, (binOp .eql 61 (.agg #[.int .i64 ub, .int .i64 uo]) (.agg #[.int .i64 sb, .int .i64 so])).run Try.prog w = .ok (.bool true) w := fun w => by rw [eq61]; simp [heq]
              have Hin : Hid ((sb, so) ∈ M) := ⟨heq ▸ HuM.out⟩
              clear heq
              go_upto_region 9 with fail
              go_quiet (fail)
              go_wp2_with fail
              go_roundg (n - (i + 1))
              case measure => omega
              case rel => exact ⟨i + 1, M, by omega, by omega, by go_num, ⟨HOi.out.far (Chg.ofBelow (X := []) (below_drewN (Below.refl _ w5) nq)) (by simp)⟩, HSr, ⟨fun y => by rw [HTk.out, ← HMm.out]; exact ⟨fun h => .inl h, fun h => h.elim id (fun e => e ▸ Hin.out)⟩⟩, ⟨by rw [Hm.out]; have := HMl.out; omega⟩, ⟨below_drewN HBi.out nq⟩, ⟨by simp [Value.ownBlock]⟩⟩
            · have hq : ∀ w : World, (binOp .eql 61 (.agg #[.int .i64 ub, .int .i64 uo]) (.agg #[.int .i64 sb, .int .i64 so])).run Try.prog w = .ok (.bool false) w := fun w => by rw [eq61]; simp only [decide_eq_false heq]
              have Haft := Hid.mk (HdL.out (Htot.out heq))
              clear heq
              go_upto_region 9 with fail
              go_quiet (fail)
              have HOj : Hid (OwnE sp2 2 61 (w5.drewN nq) w.heap.size (.slice (some ⟨g, 0, none⟩) m c3) M) := ⟨HOi.out.far (Chg.ofBelow (X := []) (below_drewN (Below.refl _ w5) nq)) (by simp)⟩
              have HAj : Hid ((w5.drewN nq).heap[q]? = some (.cells #[.int .i64 sb, .int .i64 so] 61 (0, 0))) := ⟨HAi.out⟩
              have HBj : Hid (Below w.heap.size w (w5.drewN nq)) := ⟨below_drewN HBi.out nq⟩
              clear HOi HAi HBi e0 e1 e2 e3 hq hg
              obtain ⟨wi, Hwi⟩ : ∃ x, Hid (w5.drewN nq = x) := ⟨_, ⟨rfl⟩⟩
              rw [Hwi.out] at HOj HAj HBj ⊢
              have HOi := HOj
              have HAi := HAj
              have HBi := HBj
              clear HOj HAj HBj Hwi HdL HtS HuM Htot Hls
              have Hqz : Hid (q < wi.heap.size) := ⟨(Array.getElem?_eq_some_iff.1 HAi.out).1⟩
              have HRT : Hid (RdE sp2 2 (0, 0) wi (.slice (some ⟨g, 0, none⟩) k c3) (M.take k)) := ⟨(HOi.out.rd (0, 0)).take' Hm.out (by omega)⟩
              obtain ⟨V1, HV1⟩ : ∃ x, Hid (wi.alloc (.cells #[] 61) = x) := ⟨_, ⟨rfl⟩⟩
              have HBV1 : Hid (Below wi.heap.size wi V1) := ⟨by rw [← HV1.out]; exact (Below.refl _ wi).alloc (Nat.le_refl _) _⟩
              have HN1 : Hid (OwnE sp2 2 61 V1 w.heap.size (.slice (some ⟨wi.heap.size, 0, none⟩) 0 0) []) := ⟨by rw [← HV1.out]; exact (OwnE.none sp2 2 61 wi).base HBi.out.size⟩
              have HRT1 : Hid (RdE sp2 2 (0, 0) V1 (.slice (some ⟨g, 0, none⟩) k c3) (M.take k)) := ⟨HRT.out.far (Chg.ofBelow (X := []) HBV1.out) (by simp)⟩
              obtain ⟨z1, Hz1⟩ : ∃ x, Hid (wi.heap.size = x) := ⟨_, ⟨rfl⟩⟩
              have Hgz : Hid (g < z1) := ⟨by rw [← Hz1.out]; exact (HOi.out.lt g (by simp [ob, Value.ownBlock])).2⟩
              have Hwz : Hid (w.heap.size ≤ z1) := ⟨by rw [← Hz1.out]; exact HBi.out.size⟩
              have HV1s : Hid (V1.heap.size = z1 + 1) := ⟨by rw [← HV1.out, ← Hz1.out]; simp⟩
              rw [Hz1.out] at HN1
              have hl1 : (([] : List Sp).length + (M.take k).length) * 16 ≤ 140737488355328 := by rw [List.length_take, Hm.out]; simp; omega
              have hl2 : ([] : List Sp).length + (M.take k).length ≤ maxLen := by rw [List.length_take, Hm.out]; unfold maxLen; simp; omega
              have hl3 : w.heap.size ≤ V1.heap.size := by have := HV1s.out; have := Hwz.out; omega
              have Hlt : Hid ((M.take k).length = k) := ⟨by rw [List.length_take, Hm.out]; omega⟩
              have hkm0 : (k : Int) ≤ (m : Int) := by omega
              have hkc0 : (k : Int) ≤ (c3 : Int) := by omega
              have hkm1 : k ≤ m := by omega
              have hkc1 : k ≤ c3 := by omega
              go_upto_region 11 with (first
                | (rw [HV1.out, Hz1.out])
                | (refine wp_appE (f := sp2) (d := (0, 0)) eltQ rfl (.tmp 52) (.tmp 55) rfl rfl HN1.out rfl HRT1.out hl1 hl2 hl3 ?_; intro v4 w4 hO4 hG4 hV4))
              obtain ⟨a4, c4, e4, _⟩ := (hO4.rd (0, 0)).shape
              rw [List.nil_append] at hO4 e4
              subst e4
              rw [Hlt.out] at hO4 hV4 ⊢
              have HG4' : Hid (Chg (ob (.slice (some ⟨z1, 0, none⟩) 0 0)) V1 w4) := ⟨hG4⟩
              have HG4 : Hid (Chg [z1] V1 w4) := ⟨by have := HG4'.out; simpa [ob, Value.ownBlock] using this⟩
              have hV4' : (Value.slice a4 k c4).ownBlock = (Value.slice (some ⟨z1, 0, none⟩) 0 0).ownBlock ∨ (Value.slice a4 k c4).ownBlock = some V1.heap.size := hV4
              have Hs4 : Hid (z1 + 1 ≤ w4.heap.size) := ⟨by rw [← HV1s.out]; exact HG4.out.size⟩
              have HO4 := Hid.mk hO4
              have Hv4 : Hid (∀ x ∈ ob (.slice a4 k c4), z1 ≤ x) := ⟨fun x hx => by
                rw [mem_ob] at hx
                rcases hV4' with e | e
                · rw [e] at hx; simp [Value.ownBlock] at hx; omega
                · rw [e, HV1s.out] at hx; simp at hx; omega⟩
              have HA4 : Hid (w4.heap[q]? = some (.cells #[.int .i64 sb, .int .i64 so] 61 (0, 0))) := ⟨(HG4.out.block q (by have := Hqz.out; have := HV1s.out; have := Hz1.out; omega) (by have := Hqz.out; have := Hz1.out; simp; omega)).trans ((HBV1.out.block q (by have := Hqz.out; have := Hz1.out; omega)).trans HAi.out)⟩
              have d0 : w4.cell? ⟨q, 0, none⟩ = some (.int .i64 sb) := by rw [cell_of_row _ _ _ _ _ _ HA4.out]; rfl
              have d1 : w4.cell? ⟨q, 1, none⟩ = some (.int .i64 so) := by rw [cell_of_row _ _ _ _ _ _ HA4.out]; rfl
              have HB4 : Hid (Below w.heap.size w w4) := ⟨(HBi.out.trans (HBV1.out.mono HBi.out.size)).trans (HG4.out.below (by have := HV1s.out; have := Hwz.out; omega) (by have := Hwz.out; simpa using this))⟩
              have HCD4 : Hid (Chg [] wi w4) := ⟨(Chg.ofBelow (X := []) HBV1.out).thenNew HG4.out (by have := Hz1.out; simp; omega)⟩
              clear hO4 hG4 hV4 hV4' HG4' HRT HRT1 HN1
              obtain ⟨V5, HV5⟩ : ∃ x, Hid (w4.alloc (.cells #[.int .i64 sb, .int .i64 so] 61) = x) := ⟨_, ⟨rfl⟩⟩
              have HBV5 : Hid (Below w4.heap.size w4 V5) := ⟨by rw [← HV5.out]; exact (Below.refl _ w4).alloc (Nat.le_refl _) _⟩
              have HR5 : Hid (RdE sp2 2 (0, 0) V5 (.slice (some ⟨w4.heap.size, 0, none⟩) 1 1) [(sb, so)]) := ⟨by rw [← HV5.out]; exact rde_one w4 ((sb, so) : Sp) rfl (sp2_one (sb, so)).2 61⟩
              have HO5 : Hid (OwnE sp2 2 61 V5 w.heap.size (.slice a4 k c4) (M.take k)) := ⟨HO4.out.far (Chg.ofBelow (X := []) HBV5.out) (by simp)⟩
              have HB5 : Hid (Below w.heap.size w V5) := ⟨HB4.out.trans (HBV5.out.mono HB4.out.size)⟩
              have hm1 : ((M.take k).length + [((sb, so) : Sp)].length) * 16 ≤ 140737488355328 := by rw [Hlt.out]; simp; omega
              have hm2 : (M.take k).length + [((sb, so) : Sp)].length ≤ maxLen := by rw [Hlt.out]; unfold maxLen; simp; omega
              have hm3 : w.heap.size ≤ V5.heap.size := HB5.out.size
              go_upto_region 12 with (first
                | (refine wp_sliceE eltQ rfl (.tmp 58) rfl #[.int .i64 sb, .int .i64 so] rfl rfl (by decide) ?_; rw [HV5.out])
                | (refine wp_appE (f := sp2) (d := (0, 0)) eltQ rfl (.tmp 57) (.tmp 59) rfl rfl HO5.out rfl HR5.out hm1 hm2 hm3 ?_; intro v6 w6 hO6 hG6 hV6))
              obtain ⟨a6, c6, e6, _⟩ := (hO6.rd (0, 0)).shape
              subst e6
              have HG6 : Hid (Chg (ob (.slice a4 k c4)) V5 w6) := ⟨hG6⟩
              obtain ⟨n6, Hn6⟩ : ∃ x, Hid ((M.take k ++ [((sb, so) : Sp)]).length = x) := ⟨_, ⟨rfl⟩⟩
              have Hn6k : Hid (n6 = k + 1) := ⟨by rw [← Hn6.out, List.length_append, Hlt.out]; rfl⟩
              rw [Hn6.out] at hO6 hV6 ⊢
              have HO6 := Hid.mk hO6
              have HB6 : Hid (Below w.heap.size w w6) := ⟨HB5.out.trans (HG6.out.below HB5.out.size (fun x hx => (HO5.out.lt x hx).1))⟩
              have HCD6 : Hid (Chg [] wi w6) := ⟨(HCD4.out.trans (Chg.ofBelow HBV5.out)).thenNew HG6.out (fun x hx => .inr (by rw [Hz1.out]; exact Hv4.out x hx))⟩
              have HRD : Hid (RdE sp2 2 (0, 0) w6 (.slice (some ⟨g, k * 2, none⟩) (m - k) (c3 - k)) (M.drop k)) := ⟨by
                have h0 := (HOi.out.far HCD6.out (by simp)).rd (0, 0)
                have h1 := h0.drop' Hm.out (j := k) (by omega)
                rw [Nat.zero_add] at h1
                exact h1⟩
              have hn1 : ((M.take k ++ [((sb, so) : Sp)]).length + (M.drop k).length) * 16 ≤ 140737488355328 := by rw [Hn6.out, Hn6k.out, List.length_drop, Hm.out]; omega
              have hn2 : (M.take k ++ [((sb, so) : Sp)]).length + (M.drop k).length ≤ maxLen := by rw [Hn6.out, Hn6k.out, List.length_drop, Hm.out]; unfold maxLen; omega
              have hn3 : w.heap.size ≤ w6.heap.size := HB6.out.size
              have HLen : Hid ((M.take k ++ [((sb, so) : Sp)] ++ M.drop k).length = m + 1) := ⟨by rw [List.length_append, Hn6.out, Hn6k.out, List.length_drop, Hm.out]; omega⟩
              clear hO6 hG6 hV6 d0 d1 HV5 HV1
              have hck : ¬ c3 = k := by omega
              have hck' : ¬ k = c3 := by omega
              go_wp2_with (refine wp_appE (f := sp2) (d := (0, 0)) eltQ rfl (.tmp 61) (.tmp 64) rfl rfl HO6.out rfl HRD.out hn1 hn2 hn3 ?_; intro v7 w7 hO7 hG7 hV7)
              have HO7 := Hid.mk hO7
              have HB7 : Hid (Below w.heap.size w w7) := ⟨HB6.out.trans (Chg.below hG7 HB6.out.size (fun x hx => (HO6.out.lt x hx).1))⟩
              clear hO7 hG7 hV7
              go_roundg (n - (i + 1))
              case measure => omega
              case rel => exact ⟨i + 1, _, by omega, by omega, by go_num, HO7, ⟨rise_in HSr.out (fun y hy => Hbef.out y hy) (fun y hy => Haft.out y hy)⟩, ⟨fun y => by rw [mem_in, HTk.out, HMm.out]; exact or_comm⟩, ⟨by rw [HLen.out]; have := HMl.out; omega⟩, HB7, ⟨own_some HO7.out (by rw [HLen.out]; omega)⟩⟩
        · have Hkm : Hid (k = m) := ⟨by omega⟩
          have hkmz : ¬ (k : Int) < (m : Int) := by omega
          have Haft : Hid (∀ y ∈ M.drop k, Lt2 (sb, so) y) := ⟨fun y hy => by rw [List.drop_eq_nil_of_le (by rw [Hm.out]; omega)] at hy; simp at hy⟩
          go_upto_region 7 with fail
          go_quiet (fail)
          have HOs : Hid (OwnE sp2 2 61 (wk.drewN nq) w.heap.size (.slice (some ⟨g, 0, none⟩) m c3) M) := ⟨HOr.out.far (Chg.ofBelow (X := []) (below_drewN (Below.refl _ wk) nq)) (by simp)⟩
          have HAs : Hid ((wk.drewN nq).heap[q]? = some (.cells #[.int .i64 sb, .int .i64 so] 61 (0, 0))) := ⟨HAr.out⟩
          have HBs : Hid (Below w.heap.size w (wk.drewN nq)) := ⟨below_drewN HBr.out nq⟩
          obtain ⟨ws, Hws⟩ : ∃ x, Hid (wk.drewN nq = x) := ⟨_, ⟨rfl⟩⟩
          rw [Hws.out] at HOs HAs HBs ⊢
          clear HOr HAr HBr Hws
          go_upto_region 9 with fail
          go_quiet (fail)
          have HOj : Hid (OwnE sp2 2 61 (ws.drewN nq) w.heap.size (.slice (some ⟨g, 0, none⟩) m c3) M) := ⟨HOs.out.far (Chg.ofBelow (X := []) (below_drewN (Below.refl _ ws) nq)) (by simp)⟩
          have HAj : Hid ((ws.drewN nq).heap[q]? = some (.cells #[.int .i64 sb, .int .i64 so] 61 (0, 0))) := ⟨HAs.out⟩
          have HBj : Hid (Below w.heap.size w (ws.drewN nq)) := ⟨below_drewN HBs.out nq⟩
          clear HOs HAs HBs
          obtain ⟨wi, Hwi⟩ : ∃ x, Hid (ws.drewN nq = x) := ⟨_, ⟨rfl⟩⟩
          rw [Hwi.out] at HOj HAj HBj ⊢
          have HOi := HOj
          have HAi := HAj
          have HBi := HBj
          clear HOj HAj HBj Hwi
          have Hqz : Hid (q < wi.heap.size) := ⟨(Array.getElem?_eq_some_iff.1 HAi.out).1⟩
          by_cases hck : c3 = k
          · have hck2 : k = c3 := hck.symm
            clear hck
            subst hck2
            have HRT : Hid (RdE sp2 2 (0, 0) wi (.slice (some ⟨g, 0, none⟩) k k) (M.take k)) := ⟨(HOi.out.rd (0, 0)).take' Hm.out (by omega)⟩
            obtain ⟨V1, HV1⟩ : ∃ x, Hid (wi.alloc (.cells #[] 61) = x) := ⟨_, ⟨rfl⟩⟩
            have HBV1 : Hid (Below wi.heap.size wi V1) := ⟨by rw [← HV1.out]; exact (Below.refl _ wi).alloc (Nat.le_refl _) _⟩
            have HN1 : Hid (OwnE sp2 2 61 V1 w.heap.size (.slice (some ⟨wi.heap.size, 0, none⟩) 0 0) []) := ⟨by rw [← HV1.out]; exact (OwnE.none sp2 2 61 wi).base HBi.out.size⟩
            have HRT1 : Hid (RdE sp2 2 (0, 0) V1 (.slice (some ⟨g, 0, none⟩) k k) (M.take k)) := ⟨HRT.out.far (Chg.ofBelow (X := []) HBV1.out) (by simp)⟩
            obtain ⟨z1, Hz1⟩ : ∃ x, Hid (wi.heap.size = x) := ⟨_, ⟨rfl⟩⟩
            have Hgz : Hid (g < z1) := ⟨by rw [← Hz1.out]; exact (HOi.out.lt g (by simp [ob, Value.ownBlock])).2⟩
            have Hwz : Hid (w.heap.size ≤ z1) := ⟨by rw [← Hz1.out]; exact HBi.out.size⟩
            have HV1s : Hid (V1.heap.size = z1 + 1) := ⟨by rw [← HV1.out, ← Hz1.out]; simp⟩
            rw [Hz1.out] at HN1
            have hl1 : (([] : List Sp).length + (M.take k).length) * 16 ≤ 140737488355328 := by rw [List.length_take, Hm.out]; simp; omega
            have hl2 : ([] : List Sp).length + (M.take k).length ≤ maxLen := by rw [List.length_take, Hm.out]; unfold maxLen; simp; omega
            have hl3 : w.heap.size ≤ V1.heap.size := by have := HV1s.out; have := Hwz.out; omega
            have Hlt : Hid ((M.take k).length = k) := ⟨by rw [List.length_take, Hm.out]; omega⟩
            have hkm0 : (k : Int) ≤ (m : Int) := by omega
            have hkc0 : (k : Int) ≤ (k : Int) := by omega
            have hkm1 : k ≤ m := by omega
            have hkc1 : k ≤ k := by omega
            go_upto_region 11 with (first
              | (rw [HV1.out, Hz1.out])
              | (refine wp_appE (f := sp2) (d := (0, 0)) eltQ rfl (.tmp 52) (.tmp 55) rfl rfl HN1.out rfl HRT1.out hl1 hl2 hl3 ?_; intro v4 w4 hO4 hG4 hV4))
            obtain ⟨a4, c4, e4, _⟩ := (hO4.rd (0, 0)).shape
            rw [List.nil_append] at hO4 e4
            subst e4
            rw [Hlt.out] at hO4 hV4 ⊢
            have HG4' : Hid (Chg (ob (.slice (some ⟨z1, 0, none⟩) 0 0)) V1 w4) := ⟨hG4⟩
            have HG4 : Hid (Chg [z1] V1 w4) := ⟨by have := HG4'.out; simpa [ob, Value.ownBlock] using this⟩
            have hV4' : (Value.slice a4 k c4).ownBlock = (Value.slice (some ⟨z1, 0, none⟩) 0 0).ownBlock ∨ (Value.slice a4 k c4).ownBlock = some V1.heap.size := hV4
            have Hs4 : Hid (z1 + 1 ≤ w4.heap.size) := ⟨by rw [← HV1s.out]; exact HG4.out.size⟩
            have HO4 := Hid.mk hO4
            have Hv4 : Hid (∀ x ∈ ob (.slice a4 k c4), z1 ≤ x) := ⟨fun x hx => by
              rw [mem_ob] at hx
              rcases hV4' with e | e
              · rw [e] at hx; simp [Value.ownBlock] at hx; omega
              · rw [e, HV1s.out] at hx; simp at hx; omega⟩
            have HA4 : Hid (w4.heap[q]? = some (.cells #[.int .i64 sb, .int .i64 so] 61 (0, 0))) := ⟨(HG4.out.block q (by have := Hqz.out; have := HV1s.out; have := Hz1.out; omega) (by have := Hqz.out; have := Hz1.out; simp; omega)).trans ((HBV1.out.block q (by have := Hqz.out; have := Hz1.out; omega)).trans HAi.out)⟩
            have d0 : w4.cell? ⟨q, 0, none⟩ = some (.int .i64 sb) := by rw [cell_of_row _ _ _ _ _ _ HA4.out]; rfl
            have d1 : w4.cell? ⟨q, 1, none⟩ = some (.int .i64 so) := by rw [cell_of_row _ _ _ _ _ _ HA4.out]; rfl
            have HB4 : Hid (Below w.heap.size w w4) := ⟨(HBi.out.trans (HBV1.out.mono HBi.out.size)).trans (HG4.out.below (by have := HV1s.out; have := Hwz.out; omega) (by have := Hwz.out; simpa using this))⟩
            have HCD4 : Hid (Chg [] wi w4) := ⟨(Chg.ofBelow (X := []) HBV1.out).thenNew HG4.out (by have := Hz1.out; simp; omega)⟩
            clear hO4 hG4 hV4 hV4' HG4' HRT HRT1 HN1
            obtain ⟨V5, HV5⟩ : ∃ x, Hid (w4.alloc (.cells #[.int .i64 sb, .int .i64 so] 61) = x) := ⟨_, ⟨rfl⟩⟩
            have HBV5 : Hid (Below w4.heap.size w4 V5) := ⟨by rw [← HV5.out]; exact (Below.refl _ w4).alloc (Nat.le_refl _) _⟩
            have HR5 : Hid (RdE sp2 2 (0, 0) V5 (.slice (some ⟨w4.heap.size, 0, none⟩) 1 1) [(sb, so)]) := ⟨by rw [← HV5.out]; exact rde_one w4 ((sb, so) : Sp) rfl (sp2_one (sb, so)).2 61⟩
            have HO5 : Hid (OwnE sp2 2 61 V5 w.heap.size (.slice a4 k c4) (M.take k)) := ⟨HO4.out.far (Chg.ofBelow (X := []) HBV5.out) (by simp)⟩
            have HB5 : Hid (Below w.heap.size w V5) := ⟨HB4.out.trans (HBV5.out.mono HB4.out.size)⟩
            have hm1 : ((M.take k).length + [((sb, so) : Sp)].length) * 16 ≤ 140737488355328 := by rw [Hlt.out]; simp; omega
            have hm2 : (M.take k).length + [((sb, so) : Sp)].length ≤ maxLen := by rw [Hlt.out]; unfold maxLen; simp; omega
            have hm3 : w.heap.size ≤ V5.heap.size := HB5.out.size
            go_upto_region 12 with (first
              | (refine wp_sliceE eltQ rfl (.tmp 58) rfl #[.int .i64 sb, .int .i64 so] rfl rfl (by decide) ?_; rw [HV5.out])
              | (refine wp_appE (f := sp2) (d := (0, 0)) eltQ rfl (.tmp 57) (.tmp 59) rfl rfl HO5.out rfl HR5.out hm1 hm2 hm3 ?_; intro v6 w6 hO6 hG6 hV6))
            obtain ⟨a6, c6, e6, _⟩ := (hO6.rd (0, 0)).shape
            subst e6
            have HG6 : Hid (Chg (ob (.slice a4 k c4)) V5 w6) := ⟨hG6⟩
            obtain ⟨n6, Hn6⟩ : ∃ x, Hid ((M.take k ++ [((sb, so) : Sp)]).length = x) := ⟨_, ⟨rfl⟩⟩
            have Hn6k : Hid (n6 = k + 1) := ⟨by rw [← Hn6.out, List.length_append, Hlt.out]; rfl⟩
            rw [Hn6.out] at hO6 hV6 ⊢
            have HO6 := Hid.mk hO6
            have HB6 : Hid (Below w.heap.size w w6) := ⟨HB5.out.trans (HG6.out.below HB5.out.size (fun x hx => (HO5.out.lt x hx).1))⟩
            have HCD6 : Hid (Chg [] wi w6) := ⟨(HCD4.out.trans (Chg.ofBelow HBV5.out)).thenNew HG6.out (fun x hx => .inr (by rw [Hz1.out]; exact Hv4.out x hx))⟩
            have HRD : Hid (RdE sp2 2 (0, 0) w6 (.slice (some ⟨g, 0, none⟩) 0 0) (M.drop k)) := ⟨by
              have e : M.drop k = [] := List.drop_eq_nil_of_le (by rw [Hm.out]; have := Hkm.out; omega)
              rw [e]
              exact RdE.none' (by unfold maxLen; omega) (by simp)⟩
            have hn1 : ((M.take k ++ [((sb, so) : Sp)]).length + (M.drop k).length) * 16 ≤ 140737488355328 := by rw [Hn6.out, Hn6k.out, List.length_drop, Hm.out]; omega
            have hn2 : (M.take k ++ [((sb, so) : Sp)]).length + (M.drop k).length ≤ maxLen := by rw [Hn6.out, Hn6k.out, List.length_drop, Hm.out]; unfold maxLen; omega
            have hn3 : w.heap.size ≤ w6.heap.size := HB6.out.size
            have HLen : Hid ((M.take k ++ [((sb, so) : Sp)] ++ M.drop k).length = m + 1) := ⟨by rw [List.length_append, Hn6.out, Hn6k.out, List.length_drop, Hm.out]; omega⟩
            clear hO6 hG6 hV6 d0 d1 HV5 HV1
            go_wp2_with (refine wp_appE (f := sp2) (d := (0, 0)) eltQ rfl (.tmp 61) (.tmp 64) rfl rfl HO6.out rfl HRD.out hn1 hn2 hn3 ?_; intro v7 w7 hO7 hG7 hV7)
            have HO7 := Hid.mk hO7
            have HB7 : Hid (Below w.heap.size w w7) := ⟨HB6.out.trans (Chg.below hG7 HB6.out.size (fun x hx => (HO6.out.lt x hx).1))⟩
            clear hO7 hG7 hV7
            go_roundg (n - (i + 1))
            case measure => omega
            case rel => exact ⟨i + 1, _, by omega, by omega, by go_num, HO7, ⟨rise_in HSr.out (fun y hy => Hbef.out y hy) (fun y hy => Haft.out y hy)⟩, ⟨fun y => by rw [mem_in, HTk.out, HMm.out]; exact or_comm⟩, ⟨by rw [HLen.out]; have := HMl.out; omega⟩, HB7, ⟨own_some HO7.out (by rw [HLen.out]; omega)⟩⟩
          · skip
            have HRT : Hid (RdE sp2 2 (0, 0) wi (.slice (some ⟨g, 0, none⟩) k c3) (M.take k)) := ⟨(HOi.out.rd (0, 0)).take' Hm.out (by omega)⟩
            obtain ⟨V1, HV1⟩ : ∃ x, Hid (wi.alloc (.cells #[] 61) = x) := ⟨_, ⟨rfl⟩⟩
            have HBV1 : Hid (Below wi.heap.size wi V1) := ⟨by rw [← HV1.out]; exact (Below.refl _ wi).alloc (Nat.le_refl _) _⟩
            have HN1 : Hid (OwnE sp2 2 61 V1 w.heap.size (.slice (some ⟨wi.heap.size, 0, none⟩) 0 0) []) := ⟨by rw [← HV1.out]; exact (OwnE.none sp2 2 61 wi).base HBi.out.size⟩
            have HRT1 : Hid (RdE sp2 2 (0, 0) V1 (.slice (some ⟨g, 0, none⟩) k c3) (M.take k)) := ⟨HRT.out.far (Chg.ofBelow (X := []) HBV1.out) (by simp)⟩
            obtain ⟨z1, Hz1⟩ : ∃ x, Hid (wi.heap.size = x) := ⟨_, ⟨rfl⟩⟩
            have Hgz : Hid (g < z1) := ⟨by rw [← Hz1.out]; exact (HOi.out.lt g (by simp [ob, Value.ownBlock])).2⟩
            have Hwz : Hid (w.heap.size ≤ z1) := ⟨by rw [← Hz1.out]; exact HBi.out.size⟩
            have HV1s : Hid (V1.heap.size = z1 + 1) := ⟨by rw [← HV1.out, ← Hz1.out]; simp⟩
            rw [Hz1.out] at HN1
            have hl1 : (([] : List Sp).length + (M.take k).length) * 16 ≤ 140737488355328 := by rw [List.length_take, Hm.out]; simp; omega
            have hl2 : ([] : List Sp).length + (M.take k).length ≤ maxLen := by rw [List.length_take, Hm.out]; unfold maxLen; simp; omega
            have hl3 : w.heap.size ≤ V1.heap.size := by have := HV1s.out; have := Hwz.out; omega
            have Hlt : Hid ((M.take k).length = k) := ⟨by rw [List.length_take, Hm.out]; omega⟩
            have hkm0 : (k : Int) ≤ (m : Int) := by omega
            have hkc0 : (k : Int) ≤ (c3 : Int) := by omega
            have hkm1 : k ≤ m := by omega
            have hkc1 : k ≤ c3 := by omega
            go_upto_region 11 with (first
              | (rw [HV1.out, Hz1.out])
              | (refine wp_appE (f := sp2) (d := (0, 0)) eltQ rfl (.tmp 52) (.tmp 55) rfl rfl HN1.out rfl HRT1.out hl1 hl2 hl3 ?_; intro v4 w4 hO4 hG4 hV4))
            obtain ⟨a4, c4, e4, _⟩ := (hO4.rd (0, 0)).shape
            rw [List.nil_append] at hO4 e4
            subst e4
            rw [Hlt.out] at hO4 hV4 ⊢
            have HG4' : Hid (Chg (ob (.slice (some ⟨z1, 0, none⟩) 0 0)) V1 w4) := ⟨hG4⟩
            have HG4 : Hid (Chg [z1] V1 w4) := ⟨by have := HG4'.out; simpa [ob, Value.ownBlock] using this⟩
            have hV4' : (Value.slice a4 k c4).ownBlock = (Value.slice (some ⟨z1, 0, none⟩) 0 0).ownBlock ∨ (Value.slice a4 k c4).ownBlock = some V1.heap.size := hV4
            have Hs4 : Hid (z1 + 1 ≤ w4.heap.size) := ⟨by rw [← HV1s.out]; exact HG4.out.size⟩
            have HO4 := Hid.mk hO4
            have Hv4 : Hid (∀ x ∈ ob (.slice a4 k c4), z1 ≤ x) := ⟨fun x hx => by
              rw [mem_ob] at hx
              rcases hV4' with e | e
              · rw [e] at hx; simp [Value.ownBlock] at hx; omega
              · rw [e, HV1s.out] at hx; simp at hx; omega⟩
            have HA4 : Hid (w4.heap[q]? = some (.cells #[.int .i64 sb, .int .i64 so] 61 (0, 0))) := ⟨(HG4.out.block q (by have := Hqz.out; have := HV1s.out; have := Hz1.out; omega) (by have := Hqz.out; have := Hz1.out; simp; omega)).trans ((HBV1.out.block q (by have := Hqz.out; have := Hz1.out; omega)).trans HAi.out)⟩
            have d0 : w4.cell? ⟨q, 0, none⟩ = some (.int .i64 sb) := by rw [cell_of_row _ _ _ _ _ _ HA4.out]; rfl
            have d1 : w4.cell? ⟨q, 1, none⟩ = some (.int .i64 so) := by rw [cell_of_row _ _ _ _ _ _ HA4.out]; rfl
            have HB4 : Hid (Below w.heap.size w w4) := ⟨(HBi.out.trans (HBV1.out.mono HBi.out.size)).trans (HG4.out.below (by have := HV1s.out; have := Hwz.out; omega) (by have := Hwz.out; simpa using this))⟩
            have HCD4 : Hid (Chg [] wi w4) := ⟨(Chg.ofBelow (X := []) HBV1.out).thenNew HG4.out (by have := Hz1.out; simp; omega)⟩
            clear hO4 hG4 hV4 hV4' HG4' HRT HRT1 HN1
            obtain ⟨V5, HV5⟩ : ∃ x, Hid (w4.alloc (.cells #[.int .i64 sb, .int .i64 so] 61) = x) := ⟨_, ⟨rfl⟩⟩
            have HBV5 : Hid (Below w4.heap.size w4 V5) := ⟨by rw [← HV5.out]; exact (Below.refl _ w4).alloc (Nat.le_refl _) _⟩
            have HR5 : Hid (RdE sp2 2 (0, 0) V5 (.slice (some ⟨w4.heap.size, 0, none⟩) 1 1) [(sb, so)]) := ⟨by rw [← HV5.out]; exact rde_one w4 ((sb, so) : Sp) rfl (sp2_one (sb, so)).2 61⟩
            have HO5 : Hid (OwnE sp2 2 61 V5 w.heap.size (.slice a4 k c4) (M.take k)) := ⟨HO4.out.far (Chg.ofBelow (X := []) HBV5.out) (by simp)⟩
            have HB5 : Hid (Below w.heap.size w V5) := ⟨HB4.out.trans (HBV5.out.mono HB4.out.size)⟩
            have hm1 : ((M.take k).length + [((sb, so) : Sp)].length) * 16 ≤ 140737488355328 := by rw [Hlt.out]; simp; omega
            have hm2 : (M.take k).length + [((sb, so) : Sp)].length ≤ maxLen := by rw [Hlt.out]; unfold maxLen; simp; omega
            have hm3 : w.heap.size ≤ V5.heap.size := HB5.out.size
            go_upto_region 12 with (first
              | (refine wp_sliceE eltQ rfl (.tmp 58) rfl #[.int .i64 sb, .int .i64 so] rfl rfl (by decide) ?_; rw [HV5.out])
              | (refine wp_appE (f := sp2) (d := (0, 0)) eltQ rfl (.tmp 57) (.tmp 59) rfl rfl HO5.out rfl HR5.out hm1 hm2 hm3 ?_; intro v6 w6 hO6 hG6 hV6))
            obtain ⟨a6, c6, e6, _⟩ := (hO6.rd (0, 0)).shape
            subst e6
            have HG6 : Hid (Chg (ob (.slice a4 k c4)) V5 w6) := ⟨hG6⟩
            obtain ⟨n6, Hn6⟩ : ∃ x, Hid ((M.take k ++ [((sb, so) : Sp)]).length = x) := ⟨_, ⟨rfl⟩⟩
            have Hn6k : Hid (n6 = k + 1) := ⟨by rw [← Hn6.out, List.length_append, Hlt.out]; rfl⟩
            rw [Hn6.out] at hO6 hV6 ⊢
            have HO6 := Hid.mk hO6
            have HB6 : Hid (Below w.heap.size w w6) := ⟨HB5.out.trans (HG6.out.below HB5.out.size (fun x hx => (HO5.out.lt x hx).1))⟩
            have HCD6 : Hid (Chg [] wi w6) := ⟨(HCD4.out.trans (Chg.ofBelow HBV5.out)).thenNew HG6.out (fun x hx => .inr (by rw [Hz1.out]; exact Hv4.out x hx))⟩
            have HRD : Hid (RdE sp2 2 (0, 0) w6 (.slice (some ⟨g, k * 2, none⟩) (m - k) (c3 - k)) (M.drop k)) := ⟨by
              have h0 := (HOi.out.far HCD6.out (by simp)).rd (0, 0)
              have h1 := h0.drop' Hm.out (j := k) (by omega)
              rw [Nat.zero_add] at h1
              exact h1⟩
            have hn1 : ((M.take k ++ [((sb, so) : Sp)]).length + (M.drop k).length) * 16 ≤ 140737488355328 := by rw [Hn6.out, Hn6k.out, List.length_drop, Hm.out]; omega
            have hn2 : (M.take k ++ [((sb, so) : Sp)]).length + (M.drop k).length ≤ maxLen := by rw [Hn6.out, Hn6k.out, List.length_drop, Hm.out]; unfold maxLen; omega
            have hn3 : w.heap.size ≤ w6.heap.size := HB6.out.size
            have HLen : Hid ((M.take k ++ [((sb, so) : Sp)] ++ M.drop k).length = m + 1) := ⟨by rw [List.length_append, Hn6.out, Hn6k.out, List.length_drop, Hm.out]; omega⟩
            clear hO6 hG6 hV6 d0 d1 HV5 HV1
            have hck' : ¬ k = c3 := fun e => hck e.symm
            go_wp2_with (refine wp_appE (f := sp2) (d := (0, 0)) eltQ rfl (.tmp 61) (.tmp 64) rfl rfl HO6.out rfl HRD.out hn1 hn2 hn3 ?_; intro v7 w7 hO7 hG7 hV7)
            have HO7 := Hid.mk hO7
            have HB7 : Hid (Below w.heap.size w w7) := ⟨HB6.out.trans (Chg.below hG7 HB6.out.size (fun x hx => (HO6.out.lt x hx).1))⟩
            clear hO7 hG7 hV7
            go_roundg (n - (i + 1))
            case measure => omega
            case rel => exact ⟨i + 1, _, by omega, by omega, by go_num, HO7, ⟨rise_in HSr.out (fun y hy => Hbef.out y hy) (fun y hy => Haft.out y hy)⟩, ⟨fun y => by rw [mem_in, HTk.out, HMm.out]; exact or_comm⟩, ⟨by rw [HLen.out]; have := HMl.out; omega⟩, HB7, ⟨own_some HO7.out (by rw [HLen.out]; omega)⟩⟩
    · obtain rfl : n = i := by omega
      rw [HTe.out] at HMm
      go_wp2_with fail
      go_ret
      exact ⟨_, rfl, M, HO.out, HSr.out, HMm.out, by rw [Hm.out]; exact HMl.out, HB.out⟩
end
end Go.Proofs.Ytkkcdmdkjedkjaa
