/- The walk of GearWhole. -/
import Derived.Test.YtngeefipeghjiaaL3
import Derived.Test.YtngeefipeghjiaaP1
namespace Go.Proofs.Ytngeefipeghjiaa
open Go.RowKit

/-- Bytes that are not too many. -/
def BsU (w : World) (v : Value) (bs : List Int) : Prop := Bs w v bs ∧ bs.length ≤ 1048576
set_option maxHeartbeats 4000000 in
set_option maxRecDepth 100000 in
theorem walk_gearWhole (v : Value) (b : Int × Int × Int) (seed : Int) (pv : Value) (ps : List Int) (w : World) (hv : CutV v b) (hw : (Lit.int .u64 seed).wf = true) (hp : BsU w pv ps) : Calls Try.prog 6 #[v, .int .u64 seed, pv] w fun e w' => e = .returned (.bool true) ∧ Below w.heap.size w w' := by
  obtain ⟨h0, h1⟩ := u64_rng hw
  clear hw
  obtain ⟨mn, av, mx⟩ := b
  unfold CutV at hv
  subst hv
  simp only
  obtain ⟨w1, HW1⟩ : ∃ w1, Hid (w.alloc (.cells #[.int .i64 mn, .int .i64 av, .int .i64 mx] 24) = w1) := ⟨_, ⟨rfl⟩⟩
  have Hb : Hid (Below w.heap.size w w1) := ⟨by rw [← HW1.out]; exact (Below.refl _ w).alloc (Nat.le_refl _) _⟩
  have Hx : Hid (w1.heap[w.heap.size]? = some (.cells #[.int .i64 mn, .int .i64 av, .int .i64 mx] 24 (0, 0))) := ⟨by rw [← HW1.out]; exact heap_alloc_new w _⟩
  have Hsz : Hid (w1.heap.size = w.heap.size + 1) := ⟨by rw [← HW1.out]; simp⟩
  obtain ⟨hp, hlen⟩ := hp
  have hp' := hp
  obtain ⟨ao, cap, rfl, hpl, _⟩ := hp'
  obtain ⟨n, Hn⟩ : ∃ n, Hid (ps.length = n) := ⟨_, ⟨rfl⟩⟩
  have hps : ps.length ≤ 1000000000000 := by omega
  rw [Hn.out] at hp ⊢
  have HP : Hid (Bs w1 (.slice ao n cap) ps) := ⟨hp.below Hb.out⟩
  clear hp hpl
  go_enter Try.func6, Try.ntmps6
  go_wp2_with fail
  rw [HW1.out]
  obtain ⟨B, HBB⟩ : ∃ B, Hid (w.heap.size = B) := ⟨_, ⟨rfl⟩⟩
  rw [HBB.out] at Hx Hsz Hb ⊢
  have hSS : ∀ w', Below (B + 1) w1 w' → w'.cell? ⟨B, 0, none⟩ = some (.int .i64 mn) ∧ w'.cell? ⟨B, 1, none⟩ = some (.int .i64 av) ∧ w'.cell? ⟨B, 2, none⟩ = some (.int .i64 mx) := fun w' hb' => by
    have hy := (hb'.block B (by omega)).trans Hx.out
    refine ⟨?_, ?_, ?_⟩
    · rw [cell_of_row _ _ _ _ _ _ hy]; rfl
    · rw [cell_of_row _ _ _ _ _ _ hy]; rfl
    · rw [cell_of_row _ _ _ _ _ _ hy]; rfl
  have Hw1 : Hid (Below (B + 1) w1 w1) := ⟨Below.refl _ _⟩
  by_cases hok : okC mn av mx
  · obtain ⟨L, HL⟩ : ∃ L, Hid (allL (endB mn av mx (tabV seed)) ps = L) := ⟨_, ⟨rfl⟩⟩
    obtain ⟨nn, HNN⟩ : ∃ nn, Hid (L.length = nn) := ⟨_, ⟨rfl⟩⟩
    have HLk : Hid (∀ i, i < nn → 1 ≤ (L.getD i []).length ∧ ((L.getD i []).length : Int) ≤ mx ∧ (i + 1 < nn → mn ≤ ((L.getD i []).length : Int))) := ⟨fun i hi => by
      have := allL_ok (T := tabV seed) hok ps (i := i) (by rw [HL.out, HNN.out]; exact hi)
      rw [HL.out, HNN.out] at this
      exact this⟩
    have HLf : Hid (L.flatten = ps) := ⟨by rw [← HL.out]; exact allL_flat _ _⟩
    have hnn : nn ≤ 1048577 := by have := allL_len (endB mn av mx (tabV seed)) ps; rw [HL.out, HNN.out] at this; omega
    refine wp_region_held_drew (S := (fun w' => w'.cell? ⟨B, 0, none⟩ = some (.int .i64 mn) ∧ w'.cell? ⟨B, 1, none⟩ = some (.int .i64 av) ∧ w'.cell? ⟨B, 2, none⟩ = some (.int .i64 mx))) (by kernel_rfl) (hSS w1.drew Hw1.out.drew) (fun hS => ?_)
    refine wpAnyH_take (i := 0) (v := .agg #[.int .i64 mn, .int .i64 av, .int .i64 mx]) rfl (by kernel_rfl) (by kernel_rfl) (by kernel_rfl) (fun _ _ _ h => h) (Or.inl ⟨by kernel_rfl, fun wx hx => by obtain ⟨hx0, hx1, hx2⟩ := hx; go_simp⟩) hS ?_
    refine wpAnyH_take (i := 1) (v := .int .u64 seed) rfl (by kernel_rfl) (by kernel_rfl) (by kernel_rfl) (fun _ _ _ h => h) (Or.inl ⟨by kernel_rfl, fun _ _ => by kernel_rfl⟩) hS ?_
    refine wpAnyH_take (i := 3) (v := .slice ao n cap) rfl (by kernel_rfl) (by kernel_rfl) (by kernel_rfl) (fun _ _ _ h => h) (Or.inl ⟨by kernel_rfl, fun _ _ => by kernel_rfl⟩) hS ?_
    refine wpAnyH_ready (rs := [2]) (by kernel_rfl) (by simp) (AllReadyH.cons rfl (fun Kc hK => ?_) AllReadyH.nil)
    go_simp
    refine (rtable_any seed _).mono ?_
    rintro e w2 ⟨ta, rfl, hta, hb⟩
    have Hw2 : Hid (Below (B + 1) w1 w2) := ⟨Hw1.out.drew.trans (hb.mono (by have := Hw1.out.size; have := Hsz.out; show B + 1 ≤ w1.heap.size; omega))⟩
    have HGw2 : Hid (Below w1.heap.size w1 w2) := ⟨(Below.refl _ w1).drew.trans hb⟩
    clear hb
    go_simp
    refine hK.out _ _ (hSS w2 Hw2.out) (fun hS => ?_)
    clear hK
    refine wpAnyH_ready (rs := [4]) (by kernel_rfl) (by simp) (AllReadyH.cons rfl (fun Kc hK => ?_) AllReadyH.nil)
    go_simp
    refine (all_any hok ta _ hta (.slice ao n cap) ps (HP.out.below (Hw2.out.mono (by rw [Hsz.out]; exact Nat.le_refl _))) hps).mono ?_
    rintro e w3 ⟨rv1, rfl, hO1, hOB1, hb⟩
    have Hw3 : Hid (Below (B + 1) w1 w3) := ⟨Hw2.out.trans (hb.mono (by have := Hw2.out.size; have := Hsz.out; omega))⟩
    have HGw3 : Hid (Below w2.heap.size w2 w3) := ⟨hb⟩
    have HO1 := Hid.mk hO1
    obtain ⟨a1, c1, rfl, hc1, _⟩ := hO1.rows.shape
    clear hO1 hb hOB1
    rw [HL.out, HNN.out] at HO1
    rw [HL.out, HNN.out] at hc1 ⊢
    go_simp
    refine hK.out _ _ (hSS w3 Hw3.out) (fun hS => ?_)
    clear hK
    refine wpAnyH_take (i := 5) (v := .tuple #[.slice a1 nn c1, .int .i64 0]) rfl (by kernel_rfl) (by kernel_rfl) (by kernel_rfl) (fun _ _ _ h => h) (Or.inl ⟨by kernel_rfl, fun _ _ => by kernel_rfl⟩) hS ?_
    refine wpAnyH_take (i := 6) (v := .slice a1 nn c1) rfl (by kernel_rfl) (by kernel_rfl) (by kernel_rfl) (fun _ _ _ h => h) (Or.inl ⟨by kernel_rfl, fun _ _ => by kernel_rfl⟩) hS ?_
    refine wpAnyH_take (i := 7) (v := .int .i64 0) rfl (by kernel_rfl) (by kernel_rfl) (by kernel_rfl) (fun _ _ _ h => h) (Or.inl ⟨by kernel_rfl, fun _ _ => by kernel_rfl⟩) hS ?_
    refine wpAnyH_take (i := 8) (v := .slice a1 nn c1) rfl (by kernel_rfl) (by kernel_rfl) (by kernel_rfl) (fun _ _ _ h => h) (Or.inl ⟨by kernel_rfl, fun _ _ => by kernel_rfl⟩) hS ?_
    refine wpAnyH_take (i := 9) (v := .int .i64 0) rfl (by kernel_rfl) (by kernel_rfl) (by kernel_rfl) (fun _ _ _ h => h) (Or.inl ⟨by kernel_rfl, fun _ _ => by kernel_rfl⟩) hS ?_
    refine wpAnyH_done (by kernel_rfl) ?_ _
    clear hS
    go_simp
    go_wp2_with fail
    have HSS : Hid (∀ w', Below (B + 1) w1 w' → w'.cell? ⟨B, 0, none⟩ = some (.int .i64 mn) ∧ w'.cell? ⟨B, 1, none⟩ = some (.int .i64 av) ∧ w'.cell? ⟨B, 2, none⟩ = some (.int .i64 mx)) := ⟨hSS⟩
    clear hSS
    go_loopg [9, 10, 11] nn (fun gg s9 s10 _ wr => ∃ kk : Nat, kk ≤ nn ∧ nn - kk ≤ gg ∧ s10 = .int .i64 (kk : Int) ∧ Hid (OwnB wr w3.heap.size s9 ((L.take kk).flatten)) ∧ Hid (Below w3.heap.size w3 wr))
    case atStart => exact ⟨0, Nat.zero_le _, by omega, rfl, ⟨World.ownsRow_nil _ _ _ _⟩, ⟨Below.refl _ _⟩⟩
    case round =>
      obtain ⟨kk, hkk, hgg, rfl, HO, HB⟩ := hrel
      have hBw : Below (B + 1) w1 wr := Hw3.out.trans (HB.out.mono (by have := Hw3.out.size; have := Hsz.out; omega))
      obtain ⟨q0, q1, q2⟩ := HSS.out wr hBw
      obtain ⟨a9, c9, rfl, hm9⟩ := OwnB.mine HO.out
      clear hm9
      by_cases hlt : kk < nn
      · have hltz : (kk : Int) < (nn : Int) := by omega
        have hlL : kk < L.length := by rw [HNN.out]; exact hlt
        have hR := (HO1.out.rows.still (Chg.ofBelow HB.out)).at (i := kk) hlL
        rw [HNN.out] at hR
        obtain ⟨b1, o1, c1', x1, m1, z1, e1, _, d1, y1⟩ := hR
        simp at e1
        obtain ⟨rfl, rfl⟩ := e1
        obtain ⟨k1, k2, k3⟩ := HLk.out kk hlt
        have hml : (L.getD kk []).length = m1 := by obtain ⟨_, _, e, _⟩ := y1; simp at e; exact e.2.1.symm
        rw [hml] at k1 k2 k3
        have HY : Hid (Bs wr (.slice x1 m1 z1) (L.getD kk [])) := ⟨y1⟩
        have HF : Hid ((L.take (kk + 1)).flatten = (L.take kk).flatten ++ L.getD kk []) := ⟨flat_take_snoc L hlL⟩
        have hfl : ((L.take kk).flatten).length + (L.getD kk []).length ≤ 140735488355328 := by
          have h5 : ((L.take (kk + 1)).flatten).length ≤ L.flatten.length := by
            conv => rhs; rw [← List.take_append_drop (kk + 1) L, List.flatten_append, List.length_append]
            omega
          rw [HF.out, List.length_append, HLf.out] at h5
          omega
        obtain ⟨n9, Hn9⟩ : ∃ n9, Hid (((L.take kk).flatten).length = n9) := ⟨_, ⟨rfl⟩⟩
        rw [Hn9.out] at HO ⊢
        have g1 : ¬ (m1 : Int) < 1 := by omega
        have g2 : ¬ mx < (m1 : Int) := by omega
        have hsz := HB.out.size
        clear y1 hml
        by_cases g3 : (m1 : Int) < mn
        · have g4 : ¬ (kk : Int) < (nn : Int) - 1 := fun h => by have := k3 (by omega); omega
          clear k3
          go_wp2_with (at_builtin; refine wp_appSat (base := w3.heap.size) rfl (.tmp 60) (.tmp 64) rfl rfl HO.out rfl HY.out hfl hsz ?_; intro v' w4 hO4 hG4 hV4; replace hG4 : Chg (ob (.slice a9 n9 c9)) wr w4 := hG4)
          go_roundg (nn - (kk + 1))
          case measure => omega
          case rel => exact ⟨kk + 1, by omega, by omega, by go_num, ⟨by rw [HF.out]; exact hO4⟩, ⟨HB.out.trans (hG4.below hsz (fun x hx => (HO.out.lt x (mem_ob.1 hx)).1))⟩⟩
        · clear k3
          go_wp2_with (at_builtin; refine wp_appSat (base := w3.heap.size) rfl (.tmp 60) (.tmp 64) rfl rfl HO.out rfl HY.out hfl hsz ?_; intro v' w4 hO4 hG4 hV4; replace hG4 : Chg (ob (.slice a9 n9 c9)) wr w4 := hG4)
          go_roundg (nn - (kk + 1))
          case measure => omega
          case rel => exact ⟨kk + 1, by omega, by omega, by go_num, ⟨by rw [HF.out]; exact hO4⟩, ⟨HB.out.trans (hG4.below hsz (fun x hx => (HO.out.lt x (mem_ob.1 hx)).1))⟩⟩
      · obtain rfl : kk = nn := by omega
        have hfin : (L.take kk).flatten = ps := by rw [List.take_of_length_le (by rw [HNN.out]; exact Nat.le_refl _), HLf.out]
        rw [hfin] at HO ⊢
        rw [Hn.out] at HO ⊢
        have HY : Hid (Byt ps) := ⟨by obtain ⟨_, _, _, _, _, _, _, hy⟩ := HP.out; exact hy⟩
        have tl := live_any wr
        have HPr : Hid (Bs wr (.slice ao n cap) ps) := ⟨HP.out.below (hBw.mono (by rw [Hsz.out]; exact Nat.le_refl _))⟩
        have HBw := Hid.mk hBw
        obtain ⟨st, Hst⟩ : ∃ st, Hid (strOfNums ps = st) := ⟨_, ⟨rfl⟩⟩
        clear hfin hBw
        go_wp2_with (go_at_call 9; refine tl.mono ?_; rintro e w6 ⟨rfl, hb6⟩; have r1 := run_str ((HO.out.bs HY.out).below hb6); have r2 := run_str (HPr.out.below hb6); rw [Hst.out] at r1 r2)
        go_ret
        exact ⟨rfl, by rw [HBB.out]; exact Hb.out.trans ((HBw.out.mono (by omega)).trans (hb6.mono (by have := HBw.out.size; have := Hsz.out; omega)))⟩
  · refine wp_region_held_drew (S := (fun w' => w'.cell? ⟨B, 0, none⟩ = some (.int .i64 mn) ∧ w'.cell? ⟨B, 1, none⟩ = some (.int .i64 av) ∧ w'.cell? ⟨B, 2, none⟩ = some (.int .i64 mx))) (by kernel_rfl) (hSS w1.drew Hw1.out.drew) (fun hS => ?_)
    refine wpAnyH_take (i := 0) (v := .agg #[.int .i64 mn, .int .i64 av, .int .i64 mx]) rfl (by kernel_rfl) (by kernel_rfl) (by kernel_rfl) (fun _ _ _ h => h) (Or.inl ⟨by kernel_rfl, fun wx hx => by obtain ⟨hx0, hx1, hx2⟩ := hx; go_simp⟩) hS ?_
    refine wpAnyH_take (i := 1) (v := .int .u64 seed) rfl (by kernel_rfl) (by kernel_rfl) (by kernel_rfl) (fun _ _ _ h => h) (Or.inl ⟨by kernel_rfl, fun _ _ => by kernel_rfl⟩) hS ?_
    refine wpAnyH_take (i := 3) (v := .slice ao n cap) rfl (by kernel_rfl) (by kernel_rfl) (by kernel_rfl) (fun _ _ _ h => h) (Or.inl ⟨by kernel_rfl, fun _ _ => by kernel_rfl⟩) hS ?_
    refine wpAnyH_ready (rs := [2]) (by kernel_rfl) (by simp) (AllReadyH.cons rfl (fun Kc hK => ?_) AllReadyH.nil)
    go_simp
    refine (rtable_any seed _).mono ?_
    rintro e w2 ⟨ta, rfl, hta, hb⟩
    have Hw2 : Hid (Below (B + 1) w1 w2) := ⟨Hw1.out.drew.trans (hb.mono (by have := Hw1.out.size; have := Hsz.out; show B + 1 ≤ w1.heap.size; omega))⟩
    have HGw2 : Hid (Below w1.heap.size w1 w2) := ⟨(Below.refl _ w1).drew.trans hb⟩
    clear hb
    go_simp
    refine hK.out _ _ (hSS w2 Hw2.out) (fun hS => ?_)
    clear hK
    refine wpAnyH_ready (rs := [4]) (by kernel_rfl) (by simp) (AllReadyH.cons rfl (fun Kc hK => ?_) AllReadyH.nil)
    go_simp
    refine (all_bad hok ta hta.1 (.slice ao n cap)).mono ?_
    rintro e w3 ⟨rfl, hb⟩
    have Hw3 : Hid (Below (B + 1) w1 w3) := ⟨Hw2.out.trans (hb.mono (by have := Hw2.out.size; have := Hsz.out; omega))⟩
    have HGw3 : Hid (Below w2.heap.size w2 w3) := ⟨hb⟩
    clear hb
    go_simp
    refine hK.out _ _ (hSS w3 Hw3.out) (fun hS => ?_)
    clear hK
    refine wpAnyH_take (i := 5) (v := .tuple #[.slice none 0 0, .int .i64 2]) rfl (by kernel_rfl) (by kernel_rfl) (by kernel_rfl) (fun _ _ _ h => h) (Or.inl ⟨by kernel_rfl, fun _ _ => by kernel_rfl⟩) hS ?_
    refine wpAnyH_take (i := 6) (v := .slice none 0 0) rfl (by kernel_rfl) (by kernel_rfl) (by kernel_rfl) (fun _ _ _ h => h) (Or.inl ⟨by kernel_rfl, fun _ _ => by kernel_rfl⟩) hS ?_
    refine wpAnyH_take (i := 7) (v := .int .i64 2) rfl (by kernel_rfl) (by kernel_rfl) (by kernel_rfl) (fun _ _ _ h => h) (Or.inl ⟨by kernel_rfl, fun _ _ => by kernel_rfl⟩) hS ?_
    refine wpAnyH_take (i := 8) (v := .slice none 0 0) rfl (by kernel_rfl) (by kernel_rfl) (by kernel_rfl) (fun _ _ _ h => h) (Or.inl ⟨by kernel_rfl, fun _ _ => by kernel_rfl⟩) hS ?_
    refine wpAnyH_take (i := 9) (v := .int .i64 2) rfl (by kernel_rfl) (by kernel_rfl) (by kernel_rfl) (fun _ _ _ h => h) (Or.inl ⟨by kernel_rfl, fun _ _ => by kernel_rfl⟩) hS ?_
    refine wpAnyH_done (by kernel_rfl) ?_ _
    clear hS
    go_simp
    have tl := live_any w3
    clear hSS
    go_wp2_with (go_at_call 9; refine tl.mono ?_; rintro e w6 ⟨rfl, hb6⟩)
    go_ret
    exact ⟨rfl, by rw [HBB.out]; exact Hb.out.trans ((Hw3.out.mono (by omega)).trans (hb6.mono (by have := Hw3.out.size; have := Hsz.out; omega)))⟩
end Go.Proofs.Ytngeefipeghjiaa
