/- The document's Bins. -/
import Derived.Test.YtkkcdmdkjedkjaaS8
namespace Go.Proofs.Ytkkcdmdkjedkjaa
open Go.RowKit Go.Lib

theorem lt2_le {x y : Sp} (h : Lt2 x y) : x.1 ≤ y.1 := by unfold Lt2 at h; omega
theorem fst_le {M : List Sp} (h : M.Pairwise Lt2) {i j : Nat} (hij : i ≤ j) (hj : j < M.length) : (M.getD i q0).1 ≤ (M.getD j q0).1 := by
  rcases Nat.eq_or_lt_of_le hij with rfl | hlt
  · exact Int.le_refl _
  · have := List.pairwise_iff_getElem.1 h i j (by omega) hj hlt
    simp only [List.getD, List.getElem?_eq_getElem (show i < M.length by omega), List.getElem?_eq_getElem hj, Option.getD_some]
    exact lt2_le this
theorem fst_take {M : List Sp} (h : M.Pairwise Lt2) {i j : Nat} (hij : i ≤ j + 1) (hj : j < M.length) {z : Int} (hz : z ∈ (M.take i).map (·.1)) : z ≤ (M.getD j q0).1 := by
  obtain ⟨s, hs, rfl⟩ := List.mem_map.1 hz
  obtain ⟨k, hk, e⟩ := List.mem_iff_getElem.1 hs
  rw [List.length_take] at hk
  have := fst_le h (i := k) (j := j) (by omega) hj
  rw [List.getElem_take] at e
  simp only [List.getD, List.getElem?_eq_getElem (show k < M.length by omega), Option.getD_some, e] at this
  exact this
theorem fst_snoc {M : List Sp} {i : Nat} (hi : i < M.length) (z : Int) : z ∈ (M.take (i + 1)).map (·.1) ↔ z ∈ (M.take i).map (·.1) ∨ z = (M.getD i q0).1 := by
  rw [take_snoc hi, List.map_append, List.mem_append]
  simp
theorem fst_in {M : List Sp} {i j : Nat} (hij : j < i) (hi : i ≤ M.length) : (M.getD j q0).1 ∈ (M.take i).map (·.1) := by
  refine List.mem_map.2 ⟨M.getD j q0, ?_, rfl⟩
  rw [List.mem_iff_getElem]
  refine ⟨j, by rw [List.length_take]; omega, ?_⟩
  simp [List.getD, List.getElem?_eq_getElem (show j < M.length by omega)]
theorem up_snoc {B : List Int} {x : Int} (h : B.Pairwise (· < ·)) (hx : ∀ z ∈ B, z < x) : (B ++ [x]).Pairwise (· < ·) := by
  rw [List.pairwise_append]
  exact ⟨h, by simp, fun a ha b hb => by simp at hb; subst hb; exact hx a ha⟩
section
variable {w : World}
set_option maxHeartbeats 8000000 in
set_option maxRecDepth 100000 in
theorem rbins_any (v : Value) (L : List Rf) (h : RdR w v L) (hL : L.length ≤ 2513169434843) :
    Calls Try.prog 30 #[v] w fun e w' => ∃ x, e = .returned x ∧ ∃ B, RdI w' x B ∧ B.Pairwise (· < ·) ∧ (∀ y, y ∈ B ↔ y ∈ L.map (fun r => (spo r).1)) ∧ B.length ≤ 2513169434843 ∧ Below w.heap.size w w' := by
  have t1 := rspots_any v L h hL
  obtain ⟨av, cv, rfl, hcv, hcm, _⟩ := h.shape
  obtain ⟨n, Hn⟩ : ∃ n, Hid (L.length = n) := ⟨_, ⟨rfl⟩⟩
  rw [Hn.out] at t1 hL ⊢
  clear h
  go_enter Try.func30, Try.ntmps30
  go_wp2_with (go_at_call 27; refine t1.mono ?_; rintro e w1 ⟨x, rfl, M, hO1, hS1, hM1, hL1, hB1⟩)
  obtain ⟨a, c, e, hcc, hccm, _⟩ := (hO1.rd (0, 0)).shape
  subst e
  obtain ⟨m, Hm⟩ : ∃ x, Hid (M.length = x) := ⟨_, ⟨rfl⟩⟩
  rw [Hm.out] at hO1 hL1 hcc ⊢
  have HS := Hid.mk hO1
  have HP := Hid.mk hS1
  have HB1 := Hid.mk hB1
  have HMm : Hid (∀ y, y ∈ M.map (·.1) ↔ y ∈ L.map (fun r => (spo r).1)) := ⟨fun y => by
    simp only [List.mem_map]
    constructor
    · rintro ⟨s, hs, rfl⟩
      obtain ⟨r, hr, rfl⟩ := List.mem_map.1 ((hM1 s).1 hs)
      exact ⟨r, hr, rfl⟩
    · rintro ⟨r, hr, rfl⟩
      exact ⟨spo r, (hM1 _).2 (List.mem_map.2 ⟨r, hr, rfl⟩), rfl⟩⟩
  have HTm : Hid (M.take m = M) := ⟨List.take_of_length_le (by rw [Hm.out]; exact Nat.le_refl _)⟩
  have HO0 : Hid (OwnE i1 1 3 (w1.alloc (.cells #[] 3)) w1.heap.size (.slice (some ⟨w1.heap.size, 0, none⟩) 0 0) []) := ⟨OwnE.none i1 1 3 w1⟩
  have Hbase : Hid (w.heap.size ≤ w1.heap.size) := ⟨hB1.size⟩
  have HA1 : Hid (Below w1.heap.size w1 (w1.alloc (.cells #[] 3))) := ⟨(Below.refl _ w1).alloc (Nat.le_refl _) _⟩
  have hmb : m ≤ 2513169434843 := by omega
  have Hgl : Hid (∀ g, a = some ⟨g, 0, none⟩ → g < w1.heap.size) := ⟨fun g e => (hO1.lt g (by rw [e]; simp [ob, Value.ownBlock])).2⟩
  clear hO1 hS1 hB1 hM1 t1
  go_wp2_with fail
  go_loopg [4, 5] m (fun gg s4 s5 wr => ∃ i : Nat, ∃ B : List Int, i ≤ m ∧ m - i ≤ gg ∧ s5 = .int .i64 (i : Int) ∧ Hid (OwnE i1 1 3 wr w1.heap.size s4 B) ∧ Hid (B.Pairwise (· < ·)) ∧ Hid (∀ y, y ∈ B ↔ y ∈ (M.take i).map (·.1)) ∧ Hid (B.length ≤ i) ∧ Hid (OwnE sp2 2 61 wr w.heap.size (.slice a m c) M) ∧ Hid (Below w.heap.size w wr) ∧ Hid (w1.heap.size ≤ wr.heap.size))
  case atStart => exact ⟨0, [], Nat.zero_le _, by omega, rfl, HO0, ⟨List.Pairwise.nil⟩, ⟨by simp⟩, ⟨Nat.le_refl _⟩, ⟨HS.out.far (Chg.ofBelow (X := []) HA1.out) (by simp)⟩, ⟨HB1.out.trans (HA1.out.mono HB1.out.size)⟩, ⟨HA1.out.size⟩⟩
  case round =>
    clear HO0 HA1 HB1 HS
    obtain ⟨i, B, hi, hgg, rfl, HO, HU, HMb, HBl, HSo, HB, Hsz⟩ := hrel
    rename World => wo
    obtain ⟨ab, cb, eb, hcb, hcbm, _⟩ := (HO.out.rd 0).shape
    subst eb
    obtain ⟨nb, HnB⟩ : ∃ x, Hid (B.length = x) := ⟨_, ⟨rfl⟩⟩
    rw [HnB.out] at HO HBl hcb ⊢
    by_cases hlt : i < m
    · have hltz : (i : Int) < (m : Int) := by omega
      have hiM : i < M.length := by rw [Hm.out]; exact hlt
      obtain ⟨g, eg⟩ : ∃ g, a = some ⟨g, 0, none⟩ := by
        have h0 := HSo.out.own
        rw [Hm.out] at h0
        rcases h0.2 with ⟨hz, h00⟩ | ⟨g', cap', cur, e', _⟩
        · omega
        · simp at e'
          exact ⟨g', e'.1⟩
      subst eg
      have Hgb : Hid (g < w1.heap.size) := ⟨Hgl.out g rfl⟩
      obtain ⟨c0, _⟩ := own_cells2 HSo.out (i := i) hiM
      have HSn := Hid.mk (fst_snoc hiM)
      by_cases h0 : i = 0
      · have HB0 : Hid (B = []) := ⟨by have := HBl.out; exact List.length_eq_zero_iff.1 (by rw [HnB.out]; omega)⟩
        generalize (M.getD i q0).1 = x1 at c0 HSn
        have HUp : Hid ((B ++ [x1]).Pairwise (· < ·)) := ⟨by rw [HB0.out]; simp⟩
        have HMe : Hid (∀ y, y ∈ B ++ [x1] ↔ y ∈ (M.take (i + 1)).map (·.1)) := ⟨fun y => by rw [HSn.out, List.mem_append, HMb.out]; simp⟩
        have hiz : ((i : Int) == 0) = true := by subst h0; rfl
        clear h0
        go_upto_region 6 with fail
        go_quiet (fail)
        have c0' : (wo.drewN nq).cell? ⟨g, i * 2, none⟩ = some (.int .i64 x1) := c0
        obtain ⟨V, HV⟩ : ∃ x, Hid ((wo.drewN nq).alloc (.cells #[.int .i64 x1] 3) = x) := ⟨_, ⟨rfl⟩⟩
        have HBV : Hid (Below (wo.drewN nq).heap.size (wo.drewN nq) V) := ⟨by rw [← HV.out]; exact (Below.refl _ _).alloc (Nat.le_refl _) _⟩
        have HRV : Hid (RdE i1 1 0 V (.slice (some ⟨(wo.drewN nq).heap.size, 0, none⟩) 1 1) [x1]) := ⟨by rw [← HV.out]; exact rde_one _ x1 rfl (i1_one x1).2 3⟩
        have HCq : Hid (Below wo.heap.size wo (wo.drewN nq)) := ⟨below_drewN (Below.refl _ wo) nq⟩
        have HOV : Hid (OwnE i1 1 3 V w1.heap.size (.slice ab nb cb) B) := ⟨(HO.out.far (Chg.ofBelow (X := []) HCq.out) (by simp)).far (Chg.ofBelow (X := []) HBV.out) (by simp)⟩
        have HSV : Hid (OwnE sp2 2 61 V w.heap.size (.slice (some ⟨g, 0, none⟩) m c) M) := ⟨(HSo.out.far (Chg.ofBelow (X := []) HCq.out) (by simp)).far (Chg.ofBelow (X := []) HBV.out) (by simp)⟩
        have HB5 : Hid (Below w.heap.size w V) := ⟨(HB.out.trans (HCq.out.mono HB.out.size)).trans (HBV.out.mono (Nat.le_trans HB.out.size HCq.out.size))⟩
        have hl1 : (B.length + [x1].length) * 8 ≤ 140737488355328 := by rw [HnB.out]; have := HBl.out; simp; omega
        have hl2 : B.length + [x1].length ≤ maxLen := by rw [HnB.out]; have := HBl.out; unfold maxLen; simp; omega
        have hl3 : w1.heap.size ≤ V.heap.size := Nat.le_trans Hsz.out (Nat.le_trans HCq.out.size HBV.out.size)
        go_wp2_with (first
          | (rw [HV.out]; refine wp_appE (f := i1) (d := 0) eltI rfl (.tmp 31) (.tmp 37) rfl rfl HOV.out rfl HRV.out hl1 hl2 hl3 ?_; intro v7 w7 hO7 hG7 hV7)
          | (refine wp_appE (f := i1) (d := 0) eltI rfl (.tmp 31) (.tmp 37) rfl rfl HOV.out rfl HRV.out hl1 hl2 hl3 ?_; intro v7 w7 hO7 hG7 hV7))
        have HO7 := Hid.mk hO7
        have HG7 : Hid (Chg (ob (.slice ab nb cb)) V w7) := ⟨hG7⟩
        have HB7 : Hid (Below w.heap.size w w7) := ⟨HB5.out.trans (HG7.out.below HB5.out.size (fun x hx => Nat.le_trans Hbase.out (HOV.out.lt x hx).1))⟩
        have HS7 : Hid (OwnE sp2 2 61 w7 w.heap.size (.slice (some ⟨g, 0, none⟩) m c) M) := ⟨HSV.out.far HG7.out (by intro x hx hm; simp [ob, Value.ownBlock] at hx; subst hx; have := (HOV.out.lt _ hm).1; have := Hgb.out; omega)⟩
        clear hO7 hG7 hV7
        go_roundg (m - (i + 1))
        case measure => omega
        case rel => exact ⟨i + 1, _, by omega, by omega, by go_num, HO7, HUp, HMe, ⟨by rw [List.length_append, HnB.out]; have := HBl.out; simp; omega⟩, HS7, HB7, ⟨Nat.le_trans hl3 HG7.out.size⟩⟩
      · have hiz : ((i : Int) == 0) = false := by simp; omega
        have hi1 : i - 1 < M.length := by omega
        obtain ⟨p0, _⟩ := own_cells2 HSo.out (i := i - 1) hi1
        have Hle := Hid.mk (fst_le HP.out (i := i - 1) (j := i) (by omega) hiM)
        have Htk := Hid.mk (fun z hz => fst_take HP.out (i := i) (j := i - 1) (by omega) hi1 (z := z) hz)
        have Hpin := Hid.mk (fst_in (M := M) (i := i) (j := i - 1) (by omega) (by omega))
        generalize (M.getD i q0).1 = x1 at c0 HSn Hle
        generalize (M.getD (i - 1) q0).1 = y1 at p0 Hle Htk Hpin
        have k1 : (i : Int) - 1 = ((i - 1 : Nat) : Int) := by omega
        have k2 : IntKind.i64.wrap ((i - 1 : Nat) : Int) = ((i - 1 : Nat) : Int) := IntWalk.i64_in _ ⟨by omega, by omega⟩
        have k3 : ((i - 1 : Nat) : Int) < (m : Int) := by omega
        have k4 : ¬ m ≤ i - 1 := by omega
        by_cases hxy : x1 = y1
        · have HMe : Hid (∀ y, y ∈ B ↔ y ∈ (M.take (i + 1)).map (·.1)) := ⟨fun y => by
            rw [HSn.out, ← HMb.out]
            exact ⟨fun h => .inl h, fun h => h.elim id (fun e => by rw [e, hxy]; exact (HMb.out _).2 Hpin.out)⟩⟩
          have hq : (x1 != y1) = false := by simp [hxy]
          clear hxy
          go_upto_region 6 with fail
          go_quiet (fail)
          go_wp2_with fail
          go_roundg (m - (i + 1))
          case measure => omega
          case rel => exact ⟨i + 1, B, by omega, by omega, by go_num, ⟨HO.out.far (Chg.ofBelow (X := []) (below_drewN (Below.refl _ wo) nq)) (by simp)⟩, HU, HMe, ⟨by rw [HnB.out]; have := HBl.out; omega⟩, ⟨HSo.out.far (Chg.ofBelow (X := []) (below_drewN (Below.refl _ wo) nq)) (by simp)⟩, ⟨below_drewN HB.out nq⟩, Hsz⟩
        · have HUp : Hid ((B ++ [x1]).Pairwise (· < ·)) := ⟨up_snoc HU.out (fun z hz => by have := Htk.out z ((HMb.out z).1 hz); have := Hle.out; omega)⟩
          have HMe : Hid (∀ y, y ∈ B ++ [x1] ↔ y ∈ (M.take (i + 1)).map (·.1)) := ⟨fun y => by rw [HSn.out, List.mem_append, HMb.out]; simp⟩
          have hq : (x1 != y1) = true := by simp [hxy]
          clear hxy
          go_upto_region 6 with fail
          go_quiet (fail)
          have c0' : (wo.drewN nq).cell? ⟨g, i * 2, none⟩ = some (.int .i64 x1) := c0
          obtain ⟨V, HV⟩ : ∃ x, Hid ((wo.drewN nq).alloc (.cells #[.int .i64 x1] 3) = x) := ⟨_, ⟨rfl⟩⟩
          have HBV : Hid (Below (wo.drewN nq).heap.size (wo.drewN nq) V) := ⟨by rw [← HV.out]; exact (Below.refl _ _).alloc (Nat.le_refl _) _⟩
          have HRV : Hid (RdE i1 1 0 V (.slice (some ⟨(wo.drewN nq).heap.size, 0, none⟩) 1 1) [x1]) := ⟨by rw [← HV.out]; exact rde_one _ x1 rfl (i1_one x1).2 3⟩
          have HCq : Hid (Below wo.heap.size wo (wo.drewN nq)) := ⟨below_drewN (Below.refl _ wo) nq⟩
          have HOV : Hid (OwnE i1 1 3 V w1.heap.size (.slice ab nb cb) B) := ⟨(HO.out.far (Chg.ofBelow (X := []) HCq.out) (by simp)).far (Chg.ofBelow (X := []) HBV.out) (by simp)⟩
          have HSV : Hid (OwnE sp2 2 61 V w.heap.size (.slice (some ⟨g, 0, none⟩) m c) M) := ⟨(HSo.out.far (Chg.ofBelow (X := []) HCq.out) (by simp)).far (Chg.ofBelow (X := []) HBV.out) (by simp)⟩
          have HB5 : Hid (Below w.heap.size w V) := ⟨(HB.out.trans (HCq.out.mono HB.out.size)).trans (HBV.out.mono (Nat.le_trans HB.out.size HCq.out.size))⟩
          have hl1 : (B.length + [x1].length) * 8 ≤ 140737488355328 := by rw [HnB.out]; have := HBl.out; simp; omega
          have hl2 : B.length + [x1].length ≤ maxLen := by rw [HnB.out]; have := HBl.out; unfold maxLen; simp; omega
          have hl3 : w1.heap.size ≤ V.heap.size := Nat.le_trans Hsz.out (Nat.le_trans HCq.out.size HBV.out.size)
          go_wp2_with (first
            | (rw [HV.out]; refine wp_appE (f := i1) (d := 0) eltI rfl (.tmp 31) (.tmp 37) rfl rfl HOV.out rfl HRV.out hl1 hl2 hl3 ?_; intro v7 w7 hO7 hG7 hV7)
            | (refine wp_appE (f := i1) (d := 0) eltI rfl (.tmp 31) (.tmp 37) rfl rfl HOV.out rfl HRV.out hl1 hl2 hl3 ?_; intro v7 w7 hO7 hG7 hV7))
          have HO7 := Hid.mk hO7
          have HG7 : Hid (Chg (ob (.slice ab nb cb)) V w7) := ⟨hG7⟩
          have HB7 : Hid (Below w.heap.size w w7) := ⟨HB5.out.trans (HG7.out.below HB5.out.size (fun x hx => Nat.le_trans Hbase.out (HOV.out.lt x hx).1))⟩
          have HS7 : Hid (OwnE sp2 2 61 w7 w.heap.size (.slice (some ⟨g, 0, none⟩) m c) M) := ⟨HSV.out.far HG7.out (by intro x hx hm; simp [ob, Value.ownBlock] at hx; subst hx; have := (HOV.out.lt _ hm).1; have := Hgb.out; omega)⟩
          clear hO7 hG7 hV7
          go_roundg (m - (i + 1))
          case measure => omega
          case rel => exact ⟨i + 1, _, by omega, by omega, by go_num, HO7, HUp, HMe, ⟨by rw [List.length_append, HnB.out]; have := HBl.out; simp; omega⟩, HS7, HB7, ⟨Nat.le_trans hl3 HG7.out.size⟩⟩
    · obtain rfl : m = i := by omega
      rw [HTm.out] at HMb
      go_wp2_with fail
      go_ret
      exact ⟨_, rfl, B, (owni_of HO.out).rd, HU.out, fun y => (HMb.out y).trans (HMm.out y), by rw [HnB.out]; have := HBl.out; omega, HB.out⟩
end
end Go.Proofs.Ytkkcdmdkjedkjaa
