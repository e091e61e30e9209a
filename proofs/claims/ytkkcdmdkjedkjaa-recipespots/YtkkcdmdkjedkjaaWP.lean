/- The law RecipeSpots. -/
import Derived.Test.YtkkcdmdkjedkjaaS9
import Derived.Test.YtkkcdmdkjedkjaaS3
import Derived.Test.YtkkcdmdkjedkjaaR10
import Derived.Test.YtkkcdmdkjedkjaaIntsS
namespace Go.Proofs.Ytkkcdmdkjedkjaa
open Go.RowKit Go.Lib Go.Sort

theorem cp_sub (L : List Sp) : ∀ j x, x ∈ cp L j → ∃ i, i < j ∧ x = L.getD i q0
  | 0, x, h => by simp [cp] at h
  | j + 1, x, h => by
    unfold cp at h
    split at h
    · obtain ⟨i, h1, h2⟩ := cp_sub L j x h
      exact ⟨i, by omega, h2⟩
    · rcases List.mem_append.1 h with h | h
      · obtain ⟨i, h1, h2⟩ := cp_sub L j x h
        exact ⟨i, by omega, h2⟩
      · simp at h
        exact ⟨j, by omega, by rw [h]; simp [List.getD]⟩
theorem cp_rise (L : List Sp) (hs : ∀ i j, i ≤ j → j < L.length → ¬ Lt2 (L.getD j q0) (L.getD i q0)) : ∀ j, j ≤ L.length → (cp L j).Pairwise Lt2
  | 0, _ => by simp [cp]
  | j + 1, h => by
    have ih := cp_rise L hs j (by omega)
    unfold cp
    split
    · exact ih
    · rename_i hne
      rw [List.pairwise_append]
      refine ⟨ih, by simp, fun a ha b hb => ?_⟩
      simp only [List.mem_singleton] at hb
      subst hb
      obtain ⟨i, hi, rfl⟩ := cp_sub L j a ha
      have h1 := hs i (j - 1) (by omega) (by omega)
      have h2 := hs (j - 1) j (by omega) (by omega)
      have h3 : ¬ L.getD j q0 = L.getD (j - 1) q0 := fun e => hne ⟨by omega, e⟩
      have h4 := lt2_tot _ _ h2 h3
      rcases Decidable.em (L.getD i q0 = L.getD (j - 1) q0) with e | e
      · rw [e]; exact h4
      · exact lt2_tr _ _ _ (lt2_tot _ _ h1 (fun e2 => e e2.symm)) h4
theorem srt_le (L : List Sp) : ∀ i j, i ≤ j → j < (srt L).length → ¬ Lt2 ((srt L).getD j q0) ((srt L).getD i q0) := by
  intro i j hij hj
  have h := List.pairwise_mergeSort (le := fun x y : Sp => !(ltOf spc) y x) (fun a b c h1 h2 => by
    simp only [Bool.not_eq_true', spc_lt, decide_eq_false_iff_not] at *
    omega) (fun a b => by
    simp only [Bool.or_eq_true, Bool.not_eq_true', spc_lt, decide_eq_false_iff_not]
    omega) L
  rcases Nat.eq_or_lt_of_le hij with rfl | hlt
  · exact lt2_irr _
  · have h' : (srt L).Pairwise (fun x y => (!(ltOf spc) y x) = true) := h
    have := List.pairwise_iff_getElem.1 h' i j (by omega) hj hlt
    simp only [Bool.not_eq_true', spc_lt, decide_eq_false_iff_not] at this
    simp only [List.getD, List.getElem?_eq_getElem (show i < (srt L).length by omega), List.getElem?_eq_getElem hj, Option.getD_some]
    unfold Lt2
    exact this
theorem spots_one {L M : List Sp} (h : M.Pairwise Lt2) (hm : ∀ y, y ∈ M ↔ y ∈ L) : cp (srt L) (srt L).length = M := by
  refine rise_one lt2_irr lt2_tr _ _ (cp_rise _ (srt_le L) _ (Nat.le_refl _)) h (fun x => ?_)
  rw [hm]
  constructor
  · intro hx
    obtain ⟨i, hi, rfl⟩ := cp_sub _ _ _ hx
    rw [← srt_mem]
    exact getD_mem' hi
  · intro hx
    rw [← srt_mem] at hx
    obtain ⟨i, hi, e⟩ := List.mem_iff_getElem.1 hx
    have := cp_mem (srt L) (srt L).length i hi
    simp only [List.getD, List.getElem?_eq_getElem hi, Option.getD_some, e] at this
    exact this
section
variable {w : World}
set_option maxHeartbeats 8000000 in
set_option maxRecDepth 100000 in
theorem recipeSpots_any (v : Value) (L : List Rf) (h : RdR w v L) (hL : L.length ≤ 2513169434843) : Calls Try.prog 8 #[v] w fun e w' => e = .returned (.bool true) ∧ Below w.heap.size w w' := by
  have H := Hid.mk h
  have t1 := spots26 sort_any srt_len compact_any v L h hL
  have T2 : ∀ W, Below w.heap.size w W → Calls Try.prog 27 #[v] W fun e w' => ∃ x, e = .returned x ∧ ∃ M, OwnE sp2 2 61 w' W.heap.size x M ∧ M.Pairwise Lt2 ∧ (∀ y, y ∈ M ↔ y ∈ L.map spo) ∧ M.length ≤ L.length ∧ Below W.heap.size W w' := fun W hb => rspots_any v L (H.out.below hb) hL
  have T3 : ∀ W, Below w.heap.size w W → Calls Try.prog 29 #[v] W fun e w' => ∃ x, e = .returned x ∧ ∃ M, OwnI w' W.heap.size x M ∧ M.Pairwise (· < ·) ∧ (∀ y, y ∈ M ↔ y ∈ L.map (fun r => (spo r).1)) ∧ M.length ≤ 2513169434843 ∧ Below W.heap.size W w' := fun W hb => bins29 v L (H.out.below hb) hL
  have T4 : ∀ W, Below w.heap.size w W → Calls Try.prog 30 #[v] W fun e w' => ∃ x, e = .returned x ∧ ∃ B, RdI w' x B ∧ B.Pairwise (· < ·) ∧ (∀ y, y ∈ B ↔ y ∈ L.map (fun r => (spo r).1)) ∧ B.length ≤ 2513169434843 ∧ Below W.heap.size W w' := fun W hb => rbins_any v L (H.out.below hb) hL
  have HT2 := Hid.mk T2
  have HT3 := Hid.mk T3
  have HT4 := Hid.mk T4
  obtain ⟨av, cv, rfl, hcv, hcm, _⟩ := h.shape
  obtain ⟨n, Hn⟩ : ∃ n, Hid (L.length = n) := ⟨_, ⟨rfl⟩⟩
  have HL := Hid.mk hL
  simp only [Hn.out] at t1 HT2 HT3 HT4 ⊢
  clear h T2 T3 T4
  go_enter Try.func8, Try.ntmps8
  go_upto_region 2 with (go_at_call 26; refine t1.mono ?_; rintro e w1 ⟨x1, rfl, hR1, hB1⟩)
  have t2 := HT2.out w1 hB1
  have HR1 := Hid.mk hR1
  have HB1 := Hid.mk hB1
  obtain ⟨a1, c1, e1, _⟩ := hR1.shape
  subst e1
  clear hR1 hB1 t1
  go_upto_region 3 with (go_at_call 27; refine t2.mono ?_; rintro e w2 ⟨x2, rfl, M, hO2, hP2, hM2, hL2, hB2⟩)
  have hone := spots_one hP2 hM2
  rw [hone] at HR1 ⊢
  have HR1' : Hid (RdE sp2 2 (0, 0) w2 (.slice a1 M.length c1) M) := ⟨HR1.out.far (Chg.ofBelow (X := []) hB2) (by simp)⟩
  have HR2' : Hid (RdE sp2 2 (0, 0) w2 x2 M) := ⟨hO2.rd _⟩
  obtain ⟨a2, c2, e2, _⟩ := HR2'.out.shape
  subst e2
  have HB2 : Hid (Below w.heap.size w w2) := ⟨HB1.out.trans (hB2.mono HB1.out.size)⟩
  obtain ⟨m, Hm⟩ : ∃ x, Hid (M.length = x) := ⟨_, ⟨rfl⟩⟩
  rw [Hm.out] at HR1' HR2' hL2 ⊢
  have hmb : m ≤ 2513169434843 := by have := HL.out; have := Hn.out; omega
  clear hone hO2 hP2 hM2 hB2 t2 HR1 HB1 HT2 hL2
  have hg := guard61
  go_wp2_with fail
  go_loopg [5] m (fun gg s5 wr => ∃ i : Nat, i ≤ m ∧ m - i ≤ gg ∧ s5 = .int .i64 (i : Int) ∧ Hid (Below w2.heap.size w2 wr))
  case atStart => exact ⟨0, Nat.zero_le _, by omega, rfl, ⟨Below.refl _ _⟩⟩
  case round =>
    obtain ⟨i, hi, hgg, rfl, HB⟩ := hrel
    rename World => wo
    by_cases hlt : i < m
    · have hltz : (i : Int) < (m : Int) := by omega
      have hiM : i < M.length := by rw [Hm.out]; exact hlt
      obtain ⟨b, off, cap, e, hc⟩ := (HR1'.out.far (Chg.ofBelow (X := []) HB.out) (by simp)).at' i hiM
      rw [Hm.out] at e
      simp at e
      obtain ⟨rfl, rfl⟩ := e
      obtain ⟨b', off', cap', e, hc'⟩ := (HR2'.out.far (Chg.ofBelow (X := []) HB.out) (by simp)).at' i hiM
      rw [Hm.out] at e
      simp at e
      obtain ⟨rfl, rfl⟩ := e
      generalize M.getD i (0, 0) = s at hc hc'
      obtain ⟨sb, so⟩ := s
      have c0 := hc 0 (by decide)
      have c1 := hc 1 (by decide)
      have d0 := hc' 0 (by decide)
      have d1 := hc' 1 (by decide)
      clear hc hc'
      simp [sp2] at c0 c1 d0 d1
      have hq : ∀ w : World, (binOp .neq 61 (.agg #[.int .i64 sb, .int .i64 so]) (.agg #[.int .i64 sb, .int .i64 so])).run Try.prog w = .ok (.bool false) w := fun w => by rw [ne61]; simp
      go_upto_region 8 with fail
      go_quiet (fail)
      go_wp2_with fail
      go_roundg (m - (i + 1))
      case measure => omega
      case rel => exact ⟨i + 1, by omega, by omega, by go_num, ⟨below_drewN HB.out nq⟩⟩
    · obtain rfl : m = i := by omega
      have HB3 : Hid (Below w.heap.size w wo) := ⟨HB2.out.trans (HB.out.mono HB2.out.size)⟩
      clear HR1' HR2' HB HB2
      go_wp2_with fail
      refine (live_any (w := wo)).mono ?_
      rintro e w4 ⟨rfl, hB4⟩
      have HB4 : Hid (Below w.heap.size w w4) := ⟨HB3.out.trans (hB4.mono HB3.out.size)⟩
      have t5 := HT3.out w4 HB4.out
      clear hB4
      go_wp2_with fail
      refine t5.mono ?_
      rintro e w5 ⟨x5, rfl, B5, hO5, hP5, hM5, hL5, hB5⟩
      have HB5 : Hid (Below w.heap.size w w5) := ⟨HB4.out.trans (hB5.mono HB4.out.size)⟩
      have HR5 := Hid.mk hO5.rd
      obtain ⟨a5, c5, e5, _⟩ := hO5.shape
      subst e5
      have t6 := HT4.out w5 HB5.out
      have HP5 := Hid.mk hP5
      have HM5 := Hid.mk hM5
      have HL5 := Hid.mk hL5
      clear t5 hO5 hP5 hM5 hB5 hL5
      go_wp2_with fail
      refine t6.mono ?_
      rintro e w6 ⟨x6, rfl, B6, hO6, hP6, hM6, hL6, hB6⟩
      have HB6 : Hid (Below w.heap.size w w6) := ⟨HB5.out.trans (hB6.mono HB5.out.size)⟩
      have hbb : B5 = B6 := rise_one (r := fun a b : Int => a < b) (fun x => by omega) (fun x y z => by omega) _ _ HP5.out hP6 (fun x => (HM5.out x).trans (hM6 x).symm)
      subst hbb
      obtain ⟨a6, c6, e6, _⟩ := hO6.shape
      subst e6
      have t7 := ints_same (w := w6) _ _ B5 (HR5.out.far (Chg.ofBelow (X := []) hB6) (by simp)) hO6 (by omega)
      clear t6 hO6 hP6 hM6 hB6 hL6
      go_wp2_with fail
      refine t7.mono ?_
      rintro e w7 ⟨rfl, hB7⟩
      have HB7 : Hid (Below w.heap.size w w7) := ⟨HB6.out.trans (hB7.mono HB6.out.size)⟩
      clear t7 hB7
      go_wp2_with fail
      go_ret
      exact ⟨rfl, HB7.out⟩
end
end Go.Proofs.Ytkkcdmdkjedkjaa
