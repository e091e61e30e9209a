/- The document's Runs. -/
import Derived.Test.YtcmibcmndiplbabR3
namespace Go.Proofs.Ytcmibcmndiplbab
open Go.RowKit Go.Lib Go.Shelf

theorem take_set_last (cs : Array Value) (m : Nat) (F : List Value) (a b a' b' : Value) (hF : F.length = m) (h : cs.toList.take (m + 2) = F ++ [a, b]) : ((cs.setIfInBounds m a').setIfInBounds (m + 1) b').toList.take (m + 2) = F ++ [a', b'] := by
  subst hF
  have hl : F.length + 2 ≤ cs.toList.length := by
    have := congrArg List.length h
    simp at this ⊢
    omega
  have hl2 : F.length + 2 ≤ cs.size := by simpa using hl
  apply List.ext_getElem?
  intro i
  rw [List.getElem?_take]
  have hi := congrArg (fun l => l[i]?) h
  simp only [List.getElem?_take] at hi
  simp only [Array.toList_setIfInBounds]
  by_cases h1 : i < F.length + 2
  · rw [if_pos h1] at hi ⊢
    rw [List.getElem?_set, List.getElem?_set]
    by_cases h2 : i < F.length
    · rw [if_neg (by omega), if_neg (by omega), hi, List.getElem?_append_left h2, List.getElem?_append_left h2]
    · by_cases h3 : i = F.length
      · subst h3
        rw [if_neg (by omega), if_pos rfl, if_pos (by omega)]
        simp
      · obtain rfl : i = F.length + 1 := by omega
        rw [if_pos rfl, if_pos (by simp; omega)]
        simp
  · rw [if_neg h1, List.getElem?_eq_none (by simp; omega)]

theorem clip_length : ∀ (l : List (Int × Int)) (e : Int), (clip l e).length ≤ l.length
  | [], _ => Nat.le_refl _
  | x :: r, e => by
    have := clip_length r e
    rw [clip_cons, List.length_append, List.length_cons]
    unfold clip1
    split <;> simp <;> omega
theorem clip_mem {B : Int} (l : List (Int × Int)) (lo e : Int) (h : Can B lo l) (y : Int × Int) (hy : y ∈ clip l e) : y.1 ≤ e ∧ lo ≤ y.1 := by
  unfold clip at hy
  obtain ⟨x, hx, h1⟩ := List.mem_flatMap.1 hy
  have := h.ge x hx
  unfold clip1 at h1
  split at h1
  · simp at h1; rw [h1]; simp only; omega
  · simp at h1

set_option maxHeartbeats 4000000 in
theorem runsref_any {w : World} {q : Nat} {A B : Int} {base : Nat} {v : Value} {T : List Bool} {l : List (Int × Int)} (h : RefAt w q A base v T) (hS : Says A B l T) (hA : 0 ≤ A) (hB : B ≤ 4096) :
    Calls Try.prog 37 #[.pointer (some ⟨q, 0, none⟩)] w fun e w' => ∃ v', e = .returned v' ∧ Own2 w' w.heap.size 43 v' (l.map rn) ∧ Below w.heap.size w w' := by
  obtain ⟨c0, c1⟩ := cells_row2 h.row
  obtain ⟨ao, cap, rfl, hcell⟩ := h.own.shape
  have hql := h.lt
  have HC : Hid (∀ j, j < T.length → ∃ g, ao = some ⟨g, 0, none⟩ ∧ g < w.heap.size ∧ w.cell? ⟨g, j, none⟩ = some (.bool (T.getD j false))) := ⟨fun j hj => by
    obtain ⟨g, h1, h2⟩ := hcell j hj
    exact ⟨g, h1, by simpa using World.block_lt_of_cell? w _ h2, h2⟩⟩
  obtain ⟨N, hN⟩ : ∃ N, T.length = N := ⟨_, rfl⟩
  have hNB : (N : Int) = B - A := by rw [← hN]; exact hS.len
  rw [hN] at c1
  have HNB : Hid ((N : Int) = B - A) := ⟨hNB⟩
  have hNB' : (N : Int) ≤ 4096 := by omega
  have hNB2 : A + (N : Int) ≤ 4096 := by omega
  clear hNB
  have HS : Hid (Says A B l T) := ⟨hS⟩
  have hown0 : Own2 (w.alloc (.cells #[] 43)) w.heap.size 43 (.slice (some ⟨w.heap.size, 0, none⟩) 0 0) ((clip l (A + ((0 : Nat) : Int))).map rn) := by
    rw [show clip l (A + ((0 : Nat) : Int)) = [] from clip_far l A _ hS.can (by omega)]
    exact ⟨rfl, .inr ⟨w.heap.size, 0, #[], rfl, Nat.le_refl _, heap_alloc_new w _, Nat.le_refl _, by decide, rfl, rfl⟩⟩
  have hb0 : Below w.heap.size w (w.alloc (.cells #[] 43)) := (Below.refl _ w).alloc (Nat.le_refl _) _
  have nq : q ≠ w.heap.size := by omega
  clear h hcell hS
  go_enter Try.func37, Try.ntmps37
  go_wp2
  generalize w.alloc (.cells #[] 43) = w1 at hown0 hb0 ⊢
  go_loopg [3, 4] N (fun gg s3 s4 wr => ∃ kk : Nat, kk ≤ N ∧ N - kk ≤ gg ∧ s4 = .int .i64 (kk : Int) ∧ Hid (Below w.heap.size w wr) ∧ Own2 wr w.heap.size 43 s3 ((clip l (A + (kk : Int))).map rn))
  case atStart => exact ⟨0, Nat.zero_le _, by omega, rfl, ⟨hb0⟩, hown0⟩
  case round =>
    clear hown0 hb0
    obtain ⟨kk, hkk, hg, rfl, HB, hO⟩ := hrel
    have d0 : wr.cell? ⟨q, 0, none⟩ = some (.int .i64 A) := (HB.out.cell (p := ⟨q, 0, none⟩) hql).trans c0
    have d1 : wr.cell? ⟨q, 1, none⟩ = some (.slice ao N cap) := (HB.out.cell (p := ⟨q, 1, none⟩) hql).trans c1
    by_cases hlt : kk < N
    · have hltz : (kk : Int) < (N : Int) := by omega
      obtain ⟨g, rfl, hgl, cg0⟩ := HC.out kk (by omega)
      have cg : wr.cell? ⟨g, kk, none⟩ = some (.bool (T.getD kk false)) := (HB.out.cell (p := ⟨g, kk, none⟩) hgl).trans cg0
      have HO : Hid (Own2 wr w.heap.size 43 u3 ((clip l (A + (kk : Int))).map rn)) := ⟨hO⟩
      clear hO cg0
      have hcv := HS.out.cov (A + (kk : Int))
      rw [show (A + (kk : Int) - A).toNat = kk by omega] at hcv
      cases hy : T.getD kk false with
      | true =>
        rw [hy] at cg hcv
        have hno : ¬ cov l (A + (kk : Int)) := fun hh => by simpa using (hcv.1 hh).2
        have HE : Hid (clip l (A + ((kk + 1 : Nat) : Int)) = clip l (A + (kk : Int))) := ⟨by
          rw [show A + ((kk + 1 : Nat) : Int) = A + (kk : Int) + 1 by omega]
          exact clip_no l A _ HS.out.can hno⟩
        clear hcv hno hy
        go_wp2
        go_roundg (N - (kk + 1))
        case measure => omega
        case rel => exact ⟨kk + 1, by omega, by omega, by go_num, HB, by rw [HE.out]; exact HO.out⟩
      | false =>
        rw [hy] at cg hcv
        have hon : cov l (A + (kk : Int)) := hcv.2 ⟨by have := HNB.out; omega, rfl⟩
        have HON : Hid (cov l (A + (kk : Int))) := ⟨hon⟩
        clear hcv hy hon
        by_cases hk0 : kk = 0
        · subst hk0
          have HE : Hid ((clip l (A + ((0 + 1 : Nat) : Int))).map rn = (clip l (A + ((0 : Nat) : Int))).map rn ++ [(A, 1)]) := ⟨by
            rw [show A + ((0 + 1 : Nat) : Int) = A + ((0 : Nat) : Int) + 1 by omega, clip_new l A _ HS.out.can HON.out (fun hh => by have := cov_lo HS.out.can hh; omega), List.map_append]
            simp [rn, siz]; omega⟩
          have hlen : ((clip l (A + ((0 : Nat) : Int))).map rn).length ≤ 1000000 := by
            rw [show clip l (A + ((0 : Nat) : Int)) = [] from clip_far l A _ HS.out.can (by omega)]; simp
          have hsz := HB.out.size
          have hwA : wrap64 A = A := IntWalk.wrap64_in _ ⟨by omega, by omega⟩
          go_wp2_with (at_builtin; refine wp_app1R (y := (A, 1)) rfl (.tmp 52) (.tmp 60) rfl rfl HO.out rfl hlen hsz ?_; intro v' w'' hv' hb2)
          have hbz := HB.out.trans hb2
          go_roundg (N - (0 + 1))
          case measure => omega
          case rel => exact ⟨0 + 1, by omega, by omega, by go_num, ⟨hbz⟩, by rw [HE.out]; exact hv'⟩
        · obtain ⟨kp, rfl⟩ : ∃ kp, kk = kp + 1 := ⟨kk - 1, by omega⟩
          have hkz : (0 : Int) < ((kp + 1 : Nat) : Int) := by omega
          obtain ⟨g2, hge, _, cgp0⟩ := HC.out kp (by omega)
          obtain rfl : g = g2 := by simpa using hge
          have cgp : wr.cell? ⟨g, kp, none⟩ = some (.bool (T.getD kp false)) := (HB.out.cell (p := ⟨g, kp, none⟩) hgl).trans cgp0
          have hcv2 := HS.out.cov (A + (kp : Int))
          rw [show (A + (kp : Int) - A).toNat = kp by omega] at hcv2
          cases hy2 : T.getD kp false with
          | true =>
            rw [hy2] at cgp hcv2
            have hno : ¬ cov l (A + (kp : Int)) := fun hh => by simpa using (hcv2.1 hh).2
            have HE : Hid ((clip l (A + ((kp + 1 + 1 : Nat) : Int))).map rn = (clip l (A + ((kp + 1 : Nat) : Int))).map rn ++ [(A + ((kp + 1 : Nat) : Int), 1)]) := ⟨by
              rw [show A + ((kp + 1 + 1 : Nat) : Int) = A + ((kp + 1 : Nat) : Int) + 1 by omega, clip_new l A _ HS.out.can HON.out (by rw [show A + ((kp + 1 : Nat) : Int) - 1 = A + (kp : Int) by omega]; exact hno), List.map_append]
              simp [rn, siz]; omega⟩
            have hlen : ((clip l (A + ((kp + 1 : Nat) : Int))).map rn).length ≤ 1000000 := by
              have h1 := clip_length l (A + ((kp + 1 : Nat) : Int))
              have h2 := HS.out.can.length
              rw [List.length_map]; omega
            have hsz := HB.out.size
            have hwA : wrap64 (A + ((kp : Int) + 1)) = A + ((kp : Int) + 1) := IntWalk.wrap64_in _ ⟨by omega, by omega⟩
            clear hno hcv2 hy2
            go_wp2_with (at_builtin; refine wp_app1R (y := (A + ((kp + 1 : Nat) : Int), 1)) rfl (.tmp 52) (.tmp 60) rfl rfl HO.out rfl hlen hsz ?_; intro v' w'' hv' hb2)
            have hbz := HB.out.trans hb2
            go_roundg (N - (kp + 1 + 1))
            case measure => omega
            case rel => exact ⟨kp + 1 + 1, by omega, by omega, by go_num, ⟨hbz⟩, by rw [HE.out]; exact hv'⟩
          | false =>
            rw [hy2] at cgp hcv2
            have hon2 : cov l (A + (kp : Int)) := hcv2.2 ⟨by have := HNB.out; omega, rfl⟩
            obtain ⟨pre, x, e1, e2⟩ := clip_on l A (A + ((kp + 1 : Nat) : Int)) HS.out.can HON.out (by rw [show A + ((kp + 1 : Nat) : Int) - 1 = A + (kp : Int) by omega]; exact hon2)
            have hlen : pre.length ≤ 100000 := by
              have h1 := clip_length l (A + ((kp + 1 : Nat) : Int))
              have h2 := HS.out.can.length
              rw [e1] at h1
              simp at h1; omega
            have hO2 := HO.out
            rw [e1, List.map_append] at hO2
            have HE2 : Hid (clip l (A + ((kp + 1 + 1 : Nat) : Int)) = pre ++ [(x, A + ((kp + 1 : Nat) : Int) + 1)]) := ⟨by rw [show A + ((kp + 1 + 1 : Nat) : Int) = A + ((kp + 1 : Nat) : Int) + 1 by omega]; exact e2⟩
            have hx0 : x ≤ A + ((kp + 1 : Nat) : Int) ∧ A ≤ x := by
              have hm : (x, A + ((kp + 1 : Nat) : Int)) ∈ clip l (A + ((kp + 1 : Nat) : Int)) := by rw [e1]; simp
              exact clip_mem l A _ HS.out.can _ hm
            clear hon2 hcv2 hy2 e1 e2 HO
            generalize hpr : pre.map rn = P at hO2
            have hPl : P.length = pre.length := by rw [← hpr]; simp
            have HP : Hid (P = pre.map rn) := ⟨hpr.symm⟩
            clear hpr
            have hsh : ∃ gg cp cs, u3 = .slice (some ⟨gg, 0, none⟩) (P.length + 1) cp ∧ w.heap.size ≤ gg ∧ wr.heap[gg]? = some (.cells cs 43 (0, 0)) ∧ P.length + 1 ≤ cp ∧ cp ≤ maxLen ∧ cs.size = cp * 2 ∧ cs.toList.take (P.length * 2 + 2) = flat2 P ++ [.int .i64 x, .int .i64 (A + ((kp + 1 : Nat) : Int) - x)] := by
              rcases hO2.2 with ⟨_, h'⟩ | ⟨gg, cp, cur, h', hb, hh, q1, q2, q3, q4⟩
              · simp at h'
              · refine ⟨gg, cp, cur, by rw [h']; simp, hb, hh, by simpa using q1, q2, q3, ?_⟩
                rw [flat2_append] at q4
                have : (P ++ [(x, A + ((kp + 1 : Nat) : Int))].map rn).length * 2 = P.length * 2 + 2 := by simp; omega
                rw [this] at q4
                rw [q4]
                rfl
            obtain ⟨gg', cp, cs, rfl, hgg, hrow, hcp, hcpm, hcss, htk⟩ := hsh
            have hfl : (flat2 P).length = P.length * 2 := flat2_length P
            obtain ⟨pl, Hpl⟩ : ∃ pl, Hid (P.length = pl) := ⟨_, ⟨rfl⟩⟩
            have hpl9 : pl ≤ 100000 := by rw [← Hpl.out]; omega
            rw [Hpl.out] at hcp htk hfl ⊢
            clear hPl
            have hsz2 : pl * 2 + 2 ≤ cs.size := by omega
            have hgt : ∀ i, i < pl * 2 + 2 → cs[i]? = (flat2 P ++ [.int .i64 x, .int .i64 (A + ((kp + 1 : Nat) : Int) - x)])[i]? := fun i hi => by
              rw [← htk, List.getElem?_take, if_pos hi]; simp
            have k0 : wr.cell? ⟨gg', pl * 2, none⟩ = some (.int .i64 x) := by
              rw [cell_of_row wr gg' _ cs 43 (0, 0) hrow, hgt _ (by omega), List.getElem?_append_right (by rw [hfl]; exact Nat.le_refl _)]
              simp [hfl]
            have k1 : wr.cell? ⟨gg', pl * 2 + 1, none⟩ = some (.int .i64 (A + ((kp + 1 : Nat) : Int) - x)) := by
              rw [cell_of_row wr gg' _ cs 43 (0, 0) hrow, hgt _ (by omega), List.getElem?_append_right (by rw [hfl]; omega)]
              simp [hfl]
            have f0 := frozen_of_row wr gg' (pl * 2) _ 43 hrow
            have f1 := frozen_of_row wr gg' (pl * 2 + 1) _ 43 hrow
            have hggl : gg' < wr.heap.size := (Array.getElem?_eq_some_iff.1 hrow).1
            have ngg : gg' ≠ wr.heap.size := by omega
            generalize hM : A + ((kp + 1 : Nat) : Int) - x = M at k1 htk
            have hM0 : 0 ≤ M ∧ M ≤ 4096 := by omega
            have hwM : wrap64 (M + 1) = M + 1 := IntWalk.wrap64_in _ ⟨by omega, by omega⟩
            have HF : Hid (Own2 ((wr.setCell ⟨gg', pl * 2, none⟩ (.int .i64 x)).setCell ⟨gg', pl * 2 + 1, none⟩ (.int .i64 (M + 1))) w.heap.size 43 (.slice (some ⟨gg', 0, none⟩) (pl + 1) cp) ((clip l (A + ((kp + 1 + 1 : Nat) : Int))).map rn)) := ⟨by
              rw [HE2.out, List.map_append, ← HP.out]
              have hrow2 := heap_setCell_same _ gg' (pl * 2 + 1) _ 43 (.int .i64 (M + 1)) (heap_setCell_same wr gg' (pl * 2) _ 43 (.int .i64 x) hrow)
              have hl2 : (P ++ [(x, A + ((kp + 1 : Nat) : Int) + 1)].map rn).length = pl + 1 := by rw [← Hpl.out]; simp
              refine ⟨flat2_length _, .inr ⟨gg', cp, _, by rw [hl2], hgg, hrow2, by rw [hl2]; exact hcp, hcpm, by simpa using hcss, ?_⟩⟩
              rw [hl2, show (pl + 1) * 2 = pl * 2 + 2 by omega, take_set_last cs (pl * 2) (flat2 P) _ _ _ _ hfl htk, flat2_append]
              congr 1
              simp [flat2, enc2, rn, siz]
              omega⟩
            have HG : Hid (Below w.heap.size w ((wr.setCell ⟨gg', pl * 2, none⟩ (.int .i64 x)).setCell ⟨gg', pl * 2 + 1, none⟩ (.int .i64 (M + 1)))) := ⟨(HB.out.setCell hgg _).setCell hgg _⟩
            clear hrow htk hgt hcss hO2 hcpm hcp hsz2 hM hfl
            go_wp2
            go_roundg (N - (kp + 1 + 1))
            case measure => omega
            case rel => exact ⟨kp + 1 + 1, by omega, by omega, by go_num, ⟨HG.out.alloc HG.out.size _⟩, World.ownsRow.alloc HF.out _⟩
    · obtain rfl : kk = N := by omega
      go_wp2
      go_ret
      exact ⟨_, rfl, by rw [show A + (kk : Int) = B by have := HNB.out; omega, clip_all l A HS.out.can] at hO; exact hO, HB.out⟩
end Go.Proofs.Ytcmibcmndiplbab
