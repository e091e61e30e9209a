/- The document's Take. -/
import Derived.Test.YtiloclekhddkfaaS31
namespace Go.Proofs.Ytiloclekhddkfaa
open Go.RowKit Go.Lib

theorem tkRef_no' {bs : List Int} {i c : Int} (h : tkRef bs i = .error c) : c ≠ 0 := by
  unfold tkRef at h
  split at h
  · cases h; decide
  split at h
  · rename_i h1; cases h; exact (nm_no h1).elim fun _ q => q.elim fun _ z => z.2
  split at h
  · rename_i h1; cases h; exact (nm_no h1).elim fun _ q => q.elim fun _ z => z.2
  split at h
  · rename_i h1; cases h; exact (nm_no h1).elim fun _ q => q.elim fun _ z => z.2
  split at h
  · cases h
  · cases h; decide
section
variable {w : World}
set_option maxHeartbeats 4000000 in
set_option maxRecDepth 100000 in
theorem rtake_any {v : Value} {bs : List Int} (hv : Oct.Bs w v bs) (hby : ∀ x ∈ bs, 0 ≤ x ∧ x < 256) (hl : bs.length ≤ 1000000000000000) :
    Calls Try.prog 25 #[v] w fun e w' => ∃ v', e = .returned (.tuple #[v', .int .i64 (tkC (takeF bs))]) ∧ OwnE rc 35 28 w' w.heap.size v' (tkL (takeF bs)) ∧ (∀ r ∈ tkL (takeF bs), Sm r.s) ∧ Below w.heap.size w w' := by
  have HV := Hid.mk hv
  have HX : Hid (takeF bs = match nm bs 0 with
    | .error c => .error c
    | .ok x => if 64 < x.1 then .error 6 else match tkRefs bs x.1.toNat x.2 with
      | .error c => .error c
      | .ok y => if y.2 < bs.length then .error 4 else .ok y.1) := ⟨rfl⟩
  obtain ⟨X, HXe⟩ : ∃ X, Hid (takeF bs = X) := ⟨_, ⟨rfl⟩⟩
  rw [HXe.out] at HX ⊢
  have t1 := Oct.rtakeNum_any v bs 0 w hv hby
  obtain ⟨av, cv, rfl, _⟩ := hv
  obtain ⟨nb, Hnb⟩ : ∃ n, Hid (bs.length = n) := ⟨_, ⟨rfl⟩⟩
  cases h1 : nm bs 0 with
  | error c =>
    obtain ⟨zn, zj, hz, hz0⟩ := nm_no h1
    rw [hz] at t1
    simp only at t1
    rw [h1] at HX
    have e := HX.out
    simp only at e
    subst e
    rw [Hnb.out] at t1 ⊢
    clear h1
    simp only [tkC, tkL]
    go_enter Try.func25, Try.ntmps25
    go_wp2_with (go_at_call 42; refine t1.mono ?_; rintro e w2 ⟨rfl, ex⟩; subst ex)
    go_ret2
    exact ⟨_, rfl, OwnE.nil _ _ _ _ _, by simp, Below.refl _ _⟩
  | ok x =>
    obtain ⟨n, i0⟩ := x
    have hq := nm_ok hby h1
    rw [hq.1] at t1
    simp only at t1
    rw [h1] at HX
    simp only at HX
    rw [Hnb.out] at HV t1 hl HX ⊢
    clear h1
    by_cases h64 : 64 < n
    · rw [if_pos h64] at HX
      have e := HX.out
      subst e
      simp only [tkC, tkL]
      clear hq
      go_enter Try.func25, Try.ntmps25
      go_wp2_with (go_at_call 42; refine t1.mono ?_; rintro e w2 ⟨rfl, ex⟩; subst ex)
      go_ret2
      exact ⟨_, rfl, OwnE.nil _ _ _ _ _, by simp, Below.refl _ _⟩
    · rw [if_neg h64] at HX
      obtain ⟨n0, rfl⟩ := Int.eq_ofNat_of_zero_le (show 0 ≤ n by omega)
      obtain ⟨j0, rfl⟩ := Int.eq_ofNat_of_zero_le (show 0 ≤ i0 by omega)
      have hn0 : n0 ≤ 64 := by omega
      have hn0z : ¬ (64 : Int) < (n0 : Int) := by omega
      have Hj0 : Hid (j0 ≤ nb) := ⟨by have := Hnb.out; omega⟩
      have HX2 : Hid (X = match tkRefs bs n0 (j0 : Int) with
        | .error c => .error c
        | .ok y => if y.2 < nb then .error 4 else .ok y.1) := ⟨HX.out⟩
      obtain ⟨XC, HXC⟩ : ∃ c, Hid (tkC X = c) := ⟨_, ⟨rfl⟩⟩
      obtain ⟨XL, HXL⟩ : ∃ c, Hid (tkL X = c) := ⟨_, ⟨rfl⟩⟩
      rw [HXC.out, HXL.out]
      obtain ⟨w3, Hw3⟩ : ∃ w3, Hid (w.alloc (.cells #[] 28) = w3) := ⟨_, ⟨rfl⟩⟩
      have HB3 : Hid (Below w.heap.size w w3) := ⟨by rw [← Hw3.out]; exact (Below.refl _ w).alloc (Nat.le_refl _) _⟩
      have HO3 : Hid (OwnE rc 35 28 w3 w.heap.size (.slice (some ⟨w.heap.size, 0, none⟩) 0 0) []) := ⟨by rw [← Hw3.out]; exact OwnE.none rc 35 28 w⟩
      clear hq HX h64
      go_enter Try.func25, Try.ntmps25
      go_upto_region 6 with (go_at_call 42; refine t1.mono ?_; rintro e w2 ⟨rfl, ex⟩; subst ex)
      go_upto_region 7 with fail
      rw [Hw3.out]
      go_wp2_with fail
      go_loopg [5, 7, 8, 9, 10, 11] n0 (fun gg s5 s7 s8 _ _ _ wr => ∃ (kk : Nat) (A : List Rf) (i : Nat), kk ≤ n0 ∧ n0 - kk ≤ gg ∧ s8 = .int .i64 (kk : Int) ∧ s5 = .int .i64 (i : Int) ∧ A.length = kk ∧ Hid (OwnE rc 35 28 wr w.heap.size s7 A) ∧ Hid (∀ r ∈ A, Sm r.s) ∧ Hid (i ≤ nb) ∧ Hid (Below w.heap.size w wr) ∧ Hid (tkRefs bs n0 (j0 : Int) = cat A (tkRefs bs (n0 - kk) (i : Int))))
      case atStart => exact ⟨0, [], j0, Nat.zero_le _, by omega, rfl, rfl, rfl, HO3, ⟨by simp⟩, Hj0, HB3, ⟨by rw [Nat.sub_zero]; cases tkRefs bs n0 (j0 : Int) <;> rfl⟩⟩
      case round =>
        clear HO3 HB3
        obtain ⟨kk, A, i, hkk, hgg, rfl, rfl, hA, HO, HS, Hi, HB, HF⟩ := hrel
        have HAl := Hid.mk hA
        obtain ⟨a4, c4, e4, _⟩ := (HO.out.rd r0).shape
        subst e4
        rw [HAl.out] at HO ⊢
        clear hA
        have HVr : Hid (Oct.Bs wr (.slice av nb cv) bs) := ⟨HV.out.below HB.out⟩
        by_cases hlt : kk < n0
        · have hltz : (kk : Int) < (n0 : Int) := by omega
          have Hsub : Hid (n0 - kk = (n0 - (kk + 1)) + 1) := ⟨by omega⟩
          rw [Hsub.out] at HF
          have t2 := takeRef_any (w := wr) _ bs i HVr.out hby (by rw [Hnb.out]; exact Hi.out) (by rw [Hnb.out]; exact hl)
          cases h2 : tkRef bs (i : Int) with
          | error c =>
            rw [h2] at t2
            simp only [trT] at t2
            rw [cat_no h2] at HF
            rw [HF.out] at HX2
            have e := HX2.out
            simp only at e
            have hc : XC = c := by rw [← HXC.out, e]; rfl
            have hL : XL = [] := by rw [← HXL.out, e]; rfl
            have hc0 : ¬ c = 0 := tkRef_no' h2
            subst hc
            subst hL
            clear e h2
            obtain ⟨cz, Hcz⟩ : ∃ cz, Hid ((rc rC).toArray = cz) := ⟨_, ⟨rfl⟩⟩
            go_upto_region 11 with (first
              | (go_at_call 43; refine t2.mono ?_; rintro e w5 ⟨rfl, hb5⟩)
              | (refine wp_storeR rfl (.tmp 9) (.tmp 33) rfl w5.heap.size rC sm0 rfl rfl _ (heap_alloc_new w5 _) rfl ?_; intro w6 hA6 hG6; have HB6 : Hid (Below w.heap.size w w6) := ⟨(HB.out.trans (hb5.mono HB.out.size)).trans ((((Chg.ofBelow (X := []) ((Below.refl _ w5).alloc (Nat.le_refl _) _)).thenNew hG6 (by simp)).below (Nat.le_refl _) (by simp)).mono (Nat.le_trans HB.out.size hb5.size))⟩))
            go_wp2_with fail
            go_ret2
            exact ⟨_, rfl, OwnE.nil _ _ _ _ _, by simp, HB6.out⟩
          | ok x =>
            obtain ⟨r, j⟩ := x
            have hq := tkRef_ok hby h2
            rw [h2] at t2
            simp only [trT] at t2
            rw [cat_step h2] at HF
            obtain ⟨j1, rfl⟩ := Int.eq_ofNat_of_zero_le (show 0 ≤ j by omega)
            have Hj1 : Hid (j1 ≤ nb) := ⟨by have := Hnb.out; omega⟩
            have Hsm : Hid (Sm r.s) := ⟨hq.1⟩
            clear hq h2
            go_upto_region 11 with (first
              | (go_at_call 43; refine t2.mono ?_; rintro e w5 ⟨rfl, hb5⟩)
              | (refine wp_storeR rfl (.tmp 9) (.tmp 33) rfl w5.heap.size r Hsm.out rfl rfl _ (heap_alloc_new w5 _) rfl ?_; intro w6 hA6 hG6; have HA6 := Hid.mk hA6; have HBr6 : Hid (Below wr.heap.size wr w6) := ⟨hb5.trans ((((Chg.ofBelow (X := []) ((Below.refl _ w5).alloc (Nat.le_refl _) _)).thenNew hG6 (by simp)).below (Nat.le_refl _) (by simp)).mono hb5.size)⟩; clear hA6 hG6))
            have HB6 : Hid (Below w.heap.size w w6) := ⟨HB.out.trans (HBr6.out.mono HB.out.size)⟩
            have HO6 : Hid (OwnE rc 35 28 w6 w.heap.size (.slice a4 kk c4) A) := ⟨HO.out.far (Chg.ofBelow (X := []) HBr6.out) (by simp)⟩
            have HcR := Hid.mk HA6.out.atR
            have Hi28 : Hid ((Try.prog.info? 28).map (·.size) = some (rc r).length) := ⟨by rw [rc_len r Hsm.out]; exact info28⟩
            have HBa : Hid (Below w6.heap.size w6 (w6.alloc (.cells (rc r).toArray 28))) := ⟨(Below.refl _ w6).alloc (Nat.le_refl _) _⟩
            have HR1 : Hid (RdE rc 35 r0 (w6.alloc (.cells (rc r).toArray 28)) (.slice (some ⟨w6.heap.size, 0, none⟩) 1 1) [r]) := ⟨rde_one w6 r (rc_len r Hsm.out) (rc_one' r) 28⟩
            have HO7 : Hid (OwnE rc 35 28 (w6.alloc (.cells (rc r).toArray 28)) w.heap.size (.slice a4 kk c4) A) := ⟨HO6.out.far (Chg.ofBelow (X := []) HBa.out) (by simp)⟩
            have Hsz : Hid ((rc r).toArray.size = 35) := ⟨by rw [List.size_toArray, rc_len r Hsm.out]⟩
            have Hbs : Hid (w.heap.size ≤ (w6.alloc (.cells (rc r).toArray 28)).heap.size) := ⟨by simp; have := HB6.out.size; omega⟩
            have HL1 : Hid ((A.length + [r].length) * 56 ≤ 140737488355328) := ⟨by rw [HAl.out]; simp; omega⟩
            have HL2 : Hid (A.length + [r].length ≤ maxLen) := ⟨by rw [HAl.out]; unfold maxLen; simp; omega⟩
            clear t2
            go_upto_region 13 with fail
            go_upto_region 14 with (first
              | (refine wp_loadA rfl 28 (.tmp 9) rfl w5.heap.size 0 rfl (rc r) _ HcR.out Try.underlying28 rfl Hi28.out ?_)
              | (refine wp_sliceE eltR rfl (.tmp 40) rfl (rc r).toArray rfl Hsz.out (by decide) ?_)
              | (at_builtin; refine wp_appE eltR rfl (.tmp 39) (.tmp 41) rfl rfl HO7.out rfl HR1.out HL1.out HL2.out Hbs.out ?_; intro v7 w7 hO8 hG7 hV7))
            replace hG7 : Chg (ob (.slice a4 kk c4)) (w6.alloc (.cells (rc r).toArray 28)) w7 := hG7
            have HB7 : Hid (Below w.heap.size w w7) := ⟨(HB6.out.trans (HBa.out.mono HB6.out.size)).trans (hG7.below Hbs.out (fun x hx => (HO7.out.lt x hx).1))⟩
            go_wp2_with fail
            go_roundg (n0 - (kk + 1))
            case measure => omega
            case rel => exact ⟨kk + 1, A ++ [r], j1, by omega, by omega, by go_num, rfl, by rw [List.length_append, HAl.out]; rfl, ⟨hO8⟩, ⟨fun x hx => (List.mem_append.1 hx).elim (HS.out x) (fun q => by simp at q; subst q; exact Hsm.out)⟩, Hj1, HB7, HF⟩
        · obtain rfl : kk = n0 := by omega
          rw [Nat.sub_self] at HF
          have HX3 : Hid (X = if (i : Int) < (nb : Int) then .error 4 else .ok A) := ⟨by rw [HX2.out, HF.out]; simp [tkRefs, cat]⟩
          by_cases hend : (i : Int) < (nb : Int)
          · have e : X = .error 4 := by rw [HX3.out, if_pos hend]
            have hc : XC = 4 := by rw [← HXC.out, e]; rfl
            have hL : XL = [] := by rw [← HXL.out, e]; rfl
            subst hc
            subst hL
            clear e
            go_wp2_with fail
            go_ret2
            exact ⟨_, rfl, OwnE.nil _ _ _ _ _, by simp, HB.out⟩
          · have e : X = .ok A := by rw [HX3.out, if_neg hend]
            have hc : XC = 0 := by rw [← HXC.out, e]; rfl
            have hL : XL = A := by rw [← HXL.out, e]; rfl
            subst hc
            subst hL
            clear e
            go_wp2_with fail
            go_ret2
            exact ⟨_, rfl, HO.out, HS.out, HB.out⟩
end
end Go.Proofs.Ytiloclekhddkfaa
