/- The program's taker: all. -/
import Derived.Test.YtiloclekhddkfaaS26
import Derived.Laws.MakeOwn
namespace Go.Proofs.Ytiloclekhddkfaa
open Go.RowKit Go.Lib

/-- So many refs from a place on. -/
def tkRefs (bs : List Int) : Nat → Int → Except Int (List Rf × Int)
  | 0, i => .ok ([], i)
  | k + 1, i => match tkRef bs i with
    | .error c => .error c
    | .ok x => match tkRefs bs k x.2 with
      | .error c => .error c
      | .ok y => .ok (x.1 :: y.1, y.2)
/-- What Take tells: the refs, or the error. -/
def takeF (bs : List Int) : Except Int (List Rf) := match nm bs 0 with
  | .error c => .error c
  | .ok x => if 64 < x.1 then .error 6 else match tkRefs bs x.1.toNat x.2 with
    | .error c => .error c
    | .ok y => if y.2 < bs.length then .error 4 else .ok y.1
def cat (A : List Rf) : Except Int (List Rf × Int) → Except Int (List Rf × Int)
  | .error c => .error c
  | .ok y => .ok (A ++ y.1, y.2)
theorem cat_step {bs : List Int} {A : List Rf} {k : Nat} {i : Int} {r : Rf} {j : Int} (h : tkRef bs i = .ok (r, j)) : cat A (tkRefs bs (k + 1) i) = cat (A ++ [r]) (tkRefs bs k j) := by
  rw [tkRefs, h]
  simp only
  cases tkRefs bs k j with
  | error c => rfl
  | ok y => simp [cat]
theorem cat_no {bs : List Int} {A : List Rf} {k : Nat} {i : Int} {c : Int} (h : tkRef bs i = .error c) : cat A (tkRefs bs (k + 1) i) = .error c := by
  rw [tkRefs, h]
  rfl
theorem tkRef_ok {bs : List Int} {i : Nat} {r : Rf} {j : Int} (hb : ∀ x ∈ bs, 0 ≤ x ∧ x < 256) (h : tkRef bs (i : Int) = .ok (r, j)) : Sm r.s ∧ rt r = true ∧ (i : Int) < j ∧ j ≤ bs.length := by
  unfold tkRef at h
  split at h
  · cases h
  rename_i hge
  split at h
  · cases h
  rename_i x1 h1
  split at h
  · cases h
  rename_i x2 h2
  split at h
  · cases h
  rename_i x3 h3
  split at h
  · rename_i hrt
    cases h
    have q1 := nm_ok hb h1
    have q2 := nm_ok hb h2
    have q3 := nm_ok hb h3
    have hs := sumA_ok (i := (i : Int).toNat) hb (by simp; omega)
    exact ⟨⟨hs.len, hs.byte⟩, hrt, by omega, by omega⟩
  · cases h
theorem wp_makeR {ops : Array Oper} {rest : List Oper} {o : Oper} {a : Act} {w : World} {Q : Exit → Act → World → Prop} (hgd : o.guard = none) (x y : Operand) (ho : o.op = .makeSlice 22 x y) (c : Nat) (hx : a.eval x = .int .i64 0) (hy : a.eval y = .int .i64 (c : Int)) (hc : c ≤ 64)
    (h : ∀ w', OwnE rc 35 28 w' w.heap.size (.slice (some ⟨w.heap.size, 0, none⟩) 0 c) [] → Chg [] w w' → wpList Try.prog ops Q rest (a.put o.dst (.slice (some ⟨w.heap.size, 0, none⟩) 0 c)) w') : wpList Try.prog ops Q (o :: rest) a w := by
  obtain ⟨i, z, hi, hz, hs, hb, hzs⟩ := eltR.info
  obtain ⟨w', hr, hown, hg⟩ := run_make_own (P := Try.prog) w w.heap.size 22 28 i z 35 Try.underlying22 hi hz hs .i64 .i64 c (by rw [hb]; omega) (by unfold maxLen; omega) (Nat.le_refl _)
  refine wpList_plain hgd fun K hK => ?_
  unfold Oper.wp execOp
  simp only [ho, hx, hy, Sem.run_bind, hr, Result.andThen_ok]
  exact hK _ _ (h w' ⟨by simpa [fl] using hown, fun x hx => by cases hx⟩ ⟨hg.os, hg.tape, hg.output, hg.size, fun k hk _ => hg.block k hk (fun e => by cases e)⟩)
/-- What all leaves. -/
def AllPost (w : World) (p : Nat) : Except Int (List Rf) → Ending → World → Prop
  | .error c, e, w' => e = .panicked (flt c) ∧ Chg [p] w w'
  | .ok L, e, w' => ∃ v, e = .returned v ∧ OwnE rc 35 28 w' w.heap.size v L ∧ (∀ r ∈ L, Sm r.s) ∧ Chg [p] w w'
section
variable {w : World}
set_option maxHeartbeats 4000000 in
set_option maxRecDepth 100000 in
theorem all_any {p : Nat} {v : Value} {bs : List Int} (hT : TkAt w p v 0) (hv : Oct.Bs w v bs) (hby : ∀ x ∈ bs, 0 ≤ x ∧ x < 256) (hl : bs.length ≤ 1000000000000000) (hne : 0 < bs.length → ∀ k, v.ownBlock = some k → k ∉ [p]) : Calls Try.prog 41 #[.pointer (some ⟨p, 0, none⟩)] w fun e w' => AllPost w p (takeF bs) e w' := by
  have HT := Hid.mk hT
  have HV := Hid.mk hv
  have Hq0 : Hid (p < w.heap.size) := ⟨hT.lt⟩
  have hv0 := hv
  obtain ⟨av, cv, rfl, _⟩ := hv
  obtain ⟨nb, Hnb⟩ : ∃ n, Hid (bs.length = n) := ⟨_, ⟨rfl⟩⟩
  have HN : Hid (0 < bs.length → ∀ k, (Value.slice av nb cv).ownBlock = some k → k ∉ [p]) := ⟨by rw [← Hnb.out]; exact hne⟩
  have HX : Hid (takeF bs = match nm bs 0 with
    | .error c => .error c
    | .ok x => if 64 < x.1 then .error 6 else match tkRefs bs x.1.toNat x.2 with
      | .error c => .error c
      | .ok y => if y.2 < bs.length then .error 4 else .ok y.1) := ⟨rfl⟩
  obtain ⟨X, HXe⟩ : ∃ X, Hid (takeF bs = X) := ⟨_, ⟨rfl⟩⟩
  rw [HXe.out] at HX ⊢
  cases h1 : nm bs 0 with
  | error c =>
    have t1 := num_no hT hv0 hby h1
    rw [h1] at HX
    have e := HX.out
    simp only at e
    subst e
    clear hT hv0 h1
    go_enter Try.func41, Try.ntmps41
    go_wp2_with fail
    refine t1.mono ?_
    rintro e w2 ⟨rfl, hc2⟩
    exact ⟨rfl, rfl, hc2.mono (by simp)⟩
  | ok x =>
    obtain ⟨n, i0⟩ := x
    have t1 := num_ok hT hv0 hby h1
    have hq := nm_ok hby h1
    rw [h1] at HX
    simp only at HX
    rw [Hnb.out] at HT HV t1 hl HX
    clear hT hv0 h1 hne
    by_cases h64 : 64 < n
    · rw [if_pos h64] at HX
      have e := HX.out
      subst e
      go_enter Try.func41, Try.ntmps41
      go_wp2_with (go_at_call 54; refine t1.mono ?_; rintro e w2 ⟨rfl, hT2, hc2⟩)
      exact ⟨rfl, rfl, hc2⟩
    · rw [if_neg h64] at HX
      obtain ⟨n0, rfl⟩ := Int.eq_ofNat_of_zero_le (show 0 ≤ n by omega)
      obtain ⟨j0, rfl⟩ := Int.eq_ofNat_of_zero_le (show 0 ≤ i0 by omega)
      have hn0 : n0 ≤ 64 := by omega
      have hn0z : ¬ (64 : Int) < (n0 : Int) := by omega
      have Hj0 : Hid (j0 ≤ nb) := ⟨by have := Hnb.out; omega⟩
      have HX2 : Hid (X = match tkRefs bs n0 (j0 : Int) with
        | .error c => .error c
        | .ok y => if y.2 < nb then .error 4 else .ok y.1) := ⟨HX.out⟩
      clear hq HX h64
      go_enter Try.func41, Try.ntmps41
      go_upto_region 2 with (go_at_call 54; refine t1.mono ?_; rintro e w2 ⟨rfl, hT2, hc2⟩)
      have HT2 := Hid.mk hT2
      have HC2 := Hid.mk hc2
      clear hT2 hc2 t1
      go_upto_region 5 with (refine wp_makeR rfl (.const (.int .i64 0)) (.tmp 10) rfl n0 rfl rfl hn0 ?_; intro w3 hO3 hG3)
      have HO3 : Hid (OwnE rc 35 28 w3 w.heap.size (.slice (some ⟨w2.heap.size, 0, none⟩) 0 n0) []) := ⟨OwnE.base hO3 HC2.out.size⟩
      have HT3 : Hid (TkAt w3 p (.slice av nb cv) (j0 : Int)) := ⟨HT2.out.far hG3 (by simp)⟩
      have HC3 : Hid (Chg [p] w w3) := ⟨HC2.out.trans (hG3.mono (by simp))⟩
      clear hO3 hG3 HT2 HC2
      go_wp2_with fail
      go_loopg [4, 13] n0 (fun gg s4 s13 wr => ∃ (kk : Nat) (A : List Rf) (i : Nat), kk ≤ n0 ∧ n0 - kk ≤ gg ∧ s13 = .int .i64 (kk : Int) ∧ A.length = kk ∧ Hid (OwnE rc 35 28 wr w.heap.size s4 A) ∧ Hid (∀ r ∈ A, Sm r.s) ∧ Hid (TkAt wr p (.slice av nb cv) (i : Int)) ∧ Hid (i ≤ nb) ∧ Hid (Chg [p] w wr) ∧ Hid (tkRefs bs n0 (j0 : Int) = cat A (tkRefs bs (n0 - kk) (i : Int))))
      case atStart => exact ⟨0, [], j0, Nat.zero_le _, by omega, rfl, rfl, HO3, ⟨by simp⟩, HT3, Hj0, HC3, ⟨by rw [Nat.sub_zero]; cases tkRefs bs n0 (j0 : Int) <;> rfl⟩⟩
      case round =>
        clear HO3 HT3 HC3
        obtain ⟨kk, A, i, hkk, hgg, rfl, hA, HO, HS, HTr, Hi, HC, HF⟩ := hrel
        have HAl := Hid.mk hA
        obtain ⟨a4, c4, e4, _⟩ := (HO.out.rd r0).shape
        subst e4
        rw [HAl.out] at HO ⊢
        clear hA
        have HVr : Hid (Oct.Bs wr (.slice av nb cv) bs) := ⟨bs_far HV.out HC.out HN.out⟩
        have Hbw : Hid (w.heap.size ≤ wr.heap.size) := ⟨HC.out.size⟩
        by_cases hlt : kk < n0
        · have hltz : (kk : Int) < (n0 : Int) := by omega
          have Hsub : Hid (n0 - kk = (n0 - (kk + 1)) + 1) := ⟨by omega⟩
          rw [Hsub.out] at HF
          have Hne : Hid (0 < bs.length → ∀ k, (Value.slice av nb cv).ownBlock = some k → k ∉ [p]) := HN
          cases h2 : tkRef bs (i : Int) with
          | error c =>
            have t2 := ref_no HTr.out HVr.out hby (by rw [Hnb.out]; exact Hi.out) (by rw [Hnb.out]; exact hl) Hne.out h2
            rw [cat_no h2] at HF
            rw [HF.out] at HX2
            have e := HX2.out
            simp only at e
            subst e
            go_wp2_with fail
            refine t2.mono ?_
            rintro e w5 ⟨rfl, hc5⟩
            exact ⟨rfl, rfl, HC.out.trans hc5⟩
          | ok x =>
            obtain ⟨r, j⟩ := x
            have t2 := ref_ok HTr.out HVr.out hby (by rw [Hnb.out]; exact Hi.out) (by rw [Hnb.out]; exact hl) Hne.out h2
            have hq := tkRef_ok hby h2
            rw [cat_step h2] at HF
            obtain ⟨j1, rfl⟩ := Int.eq_ofNat_of_zero_le (show 0 ≤ j by omega)
            have Hj1 : Hid (j1 ≤ nb) := ⟨by have := Hnb.out; omega⟩
            have Hsm : Hid (Sm r.s) := ⟨hq.1⟩
            clear hq h2
            go_wp2_with fail
            refine t2.mono ?_
            rintro e w5 ⟨rfl, hT5, hc5⟩
            have HT5 := Hid.mk hT5
            have HC5 : Hid (Chg [p] w w5) := ⟨HC.out.trans hc5⟩
            have HO5 : Hid (OwnE rc 35 28 w5 w.heap.size (.slice a4 kk c4) A) := ⟨HO.out.far hc5 (fun g hg => by have := (HO.out.lt g hg).1; simp; have := Hq0.out; omega)⟩
            have HBa : Hid (Below w5.heap.size w5 (w5.alloc (.cells (rc r).toArray 28))) := ⟨(Below.refl _ w5).alloc (Nat.le_refl _) _⟩
            have HR1 : Hid (RdE rc 35 r0 (w5.alloc (.cells (rc r).toArray 28)) (.slice (some ⟨w5.heap.size, 0, none⟩) 1 1) [r]) := ⟨rde_one w5 r (rc_len r Hsm.out) (rc_one' r) 28⟩
            have HO6 : Hid (OwnE rc 35 28 (w5.alloc (.cells (rc r).toArray 28)) w.heap.size (.slice a4 kk c4) A) := ⟨HO5.out.far (Chg.ofBelow (X := []) HBa.out) (by simp)⟩
            have Hsz : Hid ((rc r).toArray.size = 35) := ⟨by rw [List.size_toArray, rc_len r Hsm.out]⟩
            have Hbs : Hid (w.heap.size ≤ (w5.alloc (.cells (rc r).toArray 28)).heap.size) := ⟨by simp; have := HC5.out.size; omega⟩
            have HL1 : Hid ((A.length + [r].length) * 56 ≤ 140737488355328) := ⟨by rw [HAl.out]; simp; omega⟩
            have HL2 : Hid (A.length + [r].length ≤ maxLen) := ⟨by rw [HAl.out]; unfold maxLen; simp; omega⟩
            clear hT5 hc5 t2
            go_upto_region 8 with (first
              | (refine wp_sliceE eltR rfl (.tmp 17) rfl (rc r).toArray rfl Hsz.out (by decide) ?_)
              | (at_builtin; refine wp_appE eltR rfl (.tmp 15) (.tmp 18) rfl rfl HO6.out rfl HR1.out HL1.out HL2.out Hbs.out ?_; intro v7 w7 hO7 hG7 hV7))
            replace hG7 : Chg (ob (.slice a4 kk c4)) (w5.alloc (.cells (rc r).toArray 28)) w7 := hG7
            have HC7 : Hid (Chg [p] w w7) := ⟨(HC5.out.trans (Chg.ofBelow HBa.out)).thenNew hG7 (fun x hx => .inr (HO6.out.lt x hx).1)⟩
            have HT7 : Hid (TkAt w7 p (.slice av nb cv) (j1 : Int)) := ⟨(HT5.out.far (Chg.ofBelow (X := []) HBa.out) (by simp)).far hG7 (fun hm => by have := (HO6.out.lt p hm).1; have := Hq0.out; omega)⟩
            go_wp2_with fail
            go_roundg (n0 - (kk + 1))
            case measure => omega
            case rel => exact ⟨kk + 1, A ++ [r], j1, by omega, by omega, by go_num, by rw [List.length_append, HAl.out]; rfl, ⟨hO7⟩, ⟨fun x hx => (List.mem_append.1 hx).elim (HS.out x) (fun q => by simp at q; subst q; exact Hsm.out)⟩, HT7, Hj1, HC7, HF⟩
        · obtain rfl : kk = n0 := by omega
          rw [Nat.sub_self] at HF
          have HX3 : Hid (X = if (i : Int) < (nb : Int) then .error 4 else .ok A) := ⟨by rw [HX2.out, HF.out]; simp [tkRefs, cat]⟩
          have hS0 : (fun w' => w'.cell? ⟨p, 0, none⟩ = some (.slice av nb cv) ∧ w'.cell? ⟨p, 1, none⟩ = some (.int .i64 (i : Int))) wr.drew := ⟨HTr.out.c0, HTr.out.c1⟩
          have HCd : Hid (Chg [p] w wr.drew) := ⟨HC.out.drew⟩
          by_cases hend : (i : Int) < (nb : Int)
          · have e : X = .error 4 := by rw [HX3.out, if_pos hend]
            subst e
            go_upto_region 9 with fail
            refine wp_region_held_drew (S := (fun w' => w'.cell? ⟨p, 0, none⟩ = some (.slice av nb cv) ∧ w'.cell? ⟨p, 1, none⟩ = some (.int .i64 (i : Int)))) (by kernel_rfl) hS0 (fun hS => ?_)
            refine wpAnyH_take (i := 0) (v := .pointer (some ⟨p, 0, none⟩)) rfl (by kernel_rfl) (by kernel_rfl) (by kernel_rfl) (fun _ _ _ h => h) (Or.inl ⟨by kernel_rfl, fun _ _ => by kernel_rfl⟩) hS ?_
            refine wpAnyH_take (i := 1) (v := .pointer (some ⟨p, 0, none⟩)) rfl (by kernel_rfl) (by kernel_rfl) (by kernel_rfl) (fun _ _ _ h => h) (Or.inl ⟨by kernel_rfl, fun wx hx => by go_simp⟩) hS ?_
            refine wpAnyH_take (i := 2) (v := .pointer (some ⟨p, 1, none⟩)) rfl (by kernel_rfl) (by kernel_rfl) (by kernel_rfl) (fun _ _ _ h => h) (Or.inl ⟨by kernel_rfl, fun wx hx => by go_simp⟩) hS ?_
            refine wpAnyH_take (i := 3) (v := .int .i64 (i : Int)) rfl (by kernel_rfl) (by kernel_rfl) (by kernel_rfl) (fun _ _ _ h => h) (Or.inl ⟨by kernel_rfl, fun wx hx => by obtain ⟨hx1, hx2⟩ := hx; go_simp⟩) hS ?_
            refine wpAnyH_take (i := 4) (v := .pointer (some ⟨p, 0, none⟩)) rfl (by kernel_rfl) (by kernel_rfl) (by kernel_rfl) (fun _ _ _ h => h) (Or.inl ⟨by kernel_rfl, fun _ _ => by kernel_rfl⟩) hS ?_
            refine wpAnyH_take (i := 5) (v := .pointer (some ⟨p, 0, none⟩)) rfl (by kernel_rfl) (by kernel_rfl) (by kernel_rfl) (fun _ _ _ h => h) (Or.inl ⟨by kernel_rfl, fun wx hx => by go_simp⟩) hS ?_
            refine wpAnyH_take (i := 6) (v := .pointer (some ⟨p, 0, none⟩)) rfl (by kernel_rfl) (by kernel_rfl) (by kernel_rfl) (fun _ _ _ h => h) (Or.inl ⟨by kernel_rfl, fun wx hx => by go_simp⟩) hS ?_
            refine wpAnyH_take (i := 7) (v := .slice av nb cv) rfl (by kernel_rfl) (by kernel_rfl) (by kernel_rfl) (fun _ _ _ h => h) (Or.inl ⟨by kernel_rfl, fun wx hx => by obtain ⟨hx1, hx2⟩ := hx; go_simp⟩) hS ?_
            refine wpAnyH_take (i := 8) (v := .int .i64 (nb : Int)) rfl (by kernel_rfl) (by kernel_rfl) (by kernel_rfl) (fun _ _ _ h => h) (Or.inl ⟨by kernel_rfl, fun wx hx => by go_simp⟩) hS ?_
            refine wpAnyH_take (i := 9) (v := .bool true) rfl (by kernel_rfl) (by kernel_rfl) (by kernel_rfl) (fun _ _ _ h => h) (Or.inl ⟨by kernel_rfl, fun wx hx => by go_simp⟩) hS ?_
            refine wpAnyH_done (by kernel_rfl) ?_ _
            clear hS hS0
            go_simp
            go_wp2_with fail
            exact ⟨rfl, rfl, HCd.out⟩
          · have e : X = .ok A := by rw [HX3.out, if_neg hend]
            subst e
            go_upto_region 9 with fail
            refine wp_region_held_drew (S := (fun w' => w'.cell? ⟨p, 0, none⟩ = some (.slice av nb cv) ∧ w'.cell? ⟨p, 1, none⟩ = some (.int .i64 (i : Int)))) (by kernel_rfl) hS0 (fun hS => ?_)
            refine wpAnyH_take (i := 0) (v := .pointer (some ⟨p, 0, none⟩)) rfl (by kernel_rfl) (by kernel_rfl) (by kernel_rfl) (fun _ _ _ h => h) (Or.inl ⟨by kernel_rfl, fun _ _ => by kernel_rfl⟩) hS ?_
            refine wpAnyH_take (i := 1) (v := .pointer (some ⟨p, 0, none⟩)) rfl (by kernel_rfl) (by kernel_rfl) (by kernel_rfl) (fun _ _ _ h => h) (Or.inl ⟨by kernel_rfl, fun wx hx => by go_simp⟩) hS ?_
            refine wpAnyH_take (i := 2) (v := .pointer (some ⟨p, 1, none⟩)) rfl (by kernel_rfl) (by kernel_rfl) (by kernel_rfl) (fun _ _ _ h => h) (Or.inl ⟨by kernel_rfl, fun wx hx => by go_simp⟩) hS ?_
            refine wpAnyH_take (i := 3) (v := .int .i64 (i : Int)) rfl (by kernel_rfl) (by kernel_rfl) (by kernel_rfl) (fun _ _ _ h => h) (Or.inl ⟨by kernel_rfl, fun wx hx => by obtain ⟨hx1, hx2⟩ := hx; go_simp⟩) hS ?_
            refine wpAnyH_take (i := 4) (v := .pointer (some ⟨p, 0, none⟩)) rfl (by kernel_rfl) (by kernel_rfl) (by kernel_rfl) (fun _ _ _ h => h) (Or.inl ⟨by kernel_rfl, fun _ _ => by kernel_rfl⟩) hS ?_
            refine wpAnyH_take (i := 5) (v := .pointer (some ⟨p, 0, none⟩)) rfl (by kernel_rfl) (by kernel_rfl) (by kernel_rfl) (fun _ _ _ h => h) (Or.inl ⟨by kernel_rfl, fun wx hx => by go_simp⟩) hS ?_
            refine wpAnyH_take (i := 6) (v := .pointer (some ⟨p, 0, none⟩)) rfl (by kernel_rfl) (by kernel_rfl) (by kernel_rfl) (fun _ _ _ h => h) (Or.inl ⟨by kernel_rfl, fun wx hx => by go_simp⟩) hS ?_
            refine wpAnyH_take (i := 7) (v := .slice av nb cv) rfl (by kernel_rfl) (by kernel_rfl) (by kernel_rfl) (fun _ _ _ h => h) (Or.inl ⟨by kernel_rfl, fun wx hx => by obtain ⟨hx1, hx2⟩ := hx; go_simp⟩) hS ?_
            refine wpAnyH_take (i := 8) (v := .int .i64 (nb : Int)) rfl (by kernel_rfl) (by kernel_rfl) (by kernel_rfl) (fun _ _ _ h => h) (Or.inl ⟨by kernel_rfl, fun wx hx => by go_simp⟩) hS ?_
            refine wpAnyH_take (i := 9) (v := .bool false) rfl (by kernel_rfl) (by kernel_rfl) (by kernel_rfl) (fun _ _ _ h => h) (Or.inl ⟨by kernel_rfl, fun wx hx => by go_simp⟩) hS ?_
            refine wpAnyH_done (by kernel_rfl) ?_ _
            clear hS hS0
            go_simp
            go_wp2_with fail
            go_ret
            exact ⟨_, rfl, HO.out.far (Chg.refl [] wr).drew (by simp), HS.out, HCd.out⟩
end
end Go.Proofs.Ytiloclekhddkfaa
