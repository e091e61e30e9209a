/- The program's Choose. -/
import Derived.Test.YtjcojpddjhjhbaaC11
import Derived.Test.YtjcojpddjhjhbaaIntsE
namespace Go.Proofs.Ytjcojpddjhjhbaa
open Go.RowKit Go.Lib Go.Shelf

/-- In order. -/
def Ord (S : List Sh) : Prop := S.Pairwise fun x y => shl y x = false
/-- The least ones, taken out of a heap one by one. -/
theorem ord_snoc {D : List Sh} {x : Sh} (h : Ord D) (hx : ∀ s ∈ D, shl x s = false) : Ord (D ++ [x]) := by
  unfold Ord at *
  rw [List.pairwise_append]
  exact ⟨h, by simp, fun a ha b hb => by simp at hb; subst hb; exact hx a ha⟩
theorem ord_ex {T : List Sh} (h : AllRt T) : ∃ T', T'.Perm T ∧ Ord T' := by
  obtain ⟨k, _, hk⟩ := key
  let le : Sh → Sh → Bool := fun x y => decide (¬ ((k y).1 < (k x).1 ∨ ((k y).1 = (k x).1 ∧ (k y).2 < (k x).2)))
  have hp := List.mergeSort_perm T le
  refine ⟨T.mergeSort le, hp, ?_⟩
  have hs := List.pairwise_mergeSort (le := le) (fun a b c h1 h2 => by simp only [le, decide_eq_true_eq] at *; omega) (fun a b => by simp only [le, Bool.or_eq_true, decide_eq_true_eq]; omega) T
  refine hs.imp_of_mem (fun {x y} hx hy hxy => ?_)
  rw [← Bool.not_eq_true, hk y x (h y (hp.mem_iff.1 hy)) (h x (hp.mem_iff.1 hx))]
  simp only [le, decide_eq_true_eq] at hxy
  exact hxy
theorem filter_snoc {L : List Sh} {q : Sh → Bool} {i : Nat} (hi : i < L.length) : (L.take (i + 1)).filter q = (L.take i).filter q ++ (if q (L.getD i s0) = true then [L.getD i s0] else []) := by
  rw [List.take_add_one, List.getElem?_eq_getElem hi, List.filter_append]
  simp only [Option.toList_some, List.getD, List.getElem?_eq_getElem hi, Option.getD_some]
  by_cases h : q L[i] = true <;> simp [h]
theorem owni_apart {w : World} {base b base' : Nat} {v sl : Value} {l : List Int} {T : List Sh} (h : OwnI w base v l) (hX : Box w b base' sl T) : ∀ g ∈ ob v, g ∉ b :: ob sl := fun g hg hm => by
  have h1 : Ty w 3 g := own_ty h (mem_ob.1 hg)
  rcases List.mem_cons.1 hm with rfl | hm
  · exact h1.ne (f := 56) ⟨_, hX.box⟩ (by decide) rfl
  · exact h1.ne (hX.own.ty g hm) (by decide) rfl
theorem fld27 (W : World) (x1 x2 x3 : Int) : (Instr.field 27 (.agg #[.int .i64 x1, .int .i64 x2, .int .i64 x3]) 0).run Try.prog W = .ok (.int .i64 x1) W := by kernel_rfl
section
variable {w : World}
set_option maxHeartbeats 16000000 in
set_option maxRecDepth 100000 in
theorem choose_no (v : Value) (L : List Sh) (h : RdE sh3 3 s0 w v L) (hL : L.length ≤ 5864062014700) (p most : Int) (hbad : p < 0 ∨ 100 < p ∨ most < 0 ∨ L.any shw = true) :
    Calls Try.prog 13 #[v, .int .i64 p, .int .i64 most] w fun e w' => e = .returned (.tuple #[.slice none 0 0, .int .i64 2]) ∧ Below w.heap.size w w' := by
  have t1 := wrong_any v L h (by omega)
  obtain ⟨a, c, rfl, h1, h2, h3⟩ := h.shape
  clear h
  by_cases p0 : p < 0
  · go_enter Try.func13, Try.ntmps13
    go_wp2_with fail
    go_ret2
    exact ⟨rfl, Below.refl _ _⟩
  · by_cases p1 : 100 < p
    · go_enter Try.func13, Try.ntmps13
      go_wp2_with fail
      go_ret2
      exact ⟨rfl, Below.refl _ _⟩
    · by_cases p2 : most < 0
      · go_enter Try.func13, Try.ntmps13
        go_wp2_with fail
        go_ret2
        exact ⟨rfl, Below.refl _ _⟩
      · have p3 : L.any shw = true := by
          rcases hbad with h | h | h | h
          · exact absurd h p0
          · exact absurd h p1
          · exact absurd h p2
          · exact h
        rw [p3] at t1
        clear hbad p3
        go_enter Try.func13, Try.ntmps13
        go_wp2_with fail
        refine t1.mono ?_
        rintro e w1 ⟨rfl, hB1⟩
        have HB1 := Hid.mk hB1
        clear t1 hB1
        go_wp2_with fail
        go_ret2
        exact ⟨rfl, HB1.out⟩
set_option maxHeartbeats 16000000 in
set_option maxRecDepth 100000 in
theorem choose_yes (v : Value) (L : List Sh) (h : RdE sh3 3 s0 w v L) (hL : L.length ≤ 5864062014700) (p most : Int) (hp : 0 ≤ p ∧ p ≤ 100) (hm : 0 ≤ most) (hr : AllRt L) :
    Calls Try.prog 13 #[v, .int .i64 p, .int .i64 most] w fun e w' => ∃ x, e = .returned (.tuple #[x, .int .i64 0]) ∧ ∃ S, S.Perm (L.filter (low p)) ∧ Ord S ∧ RdI w' x ((S.map (·.1)).take most.toNat) ∧ Below w.heap.size w w' := by
  have t1 := wrong_any v L h (by omega)
  have hf : L.any shw = false := by
    rw [List.any_eq_false]
    intro s hs
    rw [(shw_rt s).2 (hr s hs)]
    simp
  rw [hf] at t1
  have H := Hid.mk h
  have HR := Hid.mk hr
  obtain ⟨a, c, rfl, hlc, hcm, _⟩ := h.shape
  obtain ⟨n, Hn⟩ : ∃ n, Hid (L.length = n) := ⟨_, ⟨rfl⟩⟩
  rw [Hn.out] at t1 H hL hlc ⊢
  have hcx : c ≤ 9223372036854775807 := hcm
  have p0 : ¬ p < 0 := by omega
  have p1 : ¬ 100 < p := by omega
  have p2 : ¬ most < 0 := by omega
  have HTe : Hid (L.take n = L) := ⟨List.take_of_length_le (by rw [Hn.out]; exact Nat.le_refl _)⟩
  clear h hr hf
  go_enter Try.func13, Try.ntmps13
  go_upto_region 5 with (refine t1.mono ?_; rintro e w1 ⟨rfl, hB1⟩; have HB1 := Hid.mk hB1; clear t1 hB1)
  obtain ⟨b, Hb⟩ : ∃ x, Hid (w1.heap.size = x) := ⟨_, ⟨rfl⟩⟩
  obtain ⟨w2, Hw2⟩ : ∃ x, Hid (w1.alloc (.cells #[.slice none 0 0] 56) = x) := ⟨_, ⟨rfl⟩⟩
  have HB2 : Hid (Below w.heap.size w w2) := ⟨by rw [← Hw2.out]; exact HB1.out.alloc HB1.out.size _⟩
  have HX2 : Hid (Box w2 b w.heap.size (.slice none 0 0) []) := ⟨⟨by rw [← Hw2.out, ← Hb.out]; exact heap_alloc_new w1 _, OwnE.nil sh3 3 27 _ _⟩⟩
  have Hbw : Hid (w.heap.size ≤ b) := ⟨by rw [← Hb.out]; exact HB1.out.size⟩
  clear HB1
  go_upto_region 7 with fail
  rw [Hw2.out, Hb.out]
  go_loopg [10, 26] n (fun gg _ s26 wr => ∃ i : Nat, ∃ T : List Sh, ∃ sl : Value, i ≤ n ∧ n - i ≤ gg ∧ s26 = .int .i64 (i : Int) ∧ Hid (Box wr b w.heap.size sl T) ∧ Hid (T.Perm ((L.take i).filter (low p))) ∧ Hid (Heap T T.length) ∧ Hid (Below w.heap.size w wr))
  case atStart => exact ⟨0, [], _, Nat.zero_le _, by omega, rfl, HX2, ⟨by simp⟩, ⟨fun k _ hk => by simp at hk⟩, HB2⟩
  case round =>
    clear HX2 HB2
    obtain ⟨i, T, sl, hi, hgg, rfl, HX, HP, HH, HB⟩ := hrel
    rename World => wo
    have HTr : Hid (AllRt T) := ⟨fun s hs => HR.out s (List.mem_of_mem_take (List.mem_filter.1 (HP.out.mem_iff.1 hs)).1)⟩
    have HTl : Hid (T.length ≤ i) := ⟨by rw [HP.out.length_eq]; refine Nat.le_trans (List.length_filter_le _ _) ?_; rw [List.length_take]; omega⟩
    by_cases hlt : i < n
    · have hltz : (i : Int) < (n : Int) := by omega
      have hiL : i < L.length := by rw [Hn.out]; exact hlt
      obtain ⟨g, off, cap, e, hc⟩ := (H.out.far (Chg.ofBelow (X := []) HB.out) (by simp)).at' i hiL
      rw [Hn.out] at e
      simp at e
      obtain ⟨rfl, rfl⟩ := e
      have HFs := Hid.mk (filter_snoc (q := low p) hiL)
      have hrx := HR.out _ (getD_mem' (d := s0) hiL)
      generalize L.getD i s0 = x at hc HFs hrx
      obtain ⟨x1, x2, x3⟩ := x
      have c0 := hc 0 (by decide)
      have c1 := hc 1 (by decide)
      have c2 := hc 2 (by decide)
      clear hc
      simp [sh3] at c0 c1 c2
      obtain ⟨w3, Hw3⟩ : ∃ x, Hid (wo.alloc (.cells #[.int .i64 x1, .int .i64 x2, .int .i64 x3] 27) = x) := ⟨_, ⟨rfl⟩⟩
      have HB3 : Hid (Below wo.heap.size wo w3) := ⟨by rw [← Hw3.out]; exact (Below.refl _ wo).alloc (Nat.le_refl _) _⟩
      have HS3 : Hid (w3.heap[wo.heap.size]? = some (.cells #[.int .i64 x1, .int .i64 x2, .int .i64 x3] 27 (0, 0))) := ⟨by rw [← Hw3.out]; exact heap_alloc_new wo _⟩
      have t3 := low23 (w := w3) x1 x2 x3 p hrx hp
      obtain ⟨y, Hy⟩ : ∃ y, Hid (low p (x1, x2, x3) = y) := ⟨_, ⟨rfl⟩⟩
      rw [Hy.out] at t3 HFs
      have Hrx := Hid.mk hrx
      clear hrx
      obtain ⟨q, Hq⟩ : ∃ x, Hid (wo.heap.size = x) := ⟨_, ⟨rfl⟩⟩
      rw [Hq.out] at HS3
      go_upto_region 9 with fail
      rw [Hw3.out, Hq.out]
      have d0 : w3.cell? ⟨q, 0, none⟩ = some (.int .i64 x1) := by rw [cell_of_row _ _ _ _ _ _ HS3.out]; rfl
      have d1 : w3.cell? ⟨q, 1, none⟩ = some (.int .i64 x2) := by rw [cell_of_row _ _ _ _ _ _ HS3.out]; rfl
      have d2 : w3.cell? ⟨q, 2, none⟩ = some (.int .i64 x3) := by rw [cell_of_row _ _ _ _ _ _ HS3.out]; rfl
      clear c0 c1 c2
      cases y with
      | false =>
        have HFn : Hid ((L.take (i + 1)).filter (low p) = (L.take i).filter (low p)) := ⟨by rw [HFs.out]; simp⟩
        go_wp2_with fail
        refine t3.mono ?_
        rintro e w4 ⟨rfl, hB4⟩
        have HB4 : Hid (Below wo.heap.size wo w4) := ⟨HB3.out.trans (hB4.mono HB3.out.size)⟩
        clear t3 hB4 d0 d1 d2
        go_wp2_with fail
        go_roundg (n - (i + 1))
        case measure => omega
        case rel => exact ⟨i + 1, T, sl, by omega, by omega, by go_num, ⟨HX.out.far (Chg.ofBelow (X := []) HB4.out) (by simp) (by simp)⟩, ⟨by rw [HFn.out]; exact HP.out⟩, HH, ⟨HB.out.trans (HB4.out.mono HB.out.size)⟩⟩
      | true =>
        have HFn : Hid ((L.take (i + 1)).filter (low p) = (L.take i).filter (low p) ++ [(x1, x2, x3)]) := ⟨by rw [HFs.out]; simp⟩
        go_wp2_with fail
        refine t3.mono ?_
        rintro e w4 ⟨rfl, hB4⟩
        have HB4 : Hid (Below wo.heap.size wo w4) := ⟨HB3.out.trans (hB4.mono HB3.out.size)⟩
        have HS4 : Hid (w4.heap[q]? = some (.cells #[.int .i64 x1, .int .i64 x2, .int .i64 x3] 27 (0, 0))) := ⟨(hB4.block q (Array.getElem?_eq_some_iff.1 HS3.out).1).trans HS3.out⟩
        have HX4 : Hid (Box w4 b w.heap.size sl T) := ⟨HX.out.far (Chg.ofBelow (X := []) HB4.out) (by simp) (by simp)⟩
        have HB04 : Hid (Below w.heap.size w w4) := ⟨HB.out.trans (HB4.out.mono HB.out.size)⟩
        have e0 : w4.cell? ⟨q, 0, none⟩ = some (.int .i64 x1) := by rw [cell_of_row _ _ _ _ _ _ HS4.out]; rfl
        have e1 : w4.cell? ⟨q, 1, none⟩ = some (.int .i64 x2) := by rw [cell_of_row _ _ _ _ _ _ HS4.out]; rfl
        have e2 : w4.cell? ⟨q, 2, none⟩ = some (.int .i64 x3) := by rw [cell_of_row _ _ _ _ _ _ HS4.out]; rfl
        have t5 := push24 HX4.out (by have := HTl.out; omega) HB04.out.size Hbw.out HTr.out HH.out x1 x2 x3 Hrx.out
        clear t3 hB4 d0 d1 d2
        go_wp2_with fail
        refine t5.mono ?_
        rintro e w5 ⟨rfl, sl5, T5, hX5, hP5, hH5, hB5⟩
        have HX5 := Hid.mk hX5
        have HP5 : Hid (T5.Perm ((L.take (i + 1)).filter (low p))) := ⟨by rw [HFn.out]; exact hP5.trans (HP.out.append_right _)⟩
        have HH5 := Hid.mk hH5
        have HB5 : Hid (Below w.heap.size w w5) := ⟨HB04.out.trans hB5⟩
        clear t5 hX5 hP5 hH5 hB5 e0 e1 e2
        go_wp2_with fail
        go_roundg (n - (i + 1))
        case measure => omega
        case rel => exact ⟨i + 1, T5, sl5, by omega, by omega, by go_num, HX5, HP5, HH5, HB5⟩
    · obtain rfl : n = i := by omega
      rw [HTe.out] at HP
      obtain ⟨F, HF⟩ : ∃ F, Hid (L.filter (low p) = F) := ⟨_, ⟨rfl⟩⟩
      rw [HF.out] at HP
      have HFl : Hid (F.length ≤ n) := ⟨by rw [← HP.out.length_eq]; exact HTl.out⟩
      have HFr : Hid (AllRt F) := ⟨fun s hs => HTr.out s (HP.out.mem_iff.2 hs)⟩
      go_upto_region 13 with fail
      obtain ⟨ww, Hww⟩ : ∃ x, Hid (wo = x) := ⟨_, ⟨rfl⟩⟩
      rw [Hww.out] at HX HB ⊢
      clear Hww
      go_loopg [11] n (fun gg s11 wr => ∃ D : List Sh, ∃ T : List Sh, ∃ sl : Value, T.length ≤ gg ∧ Hid (OwnI wr w.heap.size s11 (D.map (·.1))) ∧ Hid (Box wr b w.heap.size sl T) ∧ Hid ((D ++ T).Perm F) ∧ Hid (Heap T T.length) ∧ Hid (Ord D) ∧ Hid (∀ d ∈ D, ∀ t ∈ T, shl t d = false) ∧ Hid ((D.length : Int) ≤ most) ∧ Hid (Below w.heap.size w wr))
      case atStart => exact ⟨[], T, sl, by have := HTl.out; omega, ⟨owni_nil _ _⟩, HX, ⟨by simpa using HP.out⟩, HH, ⟨List.Pairwise.nil⟩, ⟨by simp⟩, ⟨by simpa using hm⟩, HB⟩
      case round =>
        clear HX HB HP HH HTr HTl
        obtain ⟨D, T, sl, hgg, HO, HX, HP, HH, HD, HDT, HDm, HB⟩ := hrel
        rename World => wk
        have HTr : Hid (AllRt T) := ⟨fun s hs => HFr.out s (HP.out.mem_iff.1 (List.mem_append_right _ hs))⟩
        have Hsum : Hid (D.length + T.length ≤ n) := ⟨by have := HP.out.length_eq; rw [List.length_append] at this; have := HFl.out; omega⟩
        obtain ⟨a1, k1, e1, _⟩ := HO.out.shape
        subst e1
        obtain ⟨a2, k2, e2, _⟩ := (HX.out.own.rd s0).shape
        subst e2
        obtain ⟨dn, Hdn⟩ : ∃ x, Hid ((D.map (·.1)).length = x) := ⟨_, ⟨rfl⟩⟩
        have HdnD : Hid (D.length = dn) := ⟨by rw [← Hdn.out, List.length_map]⟩
        rw [Hdn.out] at HO ⊢
        obtain ⟨tn, Htn⟩ : ∃ x, Hid (T.length = x) := ⟨_, ⟨rfl⟩⟩
        rw [Htn.out] at HX hgg Hsum
        rw [HdnD.out] at HDm Hsum
        have hdn : dn ≤ 5864062014700 := by have := Hsum.out; omega
        have htn : tn ≤ 5864062014700 := by have := Hsum.out; omega
        have kb := HX.out.cell
        by_cases h0 : tn = 0
        · have h0z : ¬ (0 : Int) < (tn : Int) := by omega
          have HS : Hid (∃ S, S.Perm F ∧ Ord S ∧ (S.map (·.1)).take most.toNat = D.map (·.1)) := ⟨by
            have hT : T = [] := List.length_eq_zero_iff.1 (by rw [Htn.out]; exact h0)
            have hPP := HP.out
            rw [hT, List.append_nil] at hPP
            refine ⟨D, hPP, HD.out, ?_⟩
            rw [List.take_of_length_le (by have := HDm.out; rw [Hdn.out]; omega)]⟩
          have HRd : Hid (RdI wk (.slice a1 dn k1) (D.map (·.1))) := ⟨HO.out.rd⟩
          clear h0
          go_wp2_with fail
          go_ret2
          obtain ⟨S, s1, s2, s3⟩ := HS.out
          exact ⟨_, rfl, S, by rw [HF.out]; exact s1, s2, by rw [s3]; exact HRd.out, HB.out⟩
        · have h0z : (0 : Int) < (tn : Int) := by omega
          by_cases hmm : (dn : Int) < most
          · obtain ⟨j, Hj⟩ : ∃ j, Hid (tn = j + 1) := ⟨tn - 1, ⟨by omega⟩⟩
            have t6 := least25 HX.out (n := j) (by rw [Htn.out]; exact Hj.out) (by rw [Htn.out]; omega) HTr.out (by rw [Htn.out]; have := HH.out; rw [Htn.out] at this; exact this)
            go_wp2_with fail
            refine t6.mono ?_
            rintro e w6 ⟨x1, x2, x3, rfl, sl6, T6, hX6, hP6, hM6, hH6, hI6, hG6⟩
            have HX6 := Hid.mk hX6
            have HH6 := Hid.mk hH6
            have Hl6 : Hid (T6.length + 1 = tn) := ⟨by have := hP6.length_eq; rw [Htn.out] at this; simp at this; omega⟩
            have HO6 : Hid (OwnI w6 w.heap.size (.slice a1 dn k1) (D.map (·.1))) := ⟨own_far HO.out hG6 (fun g hg => owni_apart HO.out HX.out g (mem_ob.2 hg))⟩
            have HB6 : Hid (Below w.heap.size w w6) := ⟨HB.out.trans (hG6.below HB.out.size (fun x hx => by
              rcases List.mem_cons.1 hx with rfl | hx
              · exact Hbw.out
              · exact (HX.out.own.lt x hx).1))⟩
            have HP6 : Hid (((D ++ [(x1, x2, x3)]) ++ T6).Perm F) := ⟨by rw [List.append_assoc]; exact (hP6.symm.append_left D).trans HP.out⟩
            have HD6 : Hid (Ord (D ++ [(x1, x2, x3)])) := ⟨ord_snoc HD.out (fun d hd => HDT.out d hd _ (hP6.mem_iff.2 (by simp)))⟩
            have HDT6 : Hid (∀ d ∈ D ++ [(x1, x2, x3)], ∀ t ∈ T6, shl t d = false) := ⟨fun d hd t ht => by
              have ht' : t ∈ T := hP6.mem_iff.2 (by simp [ht])
              rcases List.mem_append.1 hd with hd | hd
              · exact HDT.out d hd t ht'
              · simp at hd; subst hd; exact hM6 t ht'⟩
            have HDm6 : Hid (((D ++ [(x1, x2, x3)]).length : Int) ≤ most) := ⟨by rw [List.length_append, HdnD.out]; simp; omega⟩
            have HMp : Hid ((D ++ [(x1, x2, x3)]).map (·.1) = D.map (·.1) ++ [x1]) := ⟨by simp⟩
            have hl6 : (D.map (·.1)).length ≤ 6000000000000 := by rw [Hdn.out]; omega
            have hb6 : w.heap.size ≤ w6.heap.size := HB6.out.size
            have hfl := fld27 w6 x1 x2 x3
            clear t6 hX6 hP6 hM6 hH6 hI6 hG6 kb
            go_wp2_with (refine wp_appI1 rfl (.tmp 47) (.tmp 50) rfl rfl HO6.out rfl hl6 hb6 ?_; intro v7 w7 hO7 hG7 hV7)
            have HO7 : Hid (OwnI w7 w.heap.size v7 ((D ++ [(x1, x2, x3)]).map (·.1))) := ⟨by rw [HMp.out]; exact hO7⟩
            have HG7 : Hid (Chg (ob (.slice a1 dn k1)) w6 w7) := ⟨hG7⟩
            have HX7 : Hid (Box w7 b w.heap.size sl6 T6) := ⟨HX6.out.far HG7.out (fun hm => owni_apart HO6.out HX6.out b hm (by simp)) (fun g hg hm => owni_apart HO6.out HX6.out g hm (by simp [hg]))⟩
            have HB7 : Hid (Below w.heap.size w w7) := ⟨HB6.out.trans (HG7.out.below HB6.out.size (fun x hx => (HO6.out.lt x (mem_ob.1 hx)).1))⟩
            clear hO7 hG7 hV7
            go_roundg T6.length
            case measure => have := Hl6.out; omega
            case rel => exact ⟨D ++ [(x1, x2, x3)], T6, sl6, Nat.le_refl _, HO7, HX7, HP6, HH6, HD6, HDT6, HDm6, HB7⟩
          · have HS : Hid (∃ S, S.Perm F ∧ Ord S ∧ (S.map (·.1)).take most.toNat = D.map (·.1)) := ⟨by
              obtain ⟨T', hp', ho'⟩ := ord_ex HTr.out
              refine ⟨D ++ T', (hp'.append_left D).trans HP.out, ?_, ?_⟩
              · unfold Ord
                rw [List.pairwise_append]
                exact ⟨HD.out, ho', fun a ha t ht => HDT.out a ha t (hp'.mem_iff.1 ht)⟩
              · have hlen : D.length = most.toNat := by have := HDm.out; rw [HdnD.out]; omega
                rw [← hlen, List.map_append, show D.length = (D.map (·.1)).length by rw [List.length_map], List.take_left]⟩
            have HRd : Hid (RdI wk (.slice a1 dn k1) (D.map (·.1))) := ⟨HO.out.rd⟩
            go_wp2_with fail
            go_ret2
            obtain ⟨S, s1, s2, s3⟩ := HS.out
            exact ⟨_, rfl, S, by rw [HF.out]; exact s1, s2, by rw [s3]; exact HRd.out, HB.out⟩
end
end Go.Proofs.Ytjcojpddjhjhbaa
