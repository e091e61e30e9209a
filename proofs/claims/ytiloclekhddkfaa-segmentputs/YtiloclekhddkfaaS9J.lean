/- The document's Champions, over lists in whatever blocks. -/
import Derived.Test.YtiloclekhddkfaaListsJ
namespace Go.Proofs.Ytiloclekhddkfaa
open Go.RowKit Go.Lib Go.Shelf Go.Maps

theorem ownj_none (w : World) (S : Nat → Prop) : OwnJ (w.alloc (.cells #[] 39)) S w.heap.size (.slice (some ⟨w.heap.size, 0, none⟩) 0 0) [] :=
  ⟨[], ⟨rfl, .inr ⟨w.heap.size, 0, #[], rfl, Nat.le_refl _, heap_alloc_new w _, Nat.le_refl _, by decide, rfl, rfl⟩⟩, EachJ.nil _ _⟩
theorem OwnJ.base {w : World} {S : Nat → Prop} {base base' : Nat} {v : Value} {L : List (List Int)} (h : OwnJ w S base v L) (hb : base' ≤ base) : OwnJ w S base' v L := by
  obtain ⟨vs, q1, q2⟩ := h
  refine ⟨vs, ⟨q1.1, ?_⟩, q2⟩
  rcases q1.2 with q | ⟨g, cap, cur, e, hb', q⟩
  · exact .inl q
  · exact .inr ⟨g, cap, cur, e, Nat.le_trans hb hb', q⟩
theorem OwnJ.ge {w : World} {S : Nat → Prop} {base : Nat} {v : Value} {L : List (List Int)} (h : OwnJ w S base v L) : ∀ k ∈ ob v, base ≤ k ∧ k < w.heap.size := fun k hk => by obtain ⟨vs, q, _⟩ := h; exact q.lt k (mem_ob.1 hk)
theorem RowsJ.io {w : World} {S : Nat → Prop} {v : Value} {L : List (List Int)} (h : RowsJ w S v L) {i : Nat} (hi : i < L.length) : ∃ b off cap x m q, v = .slice (some ⟨b, off, none⟩) L.length cap ∧ w.cell? ⟨b, off + i, none⟩ = some (.slice x m q) ∧ IoJ w S (.slice x m q) (L.getD i []) := by
  obtain ⟨vs, h1, h2⟩ := h
  have hl := h2.1
  rcases h1.cases with ⟨rfl, _⟩ | ⟨_, b, off, cap, rfl, hc, _, hcell⟩
  · simp at hl; omega
  · obtain ⟨u, hu, hb⟩ := h2.2 i hi
    obtain ⟨x, q, e, _⟩ := hb.bs.shape
    subst e
    refine ⟨b, off, cap, x, _, q, by rw [hl], ?_, hb⟩
    exact (hcell i (by omega)).trans hu
section
variable {w : World}
set_option maxHeartbeats 4000000 in
set_option maxRecDepth 100000 in
theorem rchampsj_any (v : Value) (M : List (List Int)) (most : Int) (h : RowsJ w (fun k => k < w.heap.size) v M) (hs : Small M) : Calls Try.prog 21 #[v, .int .i64 most] w fun e w' => ∃ v', e = .returned v' ∧ ∃ C, RChamp (min most 8).toNat M C ∧ OwnI w' w.heap.size v' C ∧ Below w.heap.size w w' := by
  have HA := Hid.mk h
  have Hs := Hid.mk hs
  obtain ⟨av, cv, rfl, _⟩ := h.shape
  obtain ⟨nM, HnM⟩ : ∃ n, Hid (M.length = n) := ⟨_, ⟨rfl⟩⟩
  obtain ⟨lim, Hlim⟩ : ∃ l, Hid (min most 8 = l) := ⟨_, ⟨rfl⟩⟩
  have Hl8 : Hid (lim ≤ 8 ∧ (∀ k : Int, k < lim ↔ k < most ∧ k < 8)) := ⟨by rw [← Hlim.out]; omega, fun k => by rw [← Hlim.out]; omega⟩
  rw [Hlim.out]
  have HnL : M.length + 0 ≤ 1000000000000 := by have := hs.len; omega
  rw [HnM.out] at HA ⊢
  clear h hs
  have HO0 : Hid (OwnI (w.alloc (.cells #[] 3)) w.heap.size (.slice (some ⟨w.heap.size, 0, none⟩) 0 0) []) := ⟨owni_none w⟩
  go_enter Try.func21, Try.ntmps21
  go_upto_region 2 with fail
  obtain ⟨w1, Hw1⟩ : ∃ w1, Hid (w.alloc (.cells #[] 3) = w1) := ⟨_, ⟨rfl⟩⟩
  have HB1 : Hid (Below w.heap.size w w1) := ⟨by rw [← Hw1.out]; exact (Below.refl _ w).alloc (Nat.le_refl _) _⟩
  rw [Hw1.out] at HO0 ⊢
  have HE : Hid (OwnJ (w1.alloc (.cells #[] 39)) (fun k => k < w.heap.size) w1.heap.size (.slice (some ⟨w1.heap.size, 0, none⟩) 0 0) []) := ⟨ownj_none w1 _⟩
  have HR2 : Hid (RowsJ (w1.alloc (.cells #[] 39)) (fun k => k < w.heap.size) (.slice av nM cv) M) := ⟨(HA.out.far (Chg.ofBelow (X := []) HB1.out) (by simp) (by simp)).far (Chg.ofBelow (X := []) ((Below.refl _ w1).alloc (Nat.le_refl _) _)) (by simp) (by simp)⟩
  have Hsep : Hid (∀ k, (fun k => k < w.heap.size) k → k ∉ ob (.slice (some ⟨w1.heap.size, 0, none⟩) 0 0)) := ⟨fun k hk hm => by
    replace hk : k < w.heap.size := hk
    have hm2 := mem_ob.1 hm
    simp [Value.ownBlock] at hm2
    have := HB1.out.size
    omega⟩
  go_upto_region 3 with (at_builtin; refine wp_appJ rfl (.tmp 17) (.tmp 18) rfl rfl HE.out rfl HR2.out (by simp; omega) Hsep.out (by simp) ?_; intro v2 w2 hO2 hG2 hV2)
  replace hG2 : Chg (ob (.slice (some ⟨w1.heap.size, 0, none⟩) 0 0)) (w1.alloc (.cells #[] 39)) w2 := hG2
  have HOC : Hid (OwnI w2 w.heap.size (.slice (some ⟨w.heap.size, 0, none⟩) 0 0) []) := ⟨own_far (own_far HO0.out (Chg.ofBelow (X := []) ((Below.refl _ w1).alloc (Nat.le_refl _) _)) (by simp)) hG2 (fun k hk hX => by
    simp [ob, Value.ownBlock] at hX hk
    have : w1.heap.size = w.heap.size + 1 := by rw [← Hw1.out]; simp
    omega)⟩
  have HB2 : Hid (Below w.heap.size w w2) := ⟨(HB1.out.trans (((Below.refl _ w1).alloc (Nat.le_refl _) _).mono HB1.out.size)).trans (hG2.below (by simp; have := HB1.out.size; omega) (fun x hx => by simp [ob, Value.ownBlock] at hx; have := HB1.out.size; omega))⟩
  have HOL : Hid (OwnJ w2 (fun k => k < w.heap.size) w.heap.size v2 M) := ⟨by
    obtain ⟨vs, q1, q2⟩ := hO2
    refine ⟨vs, ⟨q1.1, ?_⟩, q2⟩
    rcases q1.2 with q | ⟨g, cap, cur, e, hb, q⟩
    · exact .inl q
    · exact .inr ⟨g, cap, cur, e, Nat.le_trans HB1.out.size hb, q⟩⟩
  clear hO2 hG2 hV2 HE HR2 HO0
  go_wp2_with fail
  go_loopg [5, 6, 7, 8, 9, 10, 11, 12, 13, 14, 15] 8 (fun gg s5 s6 _ _ _ _ _ _ _ _ _ wr => ∃ (N : List (List Int)) (C : List Int), 8 - C.length ≤ gg ∧ (C.length : Int) ≤ max lim 0 ∧ Hid (Small N) ∧ Hid (∀ C', RChamp (lim.toNat - C.length) N C' → RChamp lim.toNat M (C ++ C')) ∧ Hid (OwnJ wr (fun k => k < w.heap.size) w.heap.size s6 N) ∧ Hid (OwnI wr w.heap.size s5 C) ∧ Hid (Below w.heap.size w wr))
  case atStart => exact ⟨M, [], by simp, by simp; omega, Hs, ⟨fun C' h => by simpa using h⟩, HOL, HOC, HB2⟩
  case round =>
    clear HOC HOL
    obtain ⟨N, C, hgg, hCl, HsN, HCh, HO, HC, HB⟩ := hrel
    obtain ⟨a6, c6, e6, _⟩ := HO.out.rows.shape
    subst e6
    obtain ⟨a5, c5, e5, _⟩ := HC.out.shape
    subst e5
    obtain ⟨nN, HnN⟩ : ∃ n, Hid (N.length = n) := ⟨_, ⟨rfl⟩⟩
    obtain ⟨nC, HnC⟩ : ∃ n, Hid (C.length = n) := ⟨_, ⟨rfl⟩⟩
    have HAr := Hid.mk HO.out.arg
    have hnN := HsN.out.len
    rw [HnC.out] at hgg hCl HCh HC ⊢
    rw [HnN.out] at HO HAr hnN ⊢
    obtain ⟨W, eW⟩ : ∃ x, x = wr := ⟨_, rfl⟩
    subst eW
    by_cases hlt : (nC : Int) < lim
    · have hq := (Hl8.out.2 nC).1 hlt
      have hq1 := hq.1
      have hq2 := hq.2
      go_wp2_with fail
      go_loopg [7, 8, 9, 10, 11, 12, 13] nN (fun gg s7 s8 s9 _ _ _ _ wq => ∃ (i : Nat) (f : Bool) (t : Int), i ≤ nN ∧ nN - i ≤ gg ∧ s9 = .int .i64 (i : Int) ∧ s7 = .bool f ∧ s8 = .int .i64 t ∧ Hid (RT N (N.take i).flatten f t) ∧ W = wq)
      case atStart => exact ⟨0, false, 0, Nat.zero_le _, by omega, rfl, rfl, rfl, ⟨⟨fun _ => by simp, fun q => by cases q⟩⟩, rfl⟩
      case round =>
        obtain ⟨i, f, t, hi, hgi, rfl, rfl, rfl, HT, rfl⟩ := hrel
        by_cases hil : i < nN
        · have hilz : (i : Int) < (nN : Int) := by omega
          have hiL : i < N.length := by rw [HnN.out]; exact hil
          obtain ⟨b1, o1, c1, x1, m1, z1, e1, d1, y1⟩ := HAr.out.at' i hiL
          rw [HnN.out] at e1
          simp at e1
          obtain ⟨rfl, rfl⟩ := e1
          obtain ⟨li, Hli⟩ : ∃ l, Hid (N.getD i [] = l) := ⟨_, ⟨rfl⟩⟩
          have hll := HsN.out.each i hiL
          rw [Hli.out] at y1 hll
          have hm1 : li.length = m1 := by obtain ⟨_, _, e, _⟩ := y1.shape; simp at e; exact e.2.1.symm
          have Hm1 := Hid.mk hm1
          have Hy := Hid.mk y1
          rw [hm1] at hll
          obtain ⟨P, HP⟩ : ∃ P, Hid ((N.take i).flatten = P) := ⟨_, ⟨rfl⟩⟩
          rw [HP.out] at HT
          clear y1 hm1
          go_wp2_with fail
          go_loopg [7, 8, 10, 11, 12, 13] m1 (fun gg s7 s8 s10 _ _ _ wq => ∃ (j : Nat) (f : Bool) (t : Int), j ≤ m1 ∧ m1 - j ≤ gg ∧ s10 = .int .i64 (j : Int) ∧ s7 = .bool f ∧ s8 = .int .i64 t ∧ Hid (RT N (P ++ li.take j) f t) ∧ W = wq)
          case atStart => exact ⟨0, f, t, Nat.zero_le _, by omega, rfl, rfl, rfl, ⟨by simpa using HT.out⟩, rfl⟩
          case round =>
            clear HT
            obtain ⟨j, f, t, hj, hgj, rfl, rfl, rfl, HT, rfl⟩ := hrel
            by_cases hjl : j < m1
            · have hjz : (j : Int) < (m1 : Int) := by omega
              have hjL : j < li.length := by rw [Hm1.out]; exact hjl
              obtain ⟨b2, o2, c2, e2, _, hcell⟩ := Hy.out.at hjL
              rw [Hm1.out] at e2
              simp at e2
              obtain ⟨rfl, rfl⟩ := e2
              have hx := hcell j hjL
              have HS : Hid (P ++ li.take (j + 1) = (P ++ li.take j) ++ [li.getD j 0]) := ⟨by rw [take_snoc li j hjL, List.append_assoc]⟩
              clear hcell
              generalize li.getD j 0 = x at hx HS
              have t1 := votes_any _ N x HAr.out HsN.out
              have t2 := votes_any _ N t HAr.out HsN.out
              obtain ⟨A, HvA⟩ : ∃ A, Hid (vt x N = A) := ⟨_, ⟨rfl⟩⟩
              obtain ⟨B, HvB⟩ : ∃ B, Hid (vt t N = B) := ⟨_, ⟨rfl⟩⟩
              rw [HvA.out] at t1
              rw [HvB.out] at t2
              go_upto_region 14 with (go_at_call 33; refine t1.mono ?_; rintro e w' ⟨rfl, rfl⟩)
              clear t1
              go_upto_region 15 with (go_at_call 33; refine t2.mono ?_; rintro e w' ⟨rfl, rfl⟩)
              clear t2
              cases f with
              | false =>
                have HR : Hid (RT N (P ++ li.take (j + 1)) true x) := ⟨by rw [HS.out]; exact HT.out.first x⟩
                go_wp2
                go_roundg (m1 - (j + 1))
                case measure => omega
                case rel => exact ⟨j + 1, true, x, by omega, by omega, by go_num, rfl, rfl, HR, rfl⟩
              | true =>
                by_cases q1 : B < A
                · have q1z : (B : Int) < (A : Int) := by omega
                  have HR : Hid (RT N (P ++ li.take (j + 1)) true x) := ⟨by rw [HS.out]; exact HT.out.new (.inl (by rw [HvA.out, HvB.out]; exact q1))⟩
                  go_wp2
                  go_roundg (m1 - (j + 1))
                  case measure => omega
                  case rel => exact ⟨j + 1, true, x, by omega, by omega, by go_num, rfl, rfl, HR, rfl⟩
                · have q1z : ¬ (B : Int) < (A : Int) := by omega
                  by_cases q2 : A = B
                  · subst q2
                    by_cases q3 : t < x
                    · have HR : Hid (RT N (P ++ li.take (j + 1)) true x) := ⟨by rw [HS.out]; exact HT.out.new (.inr ⟨by rw [HvA.out, HvB.out], q3⟩)⟩
                      go_wp2
                      go_roundg (m1 - (j + 1))
                      case measure => omega
                      case rel => exact ⟨j + 1, true, x, by omega, by omega, by go_num, rfl, rfl, HR, rfl⟩
                    · have HR : Hid (RT N (P ++ li.take (j + 1)) true t) := ⟨by rw [HS.out]; exact HT.out.old (by rw [HvA.out, HvB.out]; exact q1) (fun q => q3 q.2)⟩
                      go_wp2
                      go_roundg (m1 - (j + 1))
                      case measure => omega
                      case rel => exact ⟨j + 1, true, t, by omega, by omega, by go_num, rfl, rfl, HR, rfl⟩
                  · have q2z : ¬ (A : Int) = (B : Int) := by omega
                    have HR : Hid (RT N (P ++ li.take (j + 1)) true t) := ⟨by rw [HS.out]; exact HT.out.old (by rw [HvA.out, HvB.out]; exact q1) (fun q => q2 (by have := q.1; rwa [HvA.out, HvB.out] at this))⟩
                    go_wp2
                    go_roundg (m1 - (j + 1))
                    case measure => omega
                    case rel => exact ⟨j + 1, true, t, by omega, by omega, by go_num, rfl, rfl, HR, rfl⟩
            · obtain rfl : m1 = j := by omega
              have HR : Hid (RT N (N.take (i + 1)).flatten f t) := ⟨by
                have := HT.out
                rw [List.take_of_length_le (by rw [Hm1.out]; exact Nat.le_refl _)] at this
                rw [flat_snoc N i hiL, HP.out, Hli.out]
                exact this⟩
              go_wp2
              go_roundg (nN - (i + 1))
              case measure => omega
              case rel => exact ⟨i + 1, f, t, by omega, by omega, by go_num, rfl, rfl, HR, rfl⟩
        · obtain rfl : nN = i := by omega
          have HRT : Hid (RT N N.flatten f t) := ⟨by have := HT.out; rwa [List.take_of_length_le (by rw [HnN.out]; exact Nat.le_refl _)] at this⟩
          clear HT
          cases f with
          | false =>
            have HCf : Hid (RChamp lim.toNat M C) := ⟨by have := HCh.out [] (RChamp.none _ _ (HRT.out.no rfl)); simpa using this⟩
            go_wp2
            go_ret
            exact ⟨_, rfl, C, HCf.out, HC.out, HB.out⟩
          | true =>
            have HRt : Hid (RTop N t) := ⟨HRT.out.yes rfl⟩
            have hnCl : C.length ≤ 1000000000000 := by rw [HnC.out]; have := Hl8.out.1; omega
            have hbW := HB.out.size
            have H5 : Hid (∀ k ∈ ob (.slice a5 nC c5), w.heap.size ≤ k ∧ k < W.heap.size ∧ Ty W 3 k) := ⟨fun k hk => ⟨(HC.out.lt k (mem_ob.1 hk)).1, (HC.out.lt k (mem_ob.1 hk)).2, own_ty HC.out (mem_ob.1 hk)⟩⟩
            clear HRT
            go_upto_region 20 with (at_builtin; refine wp_appI1 rfl (.tmp 77) (.tmp 79) rfl rfl HC.out rfl hnCl hbW ?_; intro v5 w5 hO5 hG5 hV5; replace hG5 : Chg (ob (.slice a5 nC c5)) W w5 := hG5)
            have HO5 := Hid.mk hO5
            have HL5 : Hid (OwnJ w5 (fun k => k < w.heap.size) w.heap.size (.slice a6 nN c6) N) := ⟨HO.out.far hG5 (fun k _ hS hX => by have := (H5.out k hX).1; omega) (fun k hT _ hX => hT.ne (H5.out k hX).2.2 (by decide) rfl)⟩
            have HB5 : Hid (Below w.heap.size w w5) := ⟨HB.out.trans (hG5.below hbW (fun x hx => (H5.out x hx).1))⟩
            clear hO5 hG5 hV5
            obtain ⟨a7, c7, e7, _⟩ := HO5.out.shape
            subst e7
            have HLn : Hid ((C ++ [t]).length = nC + 1) := ⟨by rw [List.length_append, HnC.out]; rfl⟩
            rw [HLn.out] at HO5 ⊢
            have HE5 : Hid (OwnJ (w5.alloc (.cells #[] 39)) (fun k => k < w.heap.size) w5.heap.size (.slice (some ⟨w5.heap.size, 0, none⟩) 0 0) []) := ⟨ownj_none w5 _⟩
            have HB6 : Hid (Below w5.heap.size w5 (w5.alloc (.cells #[] 39))) := ⟨(Below.refl _ w5).alloc (Nat.le_refl _) _⟩
            go_wp2_with fail
            go_loopg [14, 15] nN (fun gg s14 s15 wq => ∃ (i : Nat), i ≤ nN ∧ nN - i ≤ gg ∧ s15 = .int .i64 (i : Int) ∧ Hid (OwnJ wq (fun k => k < w.heap.size) w5.heap.size s14 (without t (N.take i))) ∧ Hid (Below w5.heap.size w5 wq))
            case atStart => exact ⟨0, Nat.zero_le _, by omega, rfl, ⟨by simpa [without] using HE5.out⟩, HB6⟩
            case round =>
              clear HE5 HB6
              obtain ⟨i, hi, hgi, rfl, HRo, HBq⟩ := hrel
              rename World => wq
              obtain ⟨a8, c8, e8, _⟩ := HRo.out.rows.shape
              subst e8
              obtain ⟨nR, HnR⟩ : ∃ n, Hid ((without t (N.take i)).length = n) := ⟨_, ⟨rfl⟩⟩
              have hnR : nR ≤ i := by rw [← HnR.out]; exact Nat.le_trans (List.length_filter_le _ _) (by rw [List.length_take]; omega)
              have hRl : (without t (N.take i)).length ≤ 1000000000000 := by rw [HnR.out]; omega
              rw [HnR.out] at HRo ⊢
              by_cases hil : i < nN
              · have hilz : (i : Int) < (nN : Int) := by omega
                have hiL : i < N.length := by rw [HnN.out]; exact hil
                obtain ⟨b1, o1, c1, x1, m1, z1, e1, d1, io1⟩ := (HL5.out.far (Chg.ofBelow (X := []) HBq.out) (by simp) (by simp)).rows.io hiL
                rw [HnN.out] at e1
                simp at e1
                obtain ⟨⟨rfl, rfl⟩, rfl⟩ := e1
                have HIo := Hid.mk io1
                have t3 := in_any _ _ t io1.bs (by have := HsN.out.each i hiL; omega)
                have HWs := Hid.mk (without_snoc t N i hiL)
                have hbq : w5.heap.size ≤ wq.heap.size := HBq.out.size
                clear io1
                by_cases hm : t ∈ N.getD i []
                · rw [if_pos hm, List.append_nil] at HWs
                  rw [decide_eq_true hm] at t3
                  clear hm
                  go_wp2_with fail
                  refine t3.mono ?_
                  rintro e w' ⟨rfl, rfl⟩
                  go_wp2_with fail
                  go_roundg (nN - (i + 1))
                  case measure => omega
                  case rel => exact ⟨i + 1, by omega, by omega, by go_num, by rw [HWs.out]; exact HRo, HBq⟩
                · rw [if_neg hm] at HWs
                  rw [decide_eq_false hm] at t3
                  clear hm
                  have Hsp : Hid (∀ k, (fun k => k < w.heap.size) k → k ∉ ob (.slice a8 nR c8)) := ⟨fun k hk hm => by
                    replace hk : k < w.heap.size := hk
                    have := (HRo.out.ge k hm).1
                    have := HB5.out.size
                    omega⟩
                  go_wp2_with (first | (go_at_call 34; refine t3.mono ?_; rintro e w' ⟨rfl, rfl⟩) | (at_builtin; refine wp_appJ1 rfl (.tmp 95) (.tmp 100) rfl rfl HRo.out HIo.out rfl hRl Hsp.out hbq ?_; intro v9 w9 hO9 hG9 hV9; replace hG9 : Chg (ob (.slice a8 nR c8)) wq w9 := hG9))
                  go_roundg (nN - (i + 1))
                  case measure => omega
                  case rel => exact ⟨i + 1, by omega, by omega, by go_num, ⟨by rw [HWs.out]; exact hO9⟩, ⟨HBq.out.trans (hG9.below HBq.out.size (fun x hx => (HRo.out.ge x hx).1))⟩⟩
              · obtain rfl : nN = i := by omega
                have HW : Hid (without t (N.take nN) = without t N) := ⟨by rw [List.take_of_length_le (by rw [HnN.out]; exact Nat.le_refl _)]⟩
                rw [HW.out] at HRo
                have hCl' : ((nC + 1 : Nat) : Int) ≤ max lim 0 := by omega
                go_wp2_with fail
                go_roundg (8 - (nC + 1))
                case measure => have := Hl8.out.1; omega
                case rel =>
                  refine ⟨without t N, C ++ [t], by rw [HLn.out]; exact Nat.le_refl _, by rw [HLn.out]; exact hCl', ⟨HsN.out.without t⟩, ⟨fun C' hC' => ?_⟩, ⟨HRo.out.base HB5.out.size⟩, ⟨own_far HO5.out (Chg.ofBelow (X := []) HBq.out) (by simp)⟩, ⟨HB5.out.trans (HBq.out.mono HB5.out.size)⟩⟩
                  rw [HLn.out] at hC'
                  rw [List.append_assoc]
                  refine HCh.out _ ?_
                  rw [show lim.toNat - nC = (lim.toNat - (nC + 1)) + 1 by omega]
                  exact RChamp.one _ _ _ _ HRt.out hC'
    · have HCf : Hid (RChamp lim.toNat M C) := ⟨by
        have := HCh.out [] (by rw [show lim.toNat - nC = 0 by omega]; exact RChamp.zero _)
        simpa using this⟩
      have hnq : ¬ ((nC : Int) < most ∧ (nC : Int) < 8) := fun q => hlt ((Hl8.out.2 nC).2 q)
      by_cases hq1 : (nC : Int) < most
      · have hq2 : ¬ (nC : Int) < 8 := fun q => hnq ⟨hq1, q⟩
        go_wp2
        go_ret
        exact ⟨_, rfl, C, HCf.out, HC.out, HB.out⟩
      · go_wp2
        go_ret
        exact ⟨_, rfl, C, HCf.out, HC.out, HB.out⟩
end
end Go.Proofs.Ytiloclekhddkfaa
