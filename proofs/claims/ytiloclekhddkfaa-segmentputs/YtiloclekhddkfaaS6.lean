/- Package segment's Champions. -/
import Derived.Test.YtiloclekhddkfaaS5
import Derived.Lib.MinMax
namespace Go.Proofs.Ytiloclekhddkfaa
open Go.RowKit Go.Lib Go.Shelf Go.Maps

/-- The champions of lists, at most f: the number that stands most often, then those of the lists without it. -/
inductive Champ : Nat → List (List Int) → List Int → Prop
  | zero (M : List (List Int)) : Champ 0 M []
  | none (f : Nat) (M : List (List Int)) (h : M.flatten = []) : Champ f M []
  | one (f : Nat) (M : List (List Int)) (b m : Int) (C : List Int) (h : M.flatten ≠ []) (ht : Top M.flatten b m) (hc : Champ f (without b M) C) : Champ (f + 1) M (b :: C)
theorem up_len : ∀ (k l : List Int), k.Pairwise (· < ·) → (∀ x ∈ k, x ∈ l) → k.length ≤ l.length
  | [], l, _, _ => Nat.zero_le _
  | a :: k, l, hp, hm => by
    have ha : a ∈ l := hm a (by simp)
    have hp' := List.pairwise_cons.1 hp
    have := up_len k (l.erase a) hp'.2 (fun x hx => (List.mem_erase_of_ne (by have := hp'.1 x hx; omega)).2 (hm x (by simp [hx])))
    rw [List.length_erase_of_mem ha] at this
    have : 0 < l.length := List.length_pos_of_mem ha
    simp
    omega
/-- Lists that are within bounds. -/
structure Small (M : List (List Int)) : Prop where
  len : M.length ≤ 1000000
  each : ∀ i, i < M.length → (M.getD i []).length ≤ 1000000
  wf : ∀ i, i < M.length → ∀ x ∈ M.getD i [], -9223372036854775808 ≤ x ∧ x ≤ 9223372036854775807
theorem Onces.small {L M : List (List Int)} (h : Onces L M) (hs : Small L) : Small M :=
  ⟨by rw [h.1]; exact hs.len, fun i hi => by
    rw [h.1] at hi
    have := h.2 i hi
    have h1 := up_len _ (L.getD i []) this.1 (fun x hx => (this.2 x).1 hx)
    have := hs.each i hi
    omega, fun i hi x hx => by
    rw [h.1] at hi
    exact hs.wf i hi x (((h.2 i hi).2 x).1 hx)⟩
theorem Small.mem {M : List (List Int)} (h : Small M) {l : List Int} (hl : l ∈ M) : l.length ≤ 1000000 ∧ ∀ x ∈ l, -9223372036854775808 ≤ x ∧ x ≤ 9223372036854775807 := by
  obtain ⟨i, hi, rfl⟩ := List.mem_iff_getElem.1 hl
  have h1 := h.each i hi
  have h2 := h.wf i hi
  simp only [List.getD, List.getElem?_eq_getElem hi, Option.getD_some] at h1 h2
  exact ⟨h1, h2⟩
theorem Small.without {M : List (List Int)} (h : Small M) (x : Int) : Small (without x M) := by
  have hl : (Go.Proofs.Ytiloclekhddkfaa.without x M).length ≤ M.length := List.length_filter_le _ _
  have hm : ∀ i, i < (Go.Proofs.Ytiloclekhddkfaa.without x M).length → (Go.Proofs.Ytiloclekhddkfaa.without x M).getD i [] ∈ M := fun i hi => by
    simp only [List.getD, List.getElem?_eq_getElem hi, Option.getD_some]
    exact (List.mem_filter.1 (List.getElem_mem hi)).1
  exact ⟨Nat.le_trans hl h.len, fun i hi => (h.mem (hm i hi)).1, fun i hi => (h.mem (hm i hi)).2⟩
theorem OwnL.arg {w : World} {S : Nat → Prop} {base : Nat} {v : Value} {M : List (List Int)} (h : OwnL w S base v M) : ArgL w v M :=
  ⟨by obtain ⟨a, c, e, h1, _⟩ := h.rows.shape; exact ⟨a, c, e, h1⟩, fun i hi => by obtain ⟨b, off, cap, y, m, z, e, _, h1, h2⟩ := h.rows.at hi; exact ⟨b, off, cap, y, m, z, e, h1, h2⟩⟩
theorem OwnI.base {w : World} {base base' : Nat} {v : Value} {l : List Int} (h : OwnI w base v l) (hb : base' ≤ base) : OwnI w base' v l := by
  refine ⟨h.1, ?_⟩
  rcases h.2 with q | ⟨g, cap, cur, e, h1, q⟩
  · exact .inl q
  · exact .inr ⟨g, cap, cur, e, Nat.le_trans hb h1, q⟩
theorem Top.some {S : List Int} {b m : Int} (h : Top S b m) : 0 < m ↔ S ≠ [] := by
  constructor
  · intro q e; have := (h.none e).2; omega
  · intro q; exact (h.is q).2
section
variable {w : World}
set_option maxHeartbeats 4000000 in
set_option maxRecDepth 100000 in
theorem champs_any (v : Value) (M : List (List Int)) (most : Int) (h : ArgL w v M) (hs : Small M) : Calls Try.prog 20 #[v, .int .i64 most] w fun e w' => ∃ v', e = .returned v' ∧ ∃ N C, Onces M N ∧ Champ (min most 8).toNat N C ∧ OwnI w' w.heap.size v' C ∧ Below w.heap.size w w' := by
  have t := once_any v M h hs.len hs.each
  have Hs := Hid.mk hs
  obtain ⟨lim, Hlim⟩ : ∃ l, Hid (min most 8 = l) := ⟨_, ⟨rfl⟩⟩
  have hlim : lim ≤ 8 := by rw [← Hlim.out]; omega
  rw [Hlim.out]
  have hml := Hlim.out
  obtain ⟨av, cv, rfl, _⟩ := h.shape
  obtain ⟨nM, HnM⟩ : ∃ n, Hid (M.length = n) := ⟨_, ⟨rfl⟩⟩
  rw [HnM.out] at t ⊢
  clear h hs
  go_enter Try.func20, Try.ntmps20
  go_upto_region 2 with (go_at_call 28; refine t.mono ?_; rintro e w1 ⟨v1, rfl, N, hN, hO1, hob1, hB1⟩)
  have HN := Hid.mk hN
  have HB1 := Hid.mk hB1
  have HO1 : Hid (OwnL w1 (fun k => w.heap.size ≤ k ∧ k < w1.heap.size) 0 v1 N) := ⟨hO1.mono (fun k hk hf => ⟨hf, hk.lt⟩)⟩
  have Hob1 : Hid (∀ k ∈ ob v1, w.heap.size ≤ k ∧ k < w1.heap.size) := ⟨fun k hk => ⟨hob1 k hk, by obtain ⟨vs, q, _⟩ := hO1; exact (q.lt k (mem_ob.1 hk)).2⟩⟩
  have HsN : Hid (Small N) := ⟨hN.small Hs.out⟩
  clear hN hB1 hO1 hob1 t
  go_wp2_with fail
  go_loopg [5, 6, 7, 8] 8 (fun gg s5 s6 _ _ wr => ∃ (N' : List (List Int)) (C : List Int), 8 - C.length ≤ gg ∧ (C.length : Int) ≤ max lim 0 ∧ Hid (Small N') ∧ Hid (∀ C', Champ (lim.toNat - C.length) N' C' → Champ lim.toNat N (C ++ C')) ∧ Hid (OwnL wr (fun k => w.heap.size ≤ k ∧ k < w1.heap.size) 0 s5 N') ∧ Hid (∀ k ∈ ob s5, w.heap.size ≤ k ∧ k < w1.heap.size) ∧ Hid (OwnI wr w1.heap.size s6 C) ∧ Hid (Below w.heap.size w wr) ∧ w1.heap.size ≤ wr.heap.size)
  case atStart => exact ⟨N, [], by simp, by simp; omega, HsN, ⟨fun C' h => by simpa using h⟩, HO1, Hob1, ⟨owni_nil _ _⟩, HB1, Nat.le_refl _⟩
  case round =>
    clear HO1 Hob1 HsN
    obtain ⟨N', C, hgg, hCl, HsN, HCh, HO, Hob, HC, HB, hw1⟩ := hrel
    obtain ⟨a5, c5, e5, _⟩ := HO.out.rows.shape
    subst e5
    obtain ⟨a6, c6, e6, _⟩ := HC.out.shape
    subst e6
    obtain ⟨nN, HnN⟩ : ∃ n, Hid (N'.length = n) := ⟨_, ⟨rfl⟩⟩
    obtain ⟨nC, HnC⟩ : ∃ n, Hid (C.length = n) := ⟨_, ⟨rfl⟩⟩
    rw [HnC.out] at hgg hCl HCh HC ⊢
    have t1 := common_any _ N' HO.out.arg HsN.out.len HsN.out.each HsN.out.wf
    rw [HnN.out] at t1 HO Hob ⊢
    by_cases hlt : (nC : Int) < lim
    · go_upto_region 5 with (go_at_call 29; refine t1.mono ?_; rintro e w2 ⟨b, m, rfl, hT, hb2⟩)
      have HT := Hid.mk hT
      have HB2 := Hid.mk hb2
      clear hT hb2 t1
      obtain ⟨w3, Hw3⟩ : ∃ w3, Hid (w2.alloc (.cells #[.int .i64 b] 3) = w3) := ⟨_, ⟨rfl⟩⟩
      obtain ⟨q, Hq⟩ : ∃ q, Hid (w2.heap.size = q) := ⟨_, ⟨rfl⟩⟩
      rw [Hw3.out, Hq.out]
      have hq3 : w3.cell? ⟨q, 0, none⟩ = some (.int .i64 b) := by rw [← Hw3.out, ← Hq.out]; simp
      have hz3 : w3.heap.size = q + 1 := by rw [← Hw3.out, ← Hq.out]; simp
      have HB3 : Hid (Below wr.heap.size wr w3) := ⟨by rw [← Hw3.out]; exact HB2.out.alloc HB2.out.size _⟩
      have hrq : wr.heap.size ≤ q := by rw [← Hq.out]; exact HB2.out.size
      have hb3 : w1.heap.size ≤ w3.heap.size := by omega
      have Hz3 := Hid.mk hz3
      clear hz3
      have HBw : Hid (Below w.heap.size w w3) := ⟨HB.out.trans (HB3.out.mono HB.out.size)⟩
      by_cases hm : 0 < m
      · have Hne : Hid (N'.flatten ≠ []) := ⟨HT.out.some.1 hm⟩
        have HC3 : Hid (OwnI w3 w1.heap.size (.slice a6 nC c6) C) := ⟨own_far HC.out (Chg.ofBelow (X := []) HB3.out) (by simp)⟩
        have HO3 : Hid (OwnL w3 (fun k => w.heap.size ≤ k ∧ k < w1.heap.size) 0 (.slice a5 nN c5) N') := ⟨HO.out.far (Chg.ofBelow (X := []) HB3.out) (by simp) (by simp)⟩
        have H6 : Hid (∀ k ∈ ob (.slice a6 nC c6), w1.heap.size ≤ k ∧ k < wr.heap.size) := ⟨fun k hk => HC.out.lt k (mem_ob.1 hk)⟩
        have hnC : C.length ≤ 1000000000000 := by rw [HnC.out]; omega
        have hdm : decide (0 < m) = true := decide_eq_true hm
        go_upto_region 7 with (at_builtin; refine wp_appI1 rfl (.tmp 23) (.tmp 25) rfl rfl HC3.out rfl hnC hb3 ?_; intro v6 w6 hO6 hG6 hV6; replace hG6 : Chg (ob (.slice a6 nC c6)) w3 w6 := hG6; replace hV6 : v6.ownBlock = Value.ownBlock (.slice a6 nC c6) ∨ v6.ownBlock = some (w3.heap.size + 1) := hV6)
        have H6b : Hid (∀ k ∈ ob v6, w1.heap.size ≤ k) := ⟨fun k hk => by
          rcases hV6 with e | e
          · exact (H6.out k (mem_ob.2 (by rw [← e]; exact mem_ob.1 hk))).1
          · have := mem_ob.1 hk
            rw [e] at this
            cases this
            omega⟩
        have HO6 : Hid (OwnL w6 (fun k => w.heap.size ≤ k ∧ k < w1.heap.size) 0 (.slice a5 nN c5) N') := ⟨HO3.out.far hG6 (fun k _ hS hX => by have := H6.out k hX; omega) (fun k _ hk hX => by have := H6.out k hX; have := Hob.out k (mem_ob.2 hk); omega)⟩
        have hq6 : w6.cell? ⟨q, 0, none⟩ = some (.int .i64 b) := (hG6.cell (a := ⟨q, 0, none⟩) (show q < w3.heap.size by have := Hz3.out; omega) (fun hX => by have := H6.out q hX; omega)).trans hq3
        have hqv : q ∉ ob (.slice a5 nN c5) := fun hX => by have := Hob.out q hX; omega
        have HO6' := Hid.mk hO6
        have HB6 : Hid (Below w.heap.size w w6) := ⟨HBw.out.trans (hG6.below HBw.out.size (fun x hx => by have := H6.out x hx; have := HB1.out.size; omega))⟩
        have hs6 : w1.heap.size ≤ w6.heap.size := Nat.le_trans hb3 hG6.size
        have t3 := delete_any q b HO6.out hq6 hqv HsN.out.len HsN.out.each
        clear hO6 hG6 hV6 hq6 hqv hq3
        obtain ⟨a7, c7, e7, _⟩ := HO6'.out.shape
        subst e7
        have HL6 : Hid ((C ++ [b]).length = nC + 1) := ⟨by rw [List.length_append, HnC.out]; rfl⟩
        rw [HL6.out] at HO6' H6b ⊢
        go_wp2_with (go_at_call 30; refine t3.mono ?_; rintro e w7 ⟨v7, rfl, hO7, hG7, hV7⟩; replace hG7 : Chg (ob (.slice a5 nN c5)) w6 w7 := hG7)
        go_roundg (8 - (nC + 1))
        case measure => omega
        case rel =>
          refine ⟨without b N', C ++ [b], by rw [HL6.out]; exact Nat.le_refl _, by rw [HL6.out]; omega, ⟨HsN.out.without b⟩, ⟨fun C' hC' => ?_⟩, ⟨hO7⟩, ⟨fun k hk => Hob.out k (hV7 k hk)⟩, ⟨?_⟩, ⟨?_⟩, Nat.le_trans hs6 hG7.size⟩
          · rw [HL6.out] at hC'
            rw [List.append_assoc]
            refine HCh.out _ ?_
            rw [show lim.toNat - nC = (lim.toNat - (nC + 1)) + 1 by omega]
            exact Champ.one _ _ _ _ _ Hne.out HT.out hC'
          · exact own_far HO6'.out hG7 (fun k hk hX => by have := Hob.out k hX; have := H6b.out k (mem_ob.2 hk); omega)
          · exact HB6.out.trans (hG7.below HB6.out.size (fun x hx => (Hob.out x hx).1))
      · have hdm : decide (0 < m) = false := decide_eq_false hm
        have Hne : Hid (N'.flatten = []) := ⟨Classical.byContradiction fun e => hm (HT.out.some.2 e)⟩
        have HC3 : Hid (OwnI w3 w.heap.size (.slice a6 nC c6) C) := ⟨OwnI.base (own_far HC.out (Chg.ofBelow (X := []) HB3.out) (by simp)) HB1.out.size⟩
        have HCf : Hid (Champ lim.toNat N C) := ⟨by have := HCh.out [] (Champ.none _ _ Hne.out); simpa using this⟩
        go_wp2_with fail
        go_ret
        exact ⟨_, rfl, N, HN.out, C, HCf.out, HC3.out, HBw.out⟩
    · have HCf : Hid (Champ lim.toNat N C) := ⟨by
        have := HCh.out [] (by rw [show lim.toNat - nC = 0 by omega]; exact Champ.zero _)
        simpa using this⟩
      have HC3 : Hid (OwnI wr w.heap.size (.slice a6 nC c6) C) := ⟨HC.out.base HB1.out.size⟩
      clear t1
      go_wp2_with fail
      go_ret
      exact ⟨_, rfl, N, HN.out, C, HCf.out, HC3.out, HB.out⟩
end
end Go.Proofs.Ytiloclekhddkfaa
