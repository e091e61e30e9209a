/- The program's Hooks. -/
import Derived.Test.YtiloclekhddkfaaS17
import Derived.Test.YtiloclekhddkfaaSumsB
namespace Go.Proofs.Ytiloclekhddkfaa
open Go.RowKit Go.Lib

def hkStep (rate : Int) (out : List (List Int)) (s : List Int) : List (List Int) := if out.length < 16 ∧ hk s rate = true ∧ s ∉ out then out ++ [s] else out
/-- The hooks of refs. -/
def hooksF (rate : Int) (L : List Rf) : List (List Int) := L.foldl (fun o r => hkStep rate o r.s) []
theorem hooks_snoc (rate : Int) (L : List Rf) (k : Nat) (hk : k < L.length) : hooksF rate (L.take (k + 1)) = hkStep rate (hooksF rate (L.take k)) (L.getD k r0).s := by
  unfold hooksF
  rw [List.take_add_one, List.getElem?_eq_getElem hk, List.foldl_append]
  simp [List.getD, List.getElem?_eq_getElem hk]
theorem hkStep_len (rate : Int) (out : List (List Int)) (s : List Int) (h : out.length ≤ 16) : (hkStep rate out s).length ≤ 16 := by
  unfold hkStep
  split
  · rw [List.length_append]; simp; omega
  · exact h
theorem fold_len (rate : Int) : ∀ (L : List Rf) (o : List (List Int)), o.length ≤ 16 → (L.foldl (fun o r => hkStep rate o r.s) o).length ≤ 16
  | [], _, h => h
  | r :: L, o, h => fold_len rate L _ (hkStep_len rate o r.s h)
theorem hooks_len (rate : Int) (L : List Rf) : (hooksF rate L).length ≤ 16 := fold_len rate L [] (by simp)
theorem fold_full (rate : Int) : ∀ (L : List Rf) (o : List (List Int)), o.length = 16 → L.foldl (fun o r => hkStep rate o r.s) o = o
  | [], _, _ => rfl
  | r :: L, o, h => by
    rw [List.foldl_cons, show hkStep rate o r.s = o by unfold hkStep; rw [if_neg (by omega)]]
    exact fold_full rate L o h
theorem hooks_full (rate : Int) (L : List Rf) (k : Nat) (h : (hooksF rate (L.take k)).length = 16) : hooksF rate L = hooksF rate (L.take k) := by
  have e : hooksF rate L = (L.drop k).foldl (fun o r => hkStep rate o r.s) (hooksF rate (L.take k)) := by
    unfold hooksF
    rw [← List.foldl_append, List.take_append_drop]
  rw [e]
  exact fold_full rate _ _ h
theorem hooks_mem (rate : Int) (L : List Rf) (h : ∀ r ∈ L, Sm r.s) : ∀ s ∈ hooksF rate L, Sum32 s := by
  have g : ∀ (L : List Rf) (o : List (List Int)), (∀ r ∈ L, Sm r.s) → (∀ s ∈ o, Sum32 s) → ∀ s ∈ L.foldl (fun o r => hkStep rate o r.s) o, Sum32 s := by
    intro L
    induction L with
    | nil => intro o _ ho; exact ho
    | cons r L ih =>
      intro o hL ho
      refine ih _ (fun x hx => hL x (by simp [hx])) ?_
      intro s hs
      replace hs : s ∈ hkStep rate o r.s := hs
      unfold hkStep at hs
      split at hs
      · rcases List.mem_append.1 hs with q | q
        · exact ho s q
        · simp at q; subst q; exact ⟨(hL r (by simp)).len, (hL r (by simp)).byte⟩
      · exact ho s hs
  exact g L [] h (by simp)
theorem RefAt.at {w : World} {q : Nat} {r : Rf} (h : RefAt w q r) : At w q 0 (sc r.s) := fun j v hv => by
  have hj : j < 32 := by
    rcases Nat.lt_or_ge j 32 with k | k
    · exact k
    · rw [List.getElem?_eq_none (by rw [sc_len, h.sm.len]; exact k)] at hv; cases hv
  rw [Nat.zero_add, h.cell j, rc_sum r h.sm j hj]
  rw [sc_get r.s (by rw [h.sm.len]; exact hj)] at hv
  exact hv
section
variable {w : World}
set_option maxHeartbeats 4000000 in
set_option maxRecDepth 100000 in
theorem hooks_any (v : Value) (L : List Rf) (rate : Int) (h : RdR w v L) (hL : L.length ≤ 10000000000000) : Calls Try.prog 9 #[v, .int .i64 rate] w fun e w' => ∃ v', e = .returned v' ∧ OwnS w' w.heap.size v' (hooksF rate L) ∧ Below w.heap.size w w' := by
  have H := Hid.mk h
  obtain ⟨n, Hn⟩ : ∃ n, Hid (L.length = n) := ⟨_, ⟨rfl⟩⟩
  obtain ⟨av, cv, rfl, hcv, hcm, _⟩ := h.shape
  rw [Hn.out] at hL H hcv ⊢
  clear h
  go_enter Try.func9, Try.ntmps9
  go_wp2_with fail
  go_loopg [5, 7, 10] n (fun gg s5 _ s10 wr => ∃ kk : Nat, kk ≤ n ∧ n - kk ≤ gg ∧ s10 = .int .i64 (kk : Int) ∧ Hid (OwnS wr w.heap.size s5 (hooksF rate (L.take kk))) ∧ Hid (Below w.heap.size w wr))
  case atStart => exact ⟨0, Nat.zero_le _, by omega, rfl, ⟨OwnE.nil _ _ _ _ _⟩, ⟨Below.refl _ _⟩⟩
  case round =>
    obtain ⟨kk, hkk, hgg, rfl, HO, HB⟩ := hrel
    obtain ⟨a5, c5, e5, _⟩ := (HO.out.rd []).shape
    subst e5
    have Hmo : Hid (∀ s ∈ hooksF rate (L.take kk), Sum32 s) := ⟨hooks_mem rate _ (fun r hr => H.out.sums r (List.mem_of_mem_take hr))⟩
    have Hlo := Hid.mk (hooks_len rate (L.take kk))
    by_cases hlt : kk < n
    · have hltz : (kk : Int) < (n : Int) := by omega
      have hkL : kk < L.length := by rw [Hn.out]; exact hlt
      have hRd : RdR wr (.slice av n cv) L := H.out.below HB.out
      obtain ⟨b, off, cap, e, hc⟩ := hRd.at' kk hkL
      have hsm := hRd.sum hkL
      rw [Hn.out] at e
      simp at e
      obtain ⟨rfl, rfl⟩ := e
      have HS := Hid.mk (hooks_snoc rate L kk hkL)
      have HFu : Hid ((hooksF rate (L.take kk)).length = 16 → hooksF rate L = hooksF rate (L.take kk)) := ⟨hooks_full rate L kk⟩
      generalize hooksF rate (L.take kk) = out at HO Hmo Hlo HS HFu
      generalize L.getD kk r0 = r at hc hsm HS
      have Hc : Hid (∀ j v, (rc r)[j]? = some v → wr.cell? ⟨b, off + kk * 35 + j, none⟩ = some v) := ⟨fun j v hv => by
        have hj : j < 35 := by
          rcases Nat.lt_or_ge j 35 with k | k
          · exact k
          · rw [List.getElem?_eq_none (by rw [rc_len r hsm]; exact k)] at hv; cases hv
        exact (hc j hj).trans hv⟩
      have Hi : Hid ((Try.prog.info? 28).map (·.size) = some (rc r).length) := ⟨by rw [rc_len r hsm]; exact info28⟩
      have Hsm := Hid.mk hsm
      have Hs32 : Hid (Sum32 r.s) := ⟨⟨hsm.len, hsm.byte⟩⟩
      obtain ⟨n5, Hn5⟩ : ∃ n, Hid (out.length = n) := ⟨_, ⟨rfl⟩⟩
      rw [Hn5.out] at HO HFu Hlo ⊢
      have hn5 := Hlo.out
      clear hc hsm hRd
      go_upto_region 5 with (first
        | (refine wp_loadA rfl 28 (.tmp 12) rfl b (off + kk * 35) rfl (rc r) _ Hc.out Try.underlying28 rfl Hi.out ?_)
        | (refine wp_storeR rfl (.tmp 7) (.tmp 13) rfl wr.heap.size r Hsm.out rfl rfl _ (heap_alloc_new wr _) rfl ?_; intro w3 hA3 hG3; have HA3 := Hid.mk hA3; have HB3 : Hid (Below wr.heap.size wr w3) := ⟨((Chg.ofBelow (X := []) ((Below.refl _ wr).alloc (Nat.le_refl _) _)).thenNew hG3 (by simp)).below (Nat.le_refl _) (by simp)⟩; clear hA3 hG3))
      have HO3 : Hid (OwnS w3 w.heap.size (.slice a5 n5 c5) out) := ⟨OwnE.far HO.out (Chg.ofBelow (X := []) HB3.out) (by simp)⟩
      have HBw3 : Hid (Below w.heap.size w w3) := ⟨HB.out.trans (HB3.out.mono HB.out.size)⟩
      obtain ⟨q, Hq⟩ : ∃ q, Hid (wr.heap.size = q) := ⟨_, ⟨rfl⟩⟩
      rw [Hq.out] at HA3 HB3 ⊢
      clear Hc HB HO
      by_cases h16 : n5 = 16
      · subst h16
        have HE : Hid (hooksF rate L = out) := ⟨HFu.out rfl⟩
        go_wp2_with fail
        go_ret
        exact ⟨_, rfl, by rw [HE.out]; exact HO3.out, HBw3.out⟩
      · have h16z : ¬ (n5 : Int) = 16 := by omega
        have t1 := hook_any (w := w3) r.s Hsm.out rate
        have Hat3 := Hid.mk HA3.out.at
        go_upto_region 6 with fail
        obtain ⟨K, HK⟩ : ∃ K, Hid (hk r.s rate = K) := ⟨_, ⟨rfl⟩⟩
        rw [HK.out] at t1
        cases K with
        | false =>
          have HE : Hid (hooksF rate (L.take (kk + 1)) = out) := ⟨by rw [HS.out]; unfold hkStep; rw [if_neg (by rw [HK.out]; simp)]⟩
          go_wp2_with (first
            | (refine wp_loadS rfl (.tmp 17) rfl q 0 rfl r.s Hat3.out Hs32.out ?_)
            | (go_at_call 11; refine t1.mono ?_; rintro e w4 ⟨rfl, hb4⟩))
          go_roundg (n - (kk + 1))
          case measure => omega
          case rel => exact ⟨kk + 1, by omega, by omega, by go_num, ⟨by rw [HE.out]; exact OwnE.far HO3.out (Chg.ofBelow (X := []) hb4) (by simp)⟩, ⟨HBw3.out.trans (hb4.mono HBw3.out.size)⟩⟩
        | true =>
          go_wp2_with (first
            | (refine wp_loadS rfl (.tmp 17) rfl q 0 rfl r.s Hat3.out Hs32.out ?_))
          refine t1.mono ?_
          rintro e w4 ⟨rfl, hb4⟩
          have HA4 : Hid (RefAt w4 q r) := ⟨HA3.out.far (Chg.ofBelow (X := []) hb4) (by simp)⟩
          have HO4 : Hid (OwnS w4 w.heap.size (.slice a5 n5 c5) out) := ⟨OwnE.far HO3.out (Chg.ofBelow (X := []) hb4) (by simp)⟩
          have HBw4 : Hid (Below w.heap.size w w4) := ⟨HBw3.out.trans (hb4.mono HBw3.out.size)⟩
          have Hat4 := Hid.mk HA4.out.at
          have t2 := containss_any (w := w4) _ out r.s (HO4.out.rd []) Hmo.out Hs32.out (by rw [Hn5.out]; omega)
          clear hb4 t1
          obtain ⟨K, HK2⟩ : ∃ K, Hid (decide (r.s ∈ out) = K) := ⟨_, ⟨rfl⟩⟩
          rw [HK2.out] at t2
          go_wp2_with (refine wpList_unguard (by kernel_rfl) ?_; refine wp_loadS rfl (.tmp 23) rfl q 0 rfl r.s Hat4.out Hs32.out ?_)
          refine t2.mono ?_
          rintro e w5 ⟨rfl, hb5⟩
          have HA5 : Hid (RefAt w5 q r) := ⟨HA4.out.far (Chg.ofBelow (X := []) hb5) (by simp)⟩
          have HO5 : Hid (OwnS w5 w.heap.size (.slice a5 n5 c5) out) := ⟨OwnE.far HO4.out (Chg.ofBelow (X := []) hb5) (by simp)⟩
          have HBw5 : Hid (Below w.heap.size w w5) := ⟨HBw4.out.trans (hb5.mono HBw4.out.size)⟩
          have Hat5 := Hid.mk HA5.out.at
          clear hb5 t2
          cases K with
          | true =>
            have HE : Hid (hooksF rate (L.take (kk + 1)) = out) := ⟨by rw [HS.out]; unfold hkStep; rw [if_neg (fun hh => hh.2.2 (of_decide_eq_true HK2.out))]⟩
            go_wp2_with fail
            go_roundg (n - (kk + 1))
            case measure => omega
            case rel => exact ⟨kk + 1, by omega, by omega, by go_num, ⟨by rw [HE.out]; exact HO5.out⟩, HBw5⟩
          | false =>
            have HE : Hid (hooksF rate (L.take (kk + 1)) = out ++ [r.s]) := ⟨by rw [HS.out]; unfold hkStep; rw [if_pos ⟨by rw [Hn5.out]; omega, HK.out, of_decide_eq_false HK2.out⟩]⟩
            have Hsz : Hid ((sc r.s).toArray.size = 32) := ⟨by rw [List.size_toArray, sc_len, Hs32.out.len]⟩
            have HR1 : Hid (RdS (w5.alloc (.cells (sc r.s).toArray 25)) (.slice (some ⟨w5.heap.size, 0, none⟩) 1 1) [r.s]) := ⟨rde_one w5 r.s (by rw [sc_len, Hs32.out.len]) (sc_one _) 25⟩
            have HO6 : Hid (OwnS (w5.alloc (.cells (sc r.s).toArray 25)) w.heap.size (.slice a5 n5 c5) out) := ⟨OwnE.far HO5.out (Chg.ofBelow (X := []) ((Below.refl _ w5).alloc (Nat.le_refl _) _)) (by simp)⟩
            have Hbs : Hid (w.heap.size ≤ (w5.alloc (.cells (sc r.s).toArray 25)).heap.size) := ⟨by simp; have := HBw5.out.size; omega⟩
            have HL1 : Hid ((out.length + [r.s].length) * 32 ≤ 140737488355328) := ⟨by rw [Hn5.out]; simp; omega⟩
            have HL2 : Hid (out.length + [r.s].length ≤ maxLen) := ⟨by rw [Hn5.out]; unfold maxLen; simp; omega⟩
            go_upto_region 7 with fail
            go_upto_region 8 with (first
              | (refine wp_loadS rfl (.tmp 29) rfl q 0 rfl r.s Hat5.out Hs32.out ?_)
              | (refine wp_sliceE eltS rfl (.tmp 30) rfl (sc r.s).toArray rfl Hsz.out (by decide) ?_)
              | (at_builtin; refine wp_appE eltS rfl (.tmp 28) (.tmp 31) rfl rfl HO6.out rfl HR1.out HL1.out HL2.out Hbs.out ?_; intro v7 w7 hO7 hG7 hV7))
            replace hG7 : Chg (ob (.slice a5 n5 c5)) (w5.alloc (.cells (sc r.s).toArray 25)) w7 := hG7
            have HB7 : Hid (Below w.heap.size w w7) := ⟨(HBw5.out.trans (((Below.refl _ w5).alloc (Nat.le_refl _) _).mono HBw5.out.size)).trans (hG7.below Hbs.out (fun x hx => (HO6.out.lt x hx).1))⟩
            go_wp2_with fail
            go_roundg (n - (kk + 1))
            case measure => omega
            case rel => exact ⟨kk + 1, by omega, by omega, by go_num, ⟨by rw [HE.out]; exact hO7⟩, HB7⟩
    · obtain rfl : kk = n := by omega
      have HT : Hid (L.take kk = L) := ⟨List.take_of_length_le (by rw [Hn.out]; exact Nat.le_refl _)⟩
      rw [HT.out] at HO ⊢
      go_wp2_with fail
      go_ret
      exact ⟨_, rfl, HO.out, HB.out⟩
end
end Go.Proofs.Ytiloclekhddkfaa
