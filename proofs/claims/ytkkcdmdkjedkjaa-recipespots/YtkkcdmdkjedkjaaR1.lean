/- The program's Check; helpers for rows of refs. -/
import Derived.Test.YtkkcdmdkjedkjaaSegPut
import Derived.Test.YtkkcdmdkjedkjaaP1
namespace Go.Proofs.Ytkkcdmdkjedkjaa
open Go.RowKit Go.Lib

theorem rc_one' (r : Rf) : ∀ u ∈ rc r, u.oneCell' = true := by
  have h := rc_one r
  rw [List.all_toArray, List.all_eq_true] at h
  exact h
theorem RdR.toE {w : World} {v : Value} {L : List Rf} (h : RdR w v L) : RdE rc 35 r0 w v L := ⟨h.shape, h.at', fun r hr => ⟨rc_len r (h.sums r hr), rc_one' r⟩⟩
theorem RdE.toR {w : World} {v : Value} {L : List Rf} (h : RdE rc 35 r0 w v L) (hs : ∀ r ∈ L, Sm r.s) : RdR w v L := ⟨h.shape, h.at', hs⟩
theorem RdR.far {w w' : World} {v : Value} {L : List Rf} {X : List Nat} (h : RdR w v L) (hc : Chg X w w') (hx : 0 < L.length → ∀ g ∈ ob v, g ∉ X) : RdR w' v L := (h.toE.far hc hx).toR h.sums
theorem eltR : Elt Try.prog 22 56 35 56 := by
  have h : ((Try.prog.info? 56).map (fun i => (i.size, i.bytes, (i.zero.map (fun z => z.cells.size))))) = some (35, 56, some 35) := by kernel_rfl
  refine ⟨Try.underlying22, ?_, by decide⟩
  cases hi : Try.prog.info? 56 with
  | none => rw [hi] at h; simp at h
  | some i =>
    rw [hi] at h
    simp at h
    obtain ⟨h1, h2, z, h3, h4⟩ := h
    exact ⟨i, z, rfl, h3, h1, h2, h4⟩
/-- A ref of a row, cell by cell. -/
theorem RdR.ref {w : World} {v : Value} {L : List Rf} (h : RdR w v L) {i : Nat} (hi : i < L.length) : ∃ b off cap, v = .slice (some ⟨b, off, none⟩) L.length cap ∧ ∀ j u, (rc (L.getD i r0))[j]? = some u → w.cell? ⟨b, off + i * 35 + j, none⟩ = some u := by
  obtain ⟨b, off, cap, e, hc⟩ := h.at' i hi
  have hs := h.sum hi
  refine ⟨b, off, cap, e, fun j u hu => ?_⟩
  have hj : j < 35 := by
    rcases Nat.lt_or_ge j 35 with k | k
    · exact k
    · rw [List.getElem?_eq_none (by rw [rc_len _ hs]; exact k)] at hu; cases hu
  exact (hc j hj).trans hu
theorem rdr_one (w : World) (r : Rf) (hs : Sm r.s) : RdR (w.alloc (.cells (rc r).toArray 56)) (.slice (some ⟨w.heap.size, 0, none⟩) 1 1) [r] :=
  (rde_one w r (rc_len r hs) (rc_one' r) 56).toR (by simpa using hs)
/-- What Check answers. -/
def chk (L : List Rf) : Int := if 256 < L.length then 6 else if L.all rt then 0 else 2
theorem put_one (r : Rf) : (putR [r]).2 = if rt r then 0 else 2 := by
  unfold putR
  cases h : rt r <;> simp [h]
section
variable {w : World}
set_option maxHeartbeats 4000000 in
set_option maxRecDepth 100000 in
theorem check_any (v : Value) (L : List Rf) (h : RdR w v L) (hL : L.length ≤ 10000000000000) : Calls Try.prog 11 #[v] w fun e w' => e = .returned (.int .i64 (chk L)) ∧ Below w.heap.size w w' := by
  have H := Hid.mk h
  have HP : Hid (chk L = if 256 < L.length then 6 else if L.all rt then 0 else 2) := ⟨rfl⟩
  obtain ⟨n, Hn⟩ : ∃ n, Hid (L.length = n) := ⟨_, ⟨rfl⟩⟩
  obtain ⟨av, cv, rfl, hcv, hcm, _⟩ := h.shape
  rw [Hn.out] at HP hL H hcv ⊢
  obtain ⟨R, HR⟩ : ∃ R, Hid (chk L = R) := ⟨_, ⟨rfl⟩⟩
  rw [HR.out] at HP ⊢
  clear h
  by_cases h256 : 256 < n
  · have e : R = 6 := by rw [HP.out, if_pos h256]
    subst e
    have hz : (256 : Int) < (n : Int) := by omega
    go_enter Try.func11, Try.ntmps11
    go_wp2
    go_ret
    exact ⟨rfl, Below.refl _ _⟩
  have HR' : Hid (R = if L.all rt then 0 else 2) := ⟨by rw [HP.out, if_neg h256]⟩
  have hnz : ¬ (256 : Int) < (n : Int) := by omega
  go_enter Try.func11, Try.ntmps11
  go_wp2_with fail
  go_loopg [4, 5, 6, 12] n (fun gg _ _ _ s12 wr => ∃ kk : Nat, kk ≤ n ∧ n - kk ≤ gg ∧ s12 = .int .i64 (kk : Int) ∧ Hid (Below w.heap.size w wr) ∧ Hid (∀ r ∈ L.take kk, rt r = true))
  case atStart => exact ⟨0, Nat.zero_le _, by omega, rfl, ⟨Below.refl _ _⟩, ⟨by simp⟩⟩
  case round =>
    obtain ⟨kk, hkk, hgg, rfl, HB, HT⟩ := hrel
    by_cases hlt : kk < n
    · have hltz : (kk : Int) < (n : Int) := by omega
      have hkL : kk < L.length := by rw [Hn.out]; exact hlt
      have hRd : RdR wr (.slice av n cv) L := H.out.below HB.out
      obtain ⟨b, off, cap, e, hc⟩ := hRd.ref hkL
      have hsm := hRd.sum hkL
      rw [Hn.out] at e
      simp at e
      obtain ⟨rfl, rfl⟩ := e
      have HTs : Hid (L.take (kk + 1) = L.take kk ++ [L.getD kk r0]) := ⟨by rw [List.take_add_one, List.getElem?_eq_getElem hkL]; simp [List.getD, List.getElem?_eq_getElem hkL]⟩
      have Hmem : Hid (L.getD kk r0 ∈ L) := ⟨getD_mem' hkL⟩
      generalize L.getD kk r0 = r at hc hsm HTs Hmem
      have Hc := Hid.mk hc
      have Hi : Hid ((Try.prog.info? 56).map (·.size) = some (rc r).length) := ⟨by rw [rc_len r hsm]; exact info28⟩
      have Hsz : Hid ((rc r).toArray.size = 35) := ⟨by rw [List.size_toArray]; exact rc_len r hsm⟩
      have Hsm := Hid.mk hsm
      clear hc hsm hRd
      go_upto_region 6 with (first
        | (refine wp_loadA rfl 56 (.tmp 14) rfl b (off + kk * 35) rfl (rc r) _ Hc.out Try.underlying56 rfl Hi.out ?_)
        | (refine wp_storeR rfl (.tmp 4) (.tmp 15) rfl wr.heap.size r Hsm.out rfl rfl _ (heap_alloc_new wr _) rfl ?_; intro w3 hA3 hG3; have HA3 := Hid.mk hA3; have HB3 : Hid (Below wr.heap.size wr w3) := ⟨((Chg.ofBelow (X := []) ((Below.refl _ wr).alloc (Nat.le_refl _) _)).thenNew hG3 (by simp)).below (Nat.le_refl _) (by simp)⟩; clear hA3 hG3))
      obtain ⟨q, Hq⟩ : ∃ q, Hid (wr.heap.size = q) := ⟨_, ⟨rfl⟩⟩
      rw [Hq.out] at HA3 HB3 ⊢
      clear Hc
      have HcR : Hid (∀ j v, (rc r)[j]? = some v → w3.cell? ⟨q, 0 + j, none⟩ = some v) := ⟨fun j v hv => by rw [Nat.zero_add, HA3.out.cell j]; exact hv⟩
      have t2 := put_any (w := w3.alloc (.cells (rc r).toArray 56)) (.slice (some ⟨w3.heap.size, 0, none⟩) 1 1) [r] (rdr_one w3 r Hsm.out) (by simp)
      rw [put_one] at t2
      generalize (putR [r]).1 = PB at t2
      obtain ⟨T, HT2⟩ : ∃ T, Hid (rt r = T) := ⟨_, ⟨rfl⟩⟩
      rw [HT2.out] at t2
      obtain ⟨w4, Hw4⟩ : ∃ x, Hid (w3.alloc (.cells (rc r).toArray 56) = x) := ⟨_, ⟨rfl⟩⟩
      rw [Hw4.out] at t2
      have HB4 : Hid (Below w.heap.size w w4) := ⟨HB.out.trans (by rw [← Hw4.out]; exact (HB3.out.mono (by rw [← Hq.out]; exact HB.out.size)).alloc (Nat.le_trans HB.out.size (Nat.le_trans (by rw [Hq.out]; exact Nat.le_refl _) (Nat.le_of_lt HA3.out.lt))) _)⟩
      have Hb4 : Hid (w.heap.size ≤ w4.heap.size) := ⟨HB4.out.size⟩
      cases T with
      | false =>
        have HRf : R = 2 := by
          rw [HR'.out, if_neg (fun hall => ?_)]
          have := List.all_eq_true.1 hall r Hmem.out
          rw [HT2.out] at this
          cases this
        subst HRf
        simp only [Bool.false_eq_true, if_false] at t2
        go_wp2_with (first
          | (refine wp_loadA rfl 56 (.tmp 4) rfl q 0 rfl (rc r) _ HcR.out Try.underlying56 rfl Hi.out ?_)
          | (refine wp_sliceE eltR rfl (.tmp 17) rfl (rc r).toArray rfl Hsz.out (by decide) ?_; rw [Hw4.out])
          | (go_at_call 33; refine t2.mono ?_; rintro e w5 ⟨v5, rfl, _, hb5⟩))
        go_ret
        exact ⟨rfl, HB4.out.trans (hb5.mono Hb4.out)⟩
      | true =>
        simp only [if_true] at t2
        go_wp2_with (first
          | (refine wp_loadA rfl 56 (.tmp 4) rfl q 0 rfl (rc r) _ HcR.out Try.underlying56 rfl Hi.out ?_)
          | (refine wp_sliceE eltR rfl (.tmp 17) rfl (rc r).toArray rfl Hsz.out (by decide) ?_; rw [Hw4.out])
          | (go_at_call 33; refine t2.mono ?_; rintro e w5 ⟨v5, rfl, _, hb5⟩))
        go_roundg (n - (kk + 1))
        case measure => omega
        case rel =>
          refine ⟨kk + 1, by omega, by omega, by go_num, ⟨HB4.out.trans (hb5.mono Hb4.out)⟩, ⟨fun x hx => ?_⟩⟩
          rw [HTs.out] at hx
          rcases List.mem_append.1 hx with z | z
          · exact HT.out x z
          · simp at z; subst z; exact HT2.out
    · obtain rfl : n = kk := by omega
      have HTt : Hid (L.take n = L) := ⟨List.take_of_length_le (by rw [Hn.out]; exact Nat.le_refl _)⟩
      rw [HTt.out] at HT
      have HRt : R = 0 := by rw [HR'.out, if_pos (List.all_eq_true.2 (fun x hx => HT.out x hx))]
      subst HRt
      go_wp2_with fail
      go_ret
      exact ⟨rfl, HB.out⟩
end
end Go.Proofs.Ytkkcdmdkjedkjaa
