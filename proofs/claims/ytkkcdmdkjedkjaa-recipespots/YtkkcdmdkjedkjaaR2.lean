/- The document's Check, Size, Find. -/
import Derived.Test.YtkkcdmdkjedkjaaR1
import Derived.Test.YtkkcdmdkjedkjaaRefRight
namespace Go.Proofs.Ytkkcdmdkjedkjaa
open Go.RowKit Go.Lib

/-- How many bytes each chunk has. -/
def lens (L : List Rf) : List Nat := L.map (fun r => r.l.toNat)
theorem lens_len (L : List Rf) : (lens L).length = L.length := by simp [lens]
/-- Refs that make a recipe. -/
structure Rt (L : List Rf) : Prop where
  all : ∀ r ∈ L, rt r = true
  few : L.length ≤ 256
theorem lens_at {L : List Rf} (h : Rt L) {i : Nat} (hi : i < L.length) : (L.getD i r0).l = ((lens L).getD i 0 : Int) ∧ 1 ≤ (lens L).getD i 0 ∧ (lens L).getD i 0 ≤ 512 := by
  have h1 := (rt_iff _).1 (h.all _ (getD_mem' (d := r0) hi))
  have h2 : (lens L).getD i 0 = (L.getD i r0).l.toNat := by simp [lens, List.getD, List.getElem?_eq_getElem hi]
  rw [h2]
  omega
theorem lens_pos {L : List Rf} (h : Rt L) : ∀ l ∈ lens L, 1 ≤ l ∧ l ≤ 512 := by
  intro l hl
  obtain ⟨r, hr, rfl⟩ := List.mem_map.1 hl
  have h1 := (rt_iff _).1 (h.all r hr)
  omega
theorem upto_512 {ls : List Nat} (h : ∀ l ∈ ls, 1 ≤ l ∧ l ≤ 512) : ∀ i, i ≤ ls.length → Rp.upto ls i ≤ 512 * i
  | 0, _ => by rw [Rp.upto_zero]; omega
  | i + 1, hi => by
    rw [Rp.upto_succ ls i hi]
    have h1 := upto_512 h i (by omega)
    have h2 := (h _ (getD_mem' (d := 0) (show i < ls.length from hi))).2
    omega
theorem lens_sum {L : List Rf} (h : Rt L) : (lens L).sum ≤ 131072 := by
  have h1 := upto_512 (lens_pos h) _ (Nat.le_refl _)
  rw [Rp.upto_len] at h1
  have := h.few
  rw [lens_len] at h1
  omega
/-- A chunk's Len, where it stands. -/
theorem RdR.len {w : World} {v : Value} {L : List Rf} (h : RdR w v L) {i : Nat} (hi : i < L.length) : ∃ b off cap, v = .slice (some ⟨b, off, none⟩) L.length cap ∧ w.cell? ⟨b, off + i * 35 + 32, none⟩ = some (.int .i64 (L.getD i r0).l) := by
  obtain ⟨b, off, cap, e, hc⟩ := h.ref hi
  exact ⟨b, off, cap, e, hc 32 _ (rc_num _ (h.sum hi)).1⟩
section
variable {w : World}
set_option maxHeartbeats 4000000 in
set_option maxRecDepth 100000 in
theorem rcheck_any (v : Value) (L : List Rf) (h : RdR w v L) (hL : L.length ≤ 10000000000000) : Calls Try.prog 10 #[v] w fun e w' => e = .returned (.int .i64 (chk L)) ∧ Below w.heap.size w w' := by
  have H := Hid.mk h
  have HP : Hid (chk L = if 256 < L.length then 6 else if L.all rt then 0 else 2) := ⟨rfl⟩
  obtain ⟨n, Hn⟩ : ∃ n, Hid (L.length = n) := ⟨_, ⟨rfl⟩⟩
  obtain ⟨av, cv, rfl, hcv, hcm, _⟩ := h.shape
  rw [Hn.out] at HP hL H hcv ⊢
  obtain ⟨R, HR⟩ : ∃ R, Hid (chk L = R) := ⟨_, ⟨rfl⟩⟩
  rw [HR.out] at HP ⊢
  clear h
  by_cases h256 : 256 < n
  · have e : R = 6 := by rw [HP.out, if_pos h256]
    subst e
    have hz : (256 : Int) < (n : Int) := by omega
    go_enter Try.func10, Try.ntmps10
    go_wp2
    go_ret
    exact ⟨rfl, Below.refl _ _⟩
  have HR' : Hid (R = if L.all rt then 0 else 2) := ⟨by rw [HP.out, if_neg h256]⟩
  have hnz : ¬ (256 : Int) < (n : Int) := by omega
  go_enter Try.func10, Try.ntmps10
  go_wp2_with fail
  go_loopg [3] n (fun gg s3 wr => ∃ kk : Nat, kk ≤ n ∧ n - kk ≤ gg ∧ s3 = .int .i64 (kk : Int) ∧ Hid (Below w.heap.size w wr) ∧ Hid (∀ r ∈ L.take kk, rt r = true))
  case atStart => exact ⟨0, Nat.zero_le _, by omega, rfl, ⟨Below.refl _ _⟩, ⟨by simp⟩⟩
  case round =>
    obtain ⟨kk, hkk, hgg, rfl, HB, HT⟩ := hrel
    by_cases hlt : kk < n
    · have hltz : (kk : Int) < (n : Int) := by omega
      have hkL : kk < L.length := by rw [Hn.out]; exact hlt
      have hRd : RdR wr (.slice av n cv) L := H.out.below HB.out
      obtain ⟨b, off, cap, e, hc⟩ := hRd.ref hkL
      have hsm := hRd.sum hkL
      rw [Hn.out] at e
      simp at e
      obtain ⟨rfl, rfl⟩ := e
      have HTs : Hid (L.take (kk + 1) = L.take kk ++ [L.getD kk r0]) := ⟨by rw [List.take_add_one, List.getElem?_eq_getElem hkL]; simp [List.getD, List.getElem?_eq_getElem hkL]⟩
      have Hmem : Hid (L.getD kk r0 ∈ L) := ⟨getD_mem' hkL⟩
      generalize L.getD kk r0 = r at hc hsm HTs Hmem
      have Hc := Hid.mk hc
      have Hi : Hid ((Try.prog.info? 56).map (·.size) = some (rc r).length) := ⟨by rw [rc_len r hsm]; exact info28⟩
      have t2 := rright_any (w := wr) r hsm
      clear hc hsm hRd
      obtain ⟨T, HT2⟩ : ∃ T, Hid (rt r = T) := ⟨_, ⟨rfl⟩⟩
      rw [HT2.out] at t2
      cases T with
      | false =>
        have HRf : R = 2 := by
          rw [HR'.out, if_neg (fun hall => ?_)]
          have := List.all_eq_true.1 hall r Hmem.out
          rw [HT2.out] at this
          cases this
        subst HRf
        go_wp2_with (first
          | (refine wp_loadA rfl 56 (.tmp 15) rfl b (off + kk * 35) rfl (rc r) _ Hc.out Try.underlying56 rfl Hi.out ?_)
          | (go_at_call 32; refine t2.mono ?_; rintro e w5 ⟨rfl, hb5⟩))
        go_ret
        exact ⟨rfl, HB.out.trans (hb5.mono HB.out.size)⟩
      | true =>
        go_wp2_with (first
          | (refine wp_loadA rfl 56 (.tmp 15) rfl b (off + kk * 35) rfl (rc r) _ Hc.out Try.underlying56 rfl Hi.out ?_)
          | (go_at_call 32; refine t2.mono ?_; rintro e w5 ⟨rfl, hb5⟩))
        go_roundg (n - (kk + 1))
        case measure => omega
        case rel =>
          refine ⟨kk + 1, by omega, by omega, by go_num, ⟨HB.out.trans (hb5.mono HB.out.size)⟩, ⟨fun x hx => ?_⟩⟩
          rw [HTs.out] at hx
          rcases List.mem_append.1 hx with z | z
          · exact HT.out x z
          · simp at z; subst z; exact HT2.out
    · obtain rfl : n = kk := by omega
      have HTt : Hid (L.take n = L) := ⟨List.take_of_length_le (by rw [Hn.out]; exact Nat.le_refl _)⟩
      rw [HTt.out] at HT
      have HRt : R = 0 := by rw [HR'.out, if_pos (List.all_eq_true.2 (fun x hx => HT.out x hx))]
      subst HRt
      go_wp2_with fail
      go_ret
      exact ⟨rfl, HB.out⟩
set_option maxHeartbeats 4000000 in
set_option maxRecDepth 100000 in
theorem rsize_any (v : Value) (L : List Rf) (h : RdR w v L) (hR : Rt L) : Calls Try.prog 15 #[v] w fun e w' => e = .returned (.int .i64 ((lens L).sum : Nat)) ∧ w = w' := by
  have H := Hid.mk h
  obtain ⟨n, Hn⟩ : ∃ n, Hid (L.length = n) := ⟨_, ⟨rfl⟩⟩
  obtain ⟨av, cv, rfl, hcv, hcm, _⟩ := h.shape
  have hn : n ≤ 256 := by rw [← Hn.out]; exact hR.few
  have HR := Hid.mk hR
  have HU : Hid (Rp.upto (lens L) n = (lens L).sum) := ⟨by rw [← Hn.out, ← lens_len, Rp.upto_len]⟩
  rw [Hn.out] at H hcv ⊢
  rw [← HU.out]
  clear h hR
  go_enter Try.func15, Try.ntmps15
  go_wp2_with fail
  go_loopg [3, 4] n (fun gg s3 s4 wr => ∃ kk : Nat, kk ≤ n ∧ n - kk ≤ gg ∧ s4 = .int .i64 (kk : Int) ∧ s3 = .int .i64 ((Rp.upto (lens L) kk : Nat) : Int) ∧ w = wr)
  case atStart => exact ⟨0, Nat.zero_le _, by omega, rfl, by rw [Rp.upto_zero]; rfl, rfl⟩
  case round =>
    obtain ⟨kk, hkk, hgg, rfl, rfl, rfl⟩ := hrel
    have hb0 := Rp.upto_le (lens L) kk
    have hb1 := lens_sum HR.out
    by_cases hlt : kk < n
    · have hltz : (kk : Int) < (n : Int) := by omega
      have hkL : kk < L.length := by rw [Hn.out]; exact hlt
      obtain ⟨b, off, cap, e, hc⟩ := H.out.len hkL
      have hl := lens_at HR.out hkL
      rw [hl.1] at hc
      rw [Hn.out] at e
      simp at e
      obtain ⟨rfl, rfl⟩ := e
      have HS := Hid.mk (Rp.upto_succ (lens L) kk (by rw [lens_len]; exact hkL))
      generalize (lens L).getD kk 0 = l at hc hl HS
      generalize Rp.upto (lens L) kk = u at HS hb0
      clear H
      have hl2 := hl.2
      clear hl
      go_wp2_with fail
      go_roundg (n - (kk + 1))
      case measure => omega
      case rel => exact ⟨kk + 1, by omega, by omega, by go_num, by rw [HS.out]; go_num, rfl⟩
    · obtain rfl : n = kk := by omega
      go_wp2_with fail
      go_ret
      exact ⟨rfl, rfl⟩
end
/-- What Find answers. -/
def fdR (ls : List Nat) (off : Int) : Int × Int × Bool := if off < 0 then (0, 0, false) else match Rp.fnd ls 0 off.toNat with
  | some (i, a) => (i, a, true)
  | none => (0, 0, false)
theorem fdR_neg (ls : List Nat) (off : Int) (h : off < 0) : fdR ls off = (0, 0, false) := by unfold fdR; rw [if_pos h]
theorem fdR_none (ls : List Nat) (off : Int) (h : (ls.sum : Int) ≤ off) : fdR ls off = (0, 0, false) := by
  unfold fdR
  rw [if_neg (by omega), Rp.fnd_none ls 0 off.toNat (by omega)]
theorem fdR_at (ls : List Nat) (off i : Nat) (hi : i < ls.length) (h1 : Rp.upto ls i ≤ off) (h2 : off < Rp.upto ls (i + 1)) : fdR ls (off : Int) = ((i : Int), ((off - Rp.upto ls i : Nat) : Int), true) := by
  unfold fdR
  rw [if_neg (by omega), show ((off : Int)).toNat = off by omega, Rp.fnd_at ls 0 off i hi h1 h2]
  simp
section
variable {w : World}
set_option maxHeartbeats 4000000 in
set_option maxRecDepth 100000 in
theorem rfind_any (v : Value) (L : List Rf) (off : Int) (ho : -9223372036854775808 ≤ off ∧ off ≤ 9223372036854775807) (h : RdR w v L) (hR : Rt L) : Calls Try.prog 19 #[v, .int .i64 off] w fun e w' => e = .returned (.tuple #[.int .i64 (fdR (lens L) off).1, .int .i64 (fdR (lens L) off).2.1, .bool (fdR (lens L) off).2.2]) ∧ w = w' := by
  have H := Hid.mk h
  obtain ⟨n, Hn⟩ : ∃ n, Hid (L.length = n) := ⟨_, ⟨rfl⟩⟩
  obtain ⟨av, cv, rfl, hcv, hcm, _⟩ := h.shape
  have hn : n ≤ 256 := by rw [← Hn.out]; exact hR.few
  have HR := Hid.mk hR
  have HU : Hid (Rp.upto (lens L) n = (lens L).sum) := ⟨by rw [← Hn.out, ← lens_len, Rp.upto_len]⟩
  rw [Hn.out] at H hcv ⊢
  clear h hR
  obtain ⟨F, HF⟩ : ∃ F, Hid (fdR (lens L) off = F) := ⟨_, ⟨rfl⟩⟩
  rw [HF.out]
  by_cases hneg : off < 0
  · have e : F = (0, 0, false) := by rw [← HF.out]; exact fdR_neg _ _ hneg
    subst e
    go_enter Try.func19, Try.ntmps19
    go_wp2_with fail
    go_ret3
    exact ⟨rfl, rfl⟩
  obtain ⟨o, rfl⟩ := Int.eq_ofNat_of_zero_le (show 0 ≤ off by omega)
  have hnn : ¬ (o : Int) < 0 := by omega
  go_enter Try.func19, Try.ntmps19
  go_wp2_with fail
  go_loopg [1, 7] n (fun gg s1 s7 wr => ∃ kk : Nat, kk ≤ n ∧ n - kk ≤ gg ∧ s7 = .int .i64 (kk : Int) ∧ Rp.upto (lens L) kk ≤ o ∧ s1 = .int .i64 (((o - Rp.upto (lens L) kk : Nat)) : Int) ∧ w = wr)
  case atStart => exact ⟨0, Nat.zero_le _, by omega, rfl, by rw [Rp.upto_zero]; omega, by rw [Rp.upto_zero]; rfl, rfl⟩
  case round =>
    obtain ⟨kk, hkk, hgg, rfl, hle, rfl, rfl⟩ := hrel
    by_cases hlt : kk < n
    · have hltz : (kk : Int) < (n : Int) := by omega
      have hkL : kk < L.length := by rw [Hn.out]; exact hlt
      obtain ⟨b, of, cap, e, hc⟩ := H.out.len hkL
      have hl := lens_at HR.out hkL
      rw [hl.1] at hc
      rw [Hn.out] at e
      simp at e
      obtain ⟨rfl, rfl⟩ := e
      have HS := Hid.mk (Rp.upto_succ (lens L) kk (by rw [lens_len]; exact hkL))
      have HA : Hid (o < Rp.upto (lens L) (kk + 1) → F = ((kk : Int), ((o - Rp.upto (lens L) kk : Nat) : Int), true)) := ⟨fun h => by rw [← HF.out]; exact fdR_at _ _ _ (by rw [lens_len]; exact hkL) hle h⟩
      generalize (lens L).getD kk 0 = l at hc hl HS
      obtain ⟨u1, Hu1⟩ : ∃ u1, Hid (Rp.upto (lens L) (kk + 1) = u1) := ⟨_, ⟨rfl⟩⟩
      rw [Hu1.out] at HS HA
      generalize Rp.upto (lens L) kk = u at HS hle HA ⊢
      have hl2 := hl.2
      clear hl
      obtain ⟨d, Hd⟩ : ∃ d, Hid (o - u = d) := ⟨_, ⟨rfl⟩⟩
      rw [Hd.out] at HA ⊢
      by_cases hin : d < l
      · have e := HA.out (by rw [HS.out]; have := Hd.out; omega)
        subst e
        have hinz : (d : Int) < (l : Int) := by omega
        clear HA H
        go_wp2_with fail
        go_ret3
        exact ⟨rfl, rfl⟩
      · have hinz : ¬ (d : Int) < (l : Int) := by omega
        have hdb : (d : Int) ≤ 9223372036854775807 := by have := Hd.out; omega
        clear HA H
        go_wp2_with fail
        go_roundg (n - (kk + 1))
        case measure => omega
        case rel => exact ⟨kk + 1, by omega, by omega, by go_num, by rw [Hu1.out, HS.out]; have := Hd.out; omega, by rw [Hu1.out, HS.out, show ((o - (u + l) : Nat) : Int) = (d : Int) - l by have := Hd.out; omega], rfl⟩
    · obtain rfl : n = kk := by omega
      have e : F = (0, 0, false) := by rw [← HF.out]; exact fdR_none _ _ (by rw [← HU.out]; omega)
      subst e
      go_wp2_with fail
      go_ret3
      exact ⟨rfl, rfl⟩
end
end Go.Proofs.Ytkkcdmdkjedkjaa
