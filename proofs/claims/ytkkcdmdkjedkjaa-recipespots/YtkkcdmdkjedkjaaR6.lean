/- The program's Size of refs; the document's Same. -/
import Derived.Test.YtkkcdmdkjedkjaaR5
namespace Go.Proofs.Ytkkcdmdkjedkjaa
open Go.RowKit Go.Lib

theorem and_low (l : Nat) (h : l < 4294967296) : bits .and .i64 (l : Int) 4294967295 = (l : Int) := by
  have hx : l &&& 4294967295 = l := by
    rw [show (4294967295 : Nat) = 2 ^ 32 - 1 by decide, Nat.and_two_pow_sub_one_eq_mod, Nat.mod_eq_of_lt (by omega)]
  have h1 : bits .and .i64 (l : Int) ((4294967295 : Nat) : Int) = ((l &&& 4294967295 : Nat) : Int) := by
    show IntKind.i64.wrap ((BitVec.ofInt 64 (l : Int) &&& BitVec.ofInt 64 ((4294967295 : Nat) : Int)).toNat : Int) = _
    rw [BitVec.toNat_and, ofInt_u64 l (by omega), ofInt_u64 4294967295 (by omega), IntKind.wrap_i64, hx]
    omega
  rw [hx] at h1
  exact h1
theorem or_zero' (l : Nat) (h : l < 4294967296) : bits .or .i64 0 (l : Int) = (l : Int) := by
  have h1 := Oct.i64_or_nat 0 l (by omega) (by omega)
  simpa using h1
section
variable {w : World}
set_option maxHeartbeats 4000000 in
set_option maxRecDepth 100000 in
theorem psize_any (v : Value) (L : List Rf) (h : RdR w v L) (hR : Rt L) : Calls Try.prog 16 #[v] w fun e w' => e = .returned (.int .i64 ((lens L).sum : Nat)) ∧ Below w.heap.size w w' := by
  have H := Hid.mk h
  obtain ⟨n, Hn⟩ : ∃ n, Hid (L.length = n) := ⟨_, ⟨rfl⟩⟩
  obtain ⟨av, cv, rfl, hcv, hcm, _⟩ := h.shape
  have hn : n ≤ 256 := by rw [← Hn.out]; exact hR.few
  have HR := Hid.mk hR
  have HU : Hid (Rp.upto (lens L) n = (lens L).sum) := ⟨by rw [← Hn.out, ← lens_len, Rp.upto_len]⟩
  rw [Hn.out] at H hcv ⊢
  rw [← HU.out]
  obtain ⟨U, HUU⟩ : ∃ U, Hid (Rp.upto (lens L) n = U) := ⟨_, ⟨rfl⟩⟩
  rw [HUU.out]
  clear h hR
  go_enter Try.func16, Try.ntmps16
  go_wp2_with fail
  go_loopg [3, 4, 6, 9] n (fun gg s3 s4 _ s9 wr => ∃ kk : Nat, kk ≤ n ∧ n - kk ≤ gg ∧ s9 = .int .i64 (kk : Int) ∧ s3 = .int .i64 0 ∧ s4 = .int .i64 ((Rp.upto (lens L) kk : Nat) : Int) ∧ Hid (Below w.heap.size w wr))
  case atStart => exact ⟨0, Nat.zero_le _, by omega, rfl, rfl, by rw [Rp.upto_zero]; rfl, ⟨Below.refl _ _⟩⟩
  case round =>
    obtain ⟨kk, hkk, hgg, rfl, rfl, rfl, HB⟩ := hrel
    have hb0 := Rp.upto_le (lens L) kk
    have hb1 := lens_sum HR.out
    by_cases hlt : kk < n
    · have hltz : (kk : Int) < (n : Int) := by omega
      have hkL : kk < L.length := by rw [Hn.out]; exact hlt
      have hRd : RdR wr (.slice av n cv) L := H.out.below HB.out
      obtain ⟨b, off, cap, e, hc⟩ := hRd.ref hkL
      have hsm := hRd.sum hkL
      have hlr := lens_at HR.out hkL
      rw [Hn.out] at e
      simp at e
      obtain ⟨rfl, rfl⟩ := e
      have HS := Hid.mk (Rp.upto_succ (lens L) kk (by rw [lens_len]; exact hkL))
      generalize L.getD kk r0 = r at hc hsm hlr
      generalize (lens L).getD kk 0 = l at hlr HS
      generalize Rp.upto (lens L) kk = u at HS hb0 ⊢
      have Hc := Hid.mk hc
      have Hi : Hid ((Try.prog.info? 56).map (·.size) = some (rc r).length) := ⟨by rw [rc_len r hsm]; exact info28⟩
      have Hsm := Hid.mk hsm
      have Hlr : Hid (r.l = (l : Int)) := ⟨hlr.1⟩
      have hl512 := hlr.2
      clear hc hsm hRd hlr
      go_upto_region 5 with (first
        | (refine wp_loadA rfl 56 (.tmp 11) rfl b (off + kk * 35) rfl (rc r) _ Hc.out Try.underlying56 rfl Hi.out ?_)
        | (refine wp_storeR rfl (.tmp 6) (.tmp 12) rfl wr.heap.size r Hsm.out rfl rfl _ (heap_alloc_new wr _) rfl ?_; intro w6 hA3 hG3; have HA3 := Hid.mk hA3; have HB3 : Hid (Below wr.heap.size wr w6) := ⟨((Chg.ofBelow (X := []) ((Below.refl _ wr).alloc (Nat.le_refl _) _)).thenNew hG3 (by simp)).below (Nat.le_refl _) (by simp)⟩; clear hA3 hG3))
      obtain ⟨q, Hq⟩ : ∃ q, Hid (wr.heap.size = q) := ⟨_, ⟨rfl⟩⟩
      rw [Hq.out] at HA3 HB3 ⊢
      have hq : w6.cell? ⟨q, 32, none⟩ = some (.int .i64 (l : Int)) := by
        have := (HA3.out.cell 32).trans (rc_num r Hsm.out).1
        rw [Hlr.out] at this
        exact this
      clear Hc
      have hand : bits .and .i64 (l : Int) 4294967295 = (l : Int) := and_low l (by omega)
      have hdiv : (l : Int) / 4294967296 = 0 := by omega
      go_wp2_with fail
      go_roundg (n - (kk + 1))
      case measure => omega
      case rel => exact ⟨kk + 1, by omega, by omega, by go_num, rfl, by rw [HS.out]; go_num, ⟨HB.out.trans (HB3.out.mono (by rw [← Hq.out]; exact HB.out.size))⟩⟩
    · obtain rfl : n = kk := by omega
      rw [HUU.out] at hb0 ⊢
      have hand : bits .and .i64 (U : Int) 4294967295 = (U : Int) := and_low U (by omega)
      have hdiv : (U : Int) / 4294967296 = 0 := by omega
      have hor : bits .or .i64 0 (U : Int) = (U : Int) := or_zero' U (by omega)
      go_wp2_with fail
      go_ret
      exact ⟨rfl, HB.out⟩
end
end Go.Proofs.Ytkkcdmdkjedkjaa
