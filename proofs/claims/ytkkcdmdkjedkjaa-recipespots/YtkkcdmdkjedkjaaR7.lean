/- The program's Find: the closure, sort.Search. -/
import Derived.Test.YtkkcdmdkjedkjaaR6
namespace Go.Proofs.Ytkkcdmdkjedkjaa
open Go.RowKit Go.Lib

theorem RecX.quiet {w : World} {p : Nat} {rv ev : Value} {L : List Rf} (h : RecX w p rv ev L) (n : Nat) : RecX (w.drewN n) p rv ev L := h.below (below_drewN (Below.refl _ _) n)
theorem Rec.quiet {w : World} {p : Nat} {L : List Rf} (h : Rec w p L) (n : Nat) : Rec (w.drewN n) p L := h.below (below_drewN (Below.refl _ _) n)
section
variable {w : World}
set_option maxHeartbeats 4000000 in
set_option maxRecDepth 100000 in
theorem find1_q {p b c : Nat} {L : List Rf} {off : Int} (h : Rec w p L) (hb : w.cell? ⟨b, 0, none⟩ = some (.pointer (some ⟨p, 0, none⟩))) (hc : w.cell? ⟨c, 0, none⟩ = some (.int .i64 off)) (i : Nat) (hi : i < L.length) :
    Calls Try.prog 35 #[.int .i64 (i : Int), .pointer (some ⟨b, 0, none⟩), .pointer (some ⟨c, 0, none⟩)] w fun e w' => e = .returned (.bool (decide (off < ((Rp.upto (lens L) (i + 1) : Nat) : Int)))) ∧ ∃ n, w' = w.drewN n := by
  obtain ⟨rv, ev, h⟩ := h
  have hc1 := h.cells.2
  have HE := Hid.mk h.ends
  obtain ⟨av, cv, rfl, hcv, hcm, _⟩ := h.ends.shape
  rw [endsI_len] at hc1 hcv HE
  obtain ⟨n, Hn⟩ : ∃ n, Hid (L.length = n) := ⟨_, ⟨rfl⟩⟩
  rw [Hn.out] at hc1 hcv HE hi
  have hlt : i < (endsI L).length := by rw [endsI_len, Hn.out]; omega
  obtain ⟨g, go, cap, e, _, hcell⟩ := HE.out.at hlt
  rw [endsI_len, Hn.out] at e
  simp at e
  obtain ⟨rfl, rfl⟩ := e
  have hx := hcell i hlt
  rw [endsI_at L (by rw [Hn.out]; omega)] at hx
  generalize Rp.upto (lens L) (i + 1) = u at hx
  have hiz : (i : Int) < (n : Int) := by omega
  clear h hcell HE
  go_enter Try.func35, Try.ntmps35
  go_wp2_with fail
  go_quiet (fail)
  go_wp2_with fail
  go_ret
  exact ⟨rfl, _, rfl⟩
set_option maxHeartbeats 4000000 in
set_option maxRecDepth 100000 in
theorem search_q {p b c : Nat} {L : List Rf} {off : Int} (h : Rec w p L) (hb : w.cell? ⟨b, 0, none⟩ = some (.pointer (some ⟨p, 0, none⟩))) (hc : w.cell? ⟨c, 0, none⟩ = some (.int .i64 off)) (hL : L.length ≤ 256) (k : Nat) (hk : k ≤ L.length) (hlo : ∀ i, i < k → ((Rp.upto (lens L) (i + 1) : Nat) : Int) ≤ off) (hhi : ∀ i, k ≤ i → i < L.length → off < ((Rp.upto (lens L) (i + 1) : Nat) : Int)) :
    Calls Try.prog 34 #[.int .i64 (L.length : Nat), .func (.func 35) #[] #[.pointer (some ⟨b, 0, none⟩), .pointer (some ⟨c, 0, none⟩)]] w fun e w' => e = .returned (.int .i64 (k : Int)) ∧ ∃ n, w' = w.drewN n := by
  have HF : Hid (∀ m i, i < L.length → Calls Try.prog 35 #[.int .i64 (i : Int), .pointer (some ⟨b, 0, none⟩), .pointer (some ⟨c, 0, none⟩)] (w.drewN m) fun e w' => e = .returned (.bool (decide (k ≤ i))) ∧ ∃ n, w' = w.drewN n) := ⟨fun m i hi => by
    have t := Calls.quiet_of (find1_q (w := w.drewN m) (h.quiet m) hb hc i hi)
    by_cases hki : k ≤ i
    · rw [decide_eq_true (hhi i hki hi)] at t; rw [decide_eq_true hki]; exact t
    · rw [decide_eq_false (by have := hlo i (by omega); omega)] at t; rw [decide_eq_false hki]; exact t⟩
  obtain ⟨n, Hn⟩ : ∃ n, Hid (L.length = n) := ⟨_, ⟨rfl⟩⟩
  rw [Hn.out] at hk hL HF ⊢
  clear h hlo hhi hb hc
  go_enter Try.func34, Try.ntmps34
  go_wp2_with fail
  go_loopg [5, 6, 7] n (fun gg s5 s6 _ wr => ∃ (i j m : Nat), i ≤ k ∧ k ≤ j ∧ j ≤ n ∧ j - i ≤ gg ∧ s5 = .int .i64 (i : Int) ∧ s6 = .int .i64 (j : Int) ∧ w.drewN m = wr)
  case atStart => exact ⟨0, n, 0, Nat.zero_le _, hk, Nat.le_refl _, by omega, rfl, rfl, rfl⟩
  case round =>
    obtain ⟨i, j, m, hi, hj, hjn, hgg, rfl, rfl, rfl⟩ := hrel
    by_cases hlt : i < j
    · have hltz : (i : Int) < (j : Int) := by omega
      obtain ⟨x, Hx⟩ : ∃ x, Hid ((i + j) / 2 = x) := ⟨_, ⟨rfl⟩⟩
      have hx1 : ((i : Int) + (j : Int)) / 2 = (x : Int) := by rw [← Hx.out]; omega
      have Hx2 : Hid (i ≤ x ∧ x < j) := ⟨by rw [← Hx.out]; omega⟩
      have hxn : x < n := by have := Hx2.out; omega
      have t := HF.out m x hxn
      by_cases hkx : k ≤ x
      · rw [decide_eq_true hkx] at t
        go_wp2_with (go_at_call 35; refine t.mono ?_; rintro e w2 ⟨rfl, m2, e2⟩; subst e2)
        go_roundg (x - i)
        case measure => have := Hx2.out; omega
        case rel => exact ⟨i, x, m2, hi, hkx, by omega, by omega, rfl, rfl, rfl⟩
      · rw [decide_eq_false hkx] at t
        go_wp2_with (go_at_call 35; refine t.mono ?_; rintro e w2 ⟨rfl, m2, e2⟩; subst e2)
        go_roundg (j - (x + 1))
        case measure => have := Hx2.out; omega
        case rel => exact ⟨x + 1, j, m2, by omega, hj, hjn, by omega, by go_num, rfl, rfl⟩
    · obtain rfl : i = k := by omega
      go_wp2_with fail
      go_ret
      exact ⟨rfl, _, rfl⟩
set_option maxHeartbeats 8000000 in
set_option maxRecDepth 100000 in
/-- Find: where a byte is. -/
theorem find_any {p : Nat} {L : List Rf} (off : Int) (ho : -9223372036854775808 ≤ off ∧ off ≤ 9223372036854775807) (h : Rec w p L) (hR : Rt L) : Calls Try.prog 18 #[.pointer (some ⟨p, 0, none⟩), .int .i64 off] w fun e w' => e = .returned (.tuple #[.int .i64 (fdR (lens L) off).1, .int .i64 (fdR (lens L) off).2.1, .bool (fdR (lens L) off).2.2]) ∧ Below w.heap.size w w' := by
  obtain ⟨W, HW⟩ : ∃ x, Hid ((w.alloc (.cells #[.pointer (some ⟨p, 0, none⟩)] 23)).alloc (.cells #[.int .i64 off] 3) = x) := ⟨_, ⟨rfl⟩⟩
  have HBW : Hid (Below w.heap.size w W) := ⟨by rw [← HW.out]; exact ((Below.refl _ w).alloc (Nat.le_refl _) _).alloc (by simp) _⟩
  have HRW : Hid (Rec W p L) := ⟨h.below HBW.out⟩
  obtain ⟨b, Hb⟩ : ∃ x, Hid (w.heap.size = x) := ⟨_, ⟨rfl⟩⟩
  have hcb : W.cell? ⟨b, 0, none⟩ = some (.pointer (some ⟨p, 0, none⟩)) := by rw [← HW.out, ← Hb.out]; simp
  have hco : W.cell? ⟨b + 1, 0, none⟩ = some (.int .i64 off) := by rw [← HW.out, ← Hb.out]; simp
  have HR := Hid.mk hR
  have tq : Hid (∀ d, Calls Try.prog 13 #[.pointer (some ⟨p, 0, none⟩)] (W.drewN d) fun e w' => e = .returned (.int .i64 ((lens L).sum : Nat)) ∧ ∃ n, w' = W.drewN n) := ⟨fun d => Calls.quiet_of (size_q (HRW.out.quiet d) hR.few)⟩
  have HS1 := Hid.mk (lens_sum hR)
  have HF1 := Hid.mk (fdR_neg (lens L) off)
  have HF2 := Hid.mk (fdR_none (lens L) off)
  obtain ⟨F, HF⟩ : ∃ F, Hid (fdR (lens L) off = F) := ⟨_, ⟨rfl⟩⟩
  rw [HF.out] at HF1 HF2 ⊢
  obtain ⟨Z, HZ⟩ : ∃ Z, Hid ((lens L).sum = Z) := ⟨_, ⟨rfl⟩⟩
  rw [HZ.out] at tq HF2 HS1
  have hZ := HS1.out
  have hw2 : (w.alloc (.cells #[.pointer (some ⟨p, 0, none⟩)] 23)).heap.size = b + 1 := by simp [Hb.out]
  clear h hR
  by_cases h0 : off < 0
  · have e := HF1.out h0
    subst e
    go_enter Try.func18, Try.ntmps18
    go_wp2_with fail
    rw [HW.out, Hb.out]
    have hd : decide (off < 0) = true := decide_eq_true h0
    go_quiet (fail)
    go_wp2_with fail
    go_ret3
    exact ⟨rfl, below_drewN HBW.out _⟩
  obtain ⟨o, rfl⟩ := Int.eq_ofNat_of_zero_le (show 0 ≤ off by omega)
  have hd : decide ((o : Int) < 0) = false := decide_eq_false h0
  by_cases h1 : (Z : Int) ≤ (o : Int)
  · have e := HF2.out h1
    subst e
    go_enter Try.func18, Try.ntmps18
    go_wp2_with fail
    rw [HW.out, Hb.out]
    go_quiet ((go_at_call 13; exact tq.out _))
    go_wp2_with fail
    go_ret3
    exact ⟨rfl, below_drewN HBW.out _⟩
  obtain ⟨i, hi, hlo, hhi, _⟩ := Rp.fnd_spec (lens L) 0 o (by rw [HZ.out]; omega)
  have e : F = ((i : Int), ((o - Rp.upto (lens L) i : Nat) : Int), true) := by rw [← HF.out]; exact fdR_at _ _ _ hi hlo hhi
  subst e
  rw [lens_len] at hi
  have hl := lens_at HR.out hi
  have hsu := Rp.upto_succ (lens L) i (by rw [lens_len]; exact hi)
  have hul := Rp.upto_le (lens L) (i + 1)
  rw [HZ.out] at hul
  obtain ⟨rv, ev, hX⟩ := HRW.out
  obtain ⟨gr, orf, cr, er, hcr⟩ := hX.refs.len hi
  obtain ⟨ge, oe, ce, ee, _, hce⟩ := hX.ends.at (show i < (endsI L).length by rw [endsI_len]; exact hi)
  have hce := hce i (by rw [endsI_len]; exact hi)
  rw [endsI_at L hi] at hce
  rw [hl.1] at hcr
  have hp := hX.cells
  subst er ee
  rw [endsI_len] at hp
  have HL : Hid (∀ d, Calls Try.prog 34 #[.int .i64 (L.length : Nat), .func (.func 35) #[] #[.pointer (some ⟨b, 0, none⟩), .pointer (some ⟨b + 1, 0, none⟩)]] (W.drewN d) fun e w' => e = .returned (.int .i64 (i : Int)) ∧ ∃ n, w' = W.drewN n) := ⟨fun d => Calls.quiet_of (search_q (HRW.out.quiet d) hcb hco HR.out.few i (Nat.le_of_lt hi) (fun j hj => by have := Rp.upto_mono (lens L) (show j + 1 ≤ i from hj); omega) (fun j hj _ => by have := Rp.upto_mono (lens L) (show i + 1 ≤ j + 1 by omega); omega))⟩
  obtain ⟨n, Hn⟩ : ∃ n, Hid (L.length = n) := ⟨_, ⟨rfl⟩⟩
  rw [Hn.out] at HL hp hi
  have hn : n ≤ 256 := by rw [← Hn.out]; exact HR.out.few
  have hl2 := hl.2
  generalize (lens L).getD i 0 = l at hcr hl hsu hl2
  generalize Rp.upto (lens L) (i + 1) = u1 at hce hsu hhi hul
  generalize Rp.upto (lens L) i = u at hsu hlo
  subst hsu
  clear hX hl
  have h1n : ¬ (Z : Int) ≤ (o : Int) := h1
  have hdz : decide ((Z : Int) ≤ (o : Int)) = false := decide_eq_false h1
  have hiz : (i : Int) < (n : Int) := by omega
  have hp0 := hp.1
  have hp1 := hp.2
  clear hp
  have HBq : Hid (∀ d, Below w.heap.size w (W.drewN d)) := ⟨fun d => below_drewN HBW.out d⟩
  go_enter Try.func18, Try.ntmps18
  go_wp2_with fail
  rw [HW.out, Hb.out]
  go_quiet ((go_at_call 13; exact tq.out _))
  go_wp2_with (go_at_call 34; refine (HL.out _).mono ?_; rintro e w2 ⟨rfl, m2, e2⟩; subst e2)
  go_quiet (fail)
  go_wp2_with fail
  go_ret3
  refine ⟨?_, below_drewN (HBq.out _) _⟩
  show Ending.returned (.tuple #[.int .i64 (i : Int), .int .i64 ((o : Int) - u), .bool true]) = Ending.returned (.tuple #[.int .i64 (i : Int), .int .i64 ((o - u : Nat) : Int), .bool true])
  rw [show ((o - u : Nat) : Int) = (o : Int) - u by omega]
end
end Go.Proofs.Ytkkcdmdkjedkjaa
