/- The document's powers, values, sums of products. -/
import Derived.Test.YtkleaaopbhbpmaaM9
namespace Go.Proofs.Ytkleaaopbhbpmaa
open Go.RowKit Gf

section
variable {w : World}
set_option maxHeartbeats 800000 in
set_option maxRecDepth 100000 in
theorem rpow16 (a : G) (m : Int) (hm : m < 9223372036854775808) : Calls Try.prog 16 #[.int .u8 (gi a), .int .i64 m] w fun e w' => e = .returned (.int .u8 (gi (gpw a m.toNat))) ∧ w = w' := by
  by_cases h0 : m ≤ 0
  · have HR : Hid (gpw a m.toNat = 1) := ⟨by rw [show m.toNat = 0 by omega]; rfl⟩
    rw [HR.out]
    show Calls Try.prog 16 #[.int .u8 (gi a), .int .i64 m] w fun e w' => e = .returned (.int .u8 1) ∧ w = w'
    generalize gi a = x
    go_enter Try.func16, Try.ntmps16
    go_wp2_with fail
    go_ret
    exact ⟨rfl, rfl⟩
  · by_cases hz : a = 0
    · subst hz
      have HR : Hid (gpw 0 m.toNat = 0) := ⟨zero_gpw (by omega)⟩
      rw [HR.out]
      show Calls Try.prog 16 #[.int .u8 0, .int .i64 m] w fun e w' => e = .returned (.int .u8 0) ∧ w = w'
      go_enter Try.func16, Try.ntmps16
      go_wp2_with fail
      go_ret
      exact ⟨rfl, rfl⟩
    · obtain ⟨n, Hn⟩ : ∃ n : Nat, m = n := ⟨m.toNat, by omega⟩
      subst Hn
      have HR := Hid.mk (gpw_mod hz n)
      have hb : (gi a == 0) = false := by
        have e := gi_eq a 0
        rw [decide_eq_false hz] at e
        exact e
      obtain ⟨k, Hk⟩ : ∃ k, Hid (n % 255 = k) := ⟨_, ⟨rfl⟩⟩
      have hk : (n : Int).tmod 255 = (k : Int) := by rw [Int.tmod_eq_emod_of_nonneg (by omega), ← Hk.out]; omega
      have hk2 : k < 255 := by rw [← Hk.out]; exact Nat.mod_lt _ (by decide)
      rw [Hk.out] at HR
      simp only [Int.toNat_natCast]
      rw [← HR.out]
      obtain ⟨x, Hx⟩ : ∃ r, Hid (gi a = r) := ⟨_, ⟨rfl⟩⟩
      rw [Hx.out] at hb
      rw [Hx.out]
      obtain ⟨r, Hr⟩ : ∃ r, Hid (gi (gpw a k) = r) := ⟨_, ⟨rfl⟩⟩
      rw [Hr.out]
      have h0' : ¬ (n : Int) ≤ 0 := h0
      clear hz HR hm
      go_enter Try.func16, Try.ntmps16
      go_wp2_with fail
      go_loop [5, 6] (fun s5 s6 => ∃ i : Nat, i ≤ k ∧ s6 = .int .i64 i ∧ s5 = .int .u8 (gi (gpw a i))) (fun _ s6 => k - (intOf s6).toNat)
      case atStart => exact ⟨0, Nat.zero_le _, rfl, rfl⟩
      case round =>
        obtain ⟨i, hi, rfl, rfl⟩ := hrel
        by_cases hlt : i < k
        · have hltz : (i : Int) < (k : Int) := by omega
          have t := fun w => rmul10 (gpw a i) a w
          rw [show gpw a i * a = gpw a (i + 1) from rfl, Hx.out] at t
          obtain ⟨y, Hy⟩ : ∃ r, Hid (gi (gpw a i) = r) := ⟨_, ⟨rfl⟩⟩
          obtain ⟨z, Hz⟩ : ∃ r, Hid (gi (gpw a (i + 1)) = r) := ⟨_, ⟨rfl⟩⟩
          rw [Hy.out, Hz.out] at t
          rw [Hy.out]
          go_wp2_with (go_at_call 10; refine (t _).mono ?_; rintro e w' ⟨rfl, rfl⟩)
          go_round
          case rel => exact ⟨i + 1, by omega, by go_num, by rw [Hz.out]⟩
          case measure => simp [intOf]; omega
        · obtain rfl : k = i := by omega
          rw [Hr.out]
          go_wp2_with fail
          go_ret
          exact ⟨rfl, rfl⟩
set_option maxHeartbeats 1600000 in
set_option maxRecDepth 100000 in
theorem reval18 (P : List G) (v : Value) (x : G) (hPl : P.length ≤ 1000000000000000) (hv : RdG w v P) : Calls Try.prog 18 #[v, .int .u8 (gi x)] w fun e w' => e = .returned (.int .u8 (gi (ev P x))) ∧ w = w' := by
  obtain ⟨sa, sc, rfl, hsc, hsm, _⟩ := hv.shape
  have HV := Hid.mk hv
  obtain ⟨r, Hr⟩ : ∃ r, Hid (gi (ev P x) = r) := ⟨_, ⟨rfl⟩⟩
  rw [Hr.out]
  have HF : Hid (gi (evs P x P.length) = r) := ⟨by rw [ev_evs]; exact Hr.out⟩
  obtain ⟨n, Hn⟩ : ∃ n, Hid (P.length = n) := ⟨_, ⟨rfl⟩⟩
  rw [Hn.out] at hPl hsc HV HF ⊢
  obtain ⟨xv, Hxv⟩ : ∃ r, Hid (gi x = r) := ⟨_, ⟨rfl⟩⟩
  rw [Hxv.out]
  clear hv Hr hsm
  go_enter Try.func18, Try.ntmps18
  go_wp2_with fail
  go_loop [5, 6, 7] (fun s5 s6 s7 => ∃ i : Nat, i ≤ n ∧ s7 = .int .i64 i ∧ s6 = .int .u8 (gi (gpw x i)) ∧ s5 = .int .u8 (gi (evs P x i))) (fun _ _ s7 => n - (intOf s7).toNat)
  case atStart => exact ⟨0, Nat.zero_le _, rfl, rfl, rfl⟩
  case round =>
    obtain ⟨i, hi, rfl, rfl, rfl⟩ := hrel
    by_cases hlt : i < n
    · have hltz : (i : Int) < (n : Int) := by omega
      have hiL : i < P.length := by rw [Hn.out]; exact hlt
      obtain ⟨g, off, cap, e, _, hc⟩ := HV.out.at hiL
      rw [Hn.out] at e
      simp at e
      obtain ⟨rfl, rfl⟩ := e
      have c1 := hc i hiL
      have t1 := fun w => rmul10 (P.getD i 0) (gpw x i) w
      have t2 := fun w => rmul10 (gpw x i) x w
      rw [show gpw x i * x = gpw x (i + 1) from rfl, Hxv.out] at t2
      have t3 := gi_xor (evs P x i) (P.getD i 0 * gpw x i)
      rw [show evs P x i + P.getD i 0 * gpw x i = evs P x (i + 1) from rfl] at t3
      obtain ⟨z1, Hz1⟩ : ∃ r, Hid (gi (P.getD i 0 * gpw x i) = r) := ⟨_, ⟨rfl⟩⟩
      obtain ⟨z2, Hz2⟩ : ∃ r, Hid (gi (gpw x i) = r) := ⟨_, ⟨rfl⟩⟩
      obtain ⟨z3, Hz3⟩ : ∃ r, Hid (gi (gpw x (i + 1)) = r) := ⟨_, ⟨rfl⟩⟩
      obtain ⟨z4, Hz4⟩ : ∃ r, Hid (gi (evs P x i) = r) := ⟨_, ⟨rfl⟩⟩
      obtain ⟨z5, Hz5⟩ : ∃ r, Hid (gi (evs P x (i + 1)) = r) := ⟨_, ⟨rfl⟩⟩
      obtain ⟨z6, Hz6⟩ : ∃ r, Hid (gi (P.getD i 0) = r) := ⟨_, ⟨rfl⟩⟩
      rw [Hz6.out] at c1
      rw [Hz1.out, Hz2.out, Hz6.out] at t1
      rw [Hz2.out, Hz3.out] at t2
      rw [Hz1.out, Hz4.out, Hz5.out] at t3
      rw [Hz2.out, Hz4.out]
      clear hc
      go_upto_region 7 with (go_at_call 10; refine (t1 _).mono ?_; rintro e w' ⟨rfl, rfl⟩)
      go_wp2_with (go_at_call 10; refine (t2 _).mono ?_; rintro e w' ⟨rfl, rfl⟩)
      go_round
      case rel => exact ⟨i + 1, by omega, by go_num, by rw [Hz3.out], by rw [Hz5.out]⟩
      case measure => simp [intOf]; omega
    · obtain rfl : n = i := by omega
      rw [HF.out]
      go_wp2_with fail
      go_ret
      exact ⟨rfl, rfl⟩
set_option maxHeartbeats 1600000 in
set_option maxRecDepth 100000 in
theorem rdot20 (u v : Value) (a b : List G) (ha : a.length ≤ 1000000000000000) (hb : b.length ≤ 1000000000000000) (hu : RdG w u a) (hv : RdG w v b) :
    Calls Try.prog 20 #[u, v] w fun e w' => e = .returned (.int .u8 (gi (dot a b))) ∧ Below w.heap.size w w' := by
  obtain ⟨u1, u2, rfl, hu1, _⟩ := hu.shape
  obtain ⟨v1, v2, rfl, hv1, _⟩ := hv.shape
  have HU := Hid.mk hu
  have HV := Hid.mk hv
  obtain ⟨r, Hr⟩ : ∃ r, Hid (gi (dot a b) = r) := ⟨_, ⟨rfl⟩⟩
  rw [Hr.out]
  have HF : Hid (gi (dt (dtf a b) (min a.length b.length)) = r) := ⟨Hr.out⟩
  obtain ⟨na, Hna⟩ : ∃ n, Hid (a.length = n) := ⟨_, ⟨rfl⟩⟩
  obtain ⟨nb, Hnb⟩ : ∃ n, Hid (b.length = n) := ⟨_, ⟨rfl⟩⟩
  rw [Hna.out] at ha hu1 HU HF ⊢
  rw [Hnb.out] at hb hv1 HV HF ⊢
  clear hu hv Hr
  go_enter Try.func20, Try.ntmps20
  go_wp2_with fail
  go_loopg [5, 6] (min na nb) (fun gg s5 s6 wr => ∃ i : Nat, i ≤ min na nb ∧ min na nb - i ≤ gg ∧ s6 = .int .i64 (i : Int) ∧ s5 = .int .u8 (gi (dt (dtf a b) i)) ∧ Hid (Below w.heap.size w wr))
  case atStart => exact ⟨0, Nat.zero_le _, by omega, rfl, rfl, ⟨Below.refl _ _⟩⟩
  case round =>
    obtain ⟨i, hi, hgg, rfl, rfl, HB⟩ := hrel
    rename World => wo
    by_cases hla : i < na
    · have hla' : (i : Int) < (na : Int) := by omega
      by_cases hlb : i < nb
      · have hlb' : (i : Int) < (nb : Int) := by omega
        have hiA : i < a.length := by rw [Hna.out]; exact hla
        have hiB : i < b.length := by rw [Hnb.out]; exact hlb
        obtain ⟨g1, o1, p1, e, _, hc1⟩ := (HU.out.far (Chg.ofBelow (X := []) HB.out) (by simp)).at hiA
        rw [Hna.out] at e
        simp at e
        obtain ⟨rfl, rfl⟩ := e
        obtain ⟨g2, o2, p2, e, _, hc2⟩ := (HV.out.far (Chg.ofBelow (X := []) HB.out) (by simp)).at hiB
        rw [Hnb.out] at e
        simp at e
        obtain ⟨rfl, rfl⟩ := e
        have c1 := hc1 i hiA
        have c2 := hc2 i hiB
        have t := fun w => rmul10q (a.getD i 0) (b.getD i 0) w
        have t2 := gi_xor (dt (dtf a b) i) (dtf a b i)
        rw [show dt (dtf a b) i + dtf a b i = dt (dtf a b) (i + 1) from rfl] at t2
        rw [show a.getD i 0 * b.getD i 0 = dtf a b i from rfl] at t
        obtain ⟨z1, Hz1⟩ : ∃ r, Hid (gi (dt (dtf a b) i) = r) := ⟨_, ⟨rfl⟩⟩
        obtain ⟨z2, Hz2⟩ : ∃ r, Hid (gi (dtf a b i) = r) := ⟨_, ⟨rfl⟩⟩
        obtain ⟨z3, Hz3⟩ : ∃ r, Hid (gi (dt (dtf a b) (i + 1)) = r) := ⟨_, ⟨rfl⟩⟩
        rw [Hz1.out, Hz2.out, Hz3.out] at t2
        rw [Hz2.out] at t
        generalize gi (a.getD i 0) = y1 at c1 t
        generalize gi (b.getD i 0) = y2 at c2 t
        rw [Hz1.out]
        clear hc1 hc2
        go_upto_region 5 with fail
        go_quiet ((go_at_call 10; exact Calls.quiet_of_same (t _)))
        go_wp2_with fail
        go_roundg (min na nb - (i + 1))
        case measure => omega
        case rel => exact ⟨i + 1, by omega, by omega, by go_num, by rw [Hz3.out], ⟨below_drewN HB.out nq⟩⟩
      · have hlb' : ¬ (i : Int) < (nb : Int) := by omega
        have HX : Hid (gi (dt (dtf a b) i) = r) := ⟨by rw [← HF.out]; congr 2; omega⟩
        rw [HX.out]
        go_wp2_with fail
        go_ret
        exact ⟨rfl, HB.out⟩
    · have hla' : ¬ (i : Int) < (na : Int) := by omega
      have HX : Hid (gi (dt (dtf a b) i) = r) := ⟨by rw [← HF.out]; congr 2; omega⟩
      rw [HX.out]
      go_wp2_with fail
      go_ret
      exact ⟨rfl, HB.out⟩
end
end Go.Proofs.Ytkleaaopbhbpmaa
