/- The document's has; shares that are the same; Dead. -/
import Derived.Test.YtjcojpddjhjhbaaC17
import Derived.BigQuiet
namespace Go.Proofs.Ytjcojpddjhjhbaa
open Go.RowKit Go.Lib

def dS (L : List Sh) : Nat → Int
  | 0 => 0
  | j + 1 => dS L j + ((L.getD j s0).2.1 - (L.getD j s0).2.2)
theorem dS_fit {L : List Sh} (h : AllRt L) : ∀ j, 0 ≤ dS L j ∧ dS L j ≤ 32768 * j
  | 0 => ⟨Int.le_refl _, Int.le_refl _⟩
  | j + 1 => by
    have ih := dS_fit h j
    have hr := rt_at h j
    unfold At at hr
    obtain ⟨a, b, c⟩ := hr
    unfold dS
    omega
section
variable {w : World}
set_option maxHeartbeats 4000000 in
set_option maxRecDepth 100000 in
theorem has20 (v : Value) (L : List Sp) (b s : Int) (h : RdE sp2 2 q0 w v L) (hL : L.length ≤ 9000000000000) : Calls Try.prog 20 #[v, .int .i64 b, .int .i64 s] w fun e w' => e = .returned (.bool (decide ((b, s) ∈ L))) ∧ w = w' := by
  have H := Hid.mk h
  obtain ⟨a, c, rfl, hlc, hcm, _⟩ := h.shape
  have hcx : c ≤ 9223372036854775807 := hcm
  obtain ⟨n, Hn⟩ : ∃ n, Hid (L.length = n) := ⟨_, ⟨rfl⟩⟩
  rw [Hn.out] at H hL hlc ⊢
  have HTe : Hid (L.take n = L) := ⟨List.take_of_length_le (by rw [Hn.out]; exact Nat.le_refl _)⟩
  obtain ⟨z, Hz⟩ : ∃ z, Hid (decide ((b, s) ∈ L) = z) := ⟨_, ⟨rfl⟩⟩
  rw [Hz.out]
  clear h
  go_enter Try.func20, Try.ntmps20
  go_wp2_with fail
  go_loopg [7] n (fun gg s7 wr => ∃ i : Nat, i ≤ n ∧ n - i ≤ gg ∧ s7 = .int .i64 (i : Int) ∧ Hid ((b, s) ∉ L.take i) ∧ Hid (wr = w))
  case atStart => exact ⟨0, Nat.zero_le _, by omega, rfl, ⟨by simp⟩, ⟨rfl⟩⟩
  case round =>
    obtain ⟨i, hi, hgg, rfl, HN, HW⟩ := hrel
    have ew := HW.out
    subst ew
    by_cases hlt : i < n
    · have hltz : (i : Int) < (n : Int) := by omega
      have hiL : i < L.length := by rw [Hn.out]; exact hlt
      obtain ⟨g, off, cap, e, hc⟩ := H.out.at' i hiL
      rw [Hn.out] at e
      simp at e
      obtain ⟨rfl, rfl⟩ := e
      have HSn := Hid.mk (mem_snoc hiL (b, s))
      have Hin : Hid (L.getD i q0 ∈ L) := ⟨getD_mem' hiL⟩
      generalize L.getD i q0 = x at hc HSn Hin
      obtain ⟨x1, x2⟩ := x
      have c0 := hc 0 (by decide)
      have c1 := hc 1 (by decide)
      clear hc
      simp [sp2] at c0 c1
      by_cases h1 : x1 = b
      · by_cases h2 : x2 = s
        · have Hzt : Hid (z = true) := ⟨by rw [← Hz.out]; exact decide_eq_true (by rw [← h1, ← h2]; exact Hin.out)⟩
          have h1b : (x1 == b) = true := by simp [h1]
          have h2b : (x2 == s) = true := by simp [h2]
          clear h1 h2
          go_wp2_with fail
          go_ret
          exact ⟨by rw [Hzt.out]; rfl, rfl⟩
        · have HNn : Hid ((b, s) ∉ L.take (i + 1)) := ⟨fun hm => by
            rcases HSn.out.1 hm with h | h
            · exact HN.out h
            · simp at h; exact h2 h.2.symm⟩
          have h1b : (x1 == b) = true := by simp [h1]
          have h2b : (x2 == s) = false := by simp [h2]
          clear h1 h2
          go_wp2_with fail
          go_roundg (n - (i + 1))
          case measure => omega
          case rel => exact ⟨i + 1, by omega, by omega, by go_num, HNn, ⟨rfl⟩⟩
      · have HNn : Hid ((b, s) ∉ L.take (i + 1)) := ⟨fun hm => by
          rcases HSn.out.1 hm with h | h
          · exact HN.out h
          · simp at h; exact h1 h.1.symm⟩
        have h1b : (x1 == b) = false := by simp [h1]
        clear h1
        go_wp2_with fail
        go_roundg (n - (i + 1))
        case measure => omega
        case rel => exact ⟨i + 1, by omega, by omega, by go_num, HNn, ⟨rfl⟩⟩
    · obtain rfl : n = i := by omega
      rw [HTe.out] at HN
      have Hzf : Hid (z = false) := ⟨by rw [← Hz.out]; exact decide_eq_false HN.out⟩
      go_wp2_with fail
      go_ret
      exact ⟨by rw [Hzf.out]; rfl, rfl⟩
set_option maxHeartbeats 4000000 in
set_option maxRecDepth 100000 in
theorem same11 (u v : Value) (l : List Sh) (hu : RdE sh3 3 s0 w u l) (hv : RdE sh3 3 s0 w v l) (hl : l.length ≤ 6000000000000) : Calls Try.prog 11 #[u, v] w fun e w' => e = .returned (.bool true) ∧ Below w.heap.size w w' := by
  have HU := Hid.mk hu
  have HV := Hid.mk hv
  obtain ⟨au, cu, rfl, hcu, hcum, _⟩ := hu.shape
  obtain ⟨av, cv, rfl, hcv, hcvm, _⟩ := hv.shape
  obtain ⟨n, Hn⟩ : ∃ n, Hid (l.length = n) := ⟨_, ⟨rfl⟩⟩
  rw [Hn.out] at HU HV hcu hcv hl ⊢
  have hg := guard27
  clear hu hv
  go_enter Try.func11, Try.ntmps11
  go_wp2_with fail
  go_loopg [5] n (fun gg s5 wr => ∃ i : Nat, i ≤ n ∧ n - i ≤ gg ∧ s5 = .int .i64 (i : Int) ∧ Hid (Below w.heap.size w wr))
  case atStart => exact ⟨0, Nat.zero_le _, by omega, rfl, ⟨Below.refl _ _⟩⟩
  case round =>
    obtain ⟨i, hi, hgg, rfl, HB⟩ := hrel
    rename World => wo
    by_cases hlt : i < n
    · have hltz : (i : Int) < (n : Int) := by omega
      have hiL : i < l.length := by rw [Hn.out]; exact hlt
      obtain ⟨b, off, cap, e, hc⟩ := (HU.out.far (Chg.ofBelow (X := []) HB.out) (by simp)).at' i hiL
      rw [Hn.out] at e
      simp at e
      obtain ⟨rfl, rfl⟩ := e
      obtain ⟨b', off', cap', e, hc'⟩ := (HV.out.far (Chg.ofBelow (X := []) HB.out) (by simp)).at' i hiL
      rw [Hn.out] at e
      simp at e
      obtain ⟨rfl, rfl⟩ := e
      generalize l.getD i s0 = x at hc hc'
      obtain ⟨x1, x2, x3⟩ := x
      have c0 := hc 0 (by decide)
      have c1 := hc 1 (by decide)
      have c2 := hc 2 (by decide)
      have d0 := hc' 0 (by decide)
      have d1 := hc' 1 (by decide)
      have d2 := hc' 2 (by decide)
      clear hc hc'
      simp [sh3] at c0 c1 c2 d0 d1 d2
      have hq := fun W => ne27 W x1 x2 x3
      go_upto_region 6 with fail
      go_quiet (fail)
      go_wp2_with fail
      go_roundg (n - (i + 1))
      case measure => omega
      case rel => exact ⟨i + 1, by omega, by omega, by go_num, ⟨below_drewN HB.out nq⟩⟩
    · obtain rfl : n = i := by omega
      go_wp2_with fail
      go_ret
      exact ⟨rfl, HB.out⟩
set_option maxHeartbeats 4000000 in
set_option maxRecDepth 100000 in
theorem dead12 (v u : Value) (F : List Fl) (L : List Sp) (h : RdF w v F) (hF : F.length ≤ 5000000000000) (hu : RdE sp2 2 q0 w u L) (hL : L.length ≤ 9000000000000) :
    Calls Try.prog 12 #[v, u] w fun e w' => e = .returned (.int .i64 (dS (F.map (shr L)) F.length)) ∧ Below w.heap.size w w' := by
  have t1 := shares8 v u F L h hF hu hL
  obtain ⟨a, c, rfl, _⟩ := h.shape
  obtain ⟨au, cu, rfl, _⟩ := hu.shape
  obtain ⟨R, HR⟩ : ∃ R, Hid (F.map (shr L) = R) := ⟨_, ⟨rfl⟩⟩
  have HRr : Hid (AllRt R) := ⟨fun s hs => by rw [← HR.out] at hs; obtain ⟨f, _, rfl⟩ := List.mem_map.1 hs; exact shr_rt L f⟩
  have HRl : Hid (R.length = F.length) := ⟨by rw [← HR.out, List.length_map]⟩
  rw [HR.out] at t1 ⊢
  obtain ⟨n, Hn⟩ : ∃ n, Hid (F.length = n) := ⟨_, ⟨rfl⟩⟩
  rw [Hn.out] at t1 hF HRl ⊢
  clear h hu
  go_enter Try.func12, Try.ntmps12
  go_wp2_with fail
  refine t1.mono ?_
  rintro e w1 ⟨x, rfl, hO1, hB1⟩
  have HO1 := Hid.mk hO1
  have HB1 := Hid.mk hB1
  obtain ⟨a1, c1, e1, hc1, hc1m, _⟩ := (hO1.rd s0).shape
  rw [HRl.out] at e1 hc1
  subst e1
  have hc1x : c1 ≤ 9223372036854775807 := hc1m
  have Hf := Hid.mk (dS_fit HRr.out)
  clear t1 hO1 hB1
  go_wp2_with fail
  go_loopg [5, 7, 12] n (fun gg s5 _ s12 wr => ∃ i : Nat, i ≤ n ∧ n - i ≤ gg ∧ s12 = .int .i64 (i : Int) ∧ s5 = .int .i64 (dS R i) ∧ Hid (Below w1.heap.size w1 wr))
  case atStart => exact ⟨0, Nat.zero_le _, by omega, rfl, rfl, ⟨Below.refl _ _⟩⟩
  case round =>
    obtain ⟨i, hi, hgg, rfl, rfl, HB⟩ := hrel
    rename World => wo
    by_cases hlt : i < n
    · have hltz : (i : Int) < (n : Int) := by omega
      have hiL : i < R.length := by rw [HRl.out]; exact hlt
      obtain ⟨g, off, cap, e, hc⟩ := ((HO1.out.far (Chg.ofBelow (X := []) HB.out) (by simp)).rd s0).at' i hiL
      rw [HRl.out] at e
      simp at e
      obtain ⟨rfl, rfl⟩ := e
      have hfi := Hf.out i
      have HDn : Hid (dS R (i + 1) = dS R i + ((R.getD i s0).2.1 - (R.getD i s0).2.2)) := ⟨rfl⟩
      have hrt := HRr.out _ (getD_mem' (d := s0) hiL)
      generalize R.getD i s0 = x at hc HDn hrt
      obtain ⟨x1, x2, x3⟩ := x
      obtain ⟨r1, r2, r3⟩ := hrt
      simp only at r1 r2 r3 HDn
      have k0 := hc 0 (by decide)
      have k1 := hc 1 (by decide)
      have k2 := hc 2 (by decide)
      clear hc
      simp [sh3] at k0 k1 k2
      obtain ⟨D, HD⟩ : ∃ z, Hid (dS R i = z) := ⟨_, ⟨rfl⟩⟩
      rw [HD.out] at hfi HDn ⊢
      go_wp2_with fail
      go_roundg (n - (i + 1))
      case measure => omega
      case rel => exact ⟨i + 1, by omega, by omega, by go_num, by rw [HDn.out], ⟨HB.out.trans (((Below.refl _ wo).alloc (Nat.le_refl _) _).mono HB.out.size)⟩⟩
    · obtain rfl : n = i := by omega
      have HBf : Hid (Below w.heap.size w wo) := ⟨HB1.out.trans (HB.out.mono HB1.out.size)⟩
      go_wp2_with fail
      go_ret
      exact ⟨rfl, HBf.out⟩
end
end Go.Proofs.Ytjcojpddjhjhbaa
