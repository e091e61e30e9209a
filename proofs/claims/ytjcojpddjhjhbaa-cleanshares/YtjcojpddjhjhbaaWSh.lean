/- The law CleanShares. -/
import Derived.Test.YtjcojpddjhjhbaaD6
namespace Go.Proofs.Ytjcojpddjhjhbaa
open Go.RowKit Go.Lib

section
variable {w : World}
set_option maxHeartbeats 8000000 in
set_option maxRecDepth 100000 in
theorem cleanShares_any (v u : Value) (F : List Fl) (L : List Sp) (h : RdF w v F) (hF : F.length ≤ 5000000000000) (hu : RdE sp2 2 q0 w u L) (hL : L.length ≤ 9000000000000) :
    Calls Try.prog 3 #[v, u] w fun e w' => e = .returned (.bool true) ∧ Below w.heap.size w w' := by
  have t1 := shares8 v u F L h hF hu hL
  have HT2 := Hid.mk (fun (W : World) (hb : Below w.heap.size w W) => rshares9 (w := W) v u F L (h.below hb) hF (hu.far (Chg.ofBelow (X := []) hb) (by simp)) hL)
  have HT3 := Hid.mk (fun (W : World) (hb : Below w.heap.size w W) => dead12 (w := W) v u F L (h.below hb) hF (hu.far (Chg.ofBelow (X := []) hb) (by simp)) hL)
  obtain ⟨a, c, rfl, _⟩ := h.shape
  obtain ⟨au, cu, rfl, _⟩ := hu.shape
  obtain ⟨R, HR⟩ : ∃ R, Hid (F.map (shr L) = R) := ⟨_, ⟨rfl⟩⟩
  have HRr : Hid (AllRt R) := ⟨fun s hs => by rw [← HR.out] at hs; obtain ⟨f, _, rfl⟩ := List.mem_map.1 hs; exact shr_rt L f⟩
  have HRl : Hid (R.length = F.length) := ⟨by rw [← HR.out, List.length_map]⟩
  rw [HR.out] at t1 HT2 HT3
  obtain ⟨n, Hn⟩ : ∃ n, Hid (F.length = n) := ⟨_, ⟨rfl⟩⟩
  rw [Hn.out] at t1 HT2 HT3 hF HRl ⊢
  have Hf := Hid.mk (dS_fit HRr.out)
  clear h hu
  go_enter Try.func3, Try.ntmps3
  go_wp2_with fail
  refine t1.mono ?_
  rintro e w1 ⟨x1, rfl, hO1, hB1⟩
  have HO1 := Hid.mk hO1
  have HB1 := Hid.mk hB1
  obtain ⟨a1, c1, e1, _⟩ := (hO1.rd s0).shape
  rw [HRl.out] at e1
  subst e1
  have t2 := HT2.out w1 hB1
  clear t1 hO1 hB1
  go_wp2_with fail
  refine t2.mono ?_
  rintro e w2 ⟨x2, rfl, hO2, hB2⟩
  have HO2 := Hid.mk hO2
  have HR1 : Hid (RdE sh3 3 s0 w2 (.slice a1 n c1) R) := ⟨(HO1.out.far (Chg.ofBelow (X := []) hB2) (by simp)).rd s0⟩
  have HB2 : Hid (Below w.heap.size w w2) := ⟨HB1.out.trans (hB2.mono HB1.out.size)⟩
  obtain ⟨a2, c2, e2, hc2, hc2m, _⟩ := (hO2.rd s0).shape
  rw [HRl.out] at e2 hc2
  subst e2
  have hc2x : c2 ≤ 9223372036854775807 := hc2m
  have HR2 : Hid (RdE sh3 3 s0 w2 (.slice a2 n c2) R) := ⟨hO2.rd s0⟩
  clear t2 hO2 hB2 HO1 HO2
  go_wp2_with fail
  go_loopg [7, 8] n (fun gg s7 s8 wr => ∃ i : Nat, i ≤ n ∧ n - i ≤ gg ∧ s8 = .int .i64 (i : Int) ∧ s7 = .int .i64 (dS R i) ∧ Hid (Below w2.heap.size w2 wr))
  case atStart => exact ⟨0, Nat.zero_le _, by omega, rfl, rfl, ⟨Below.refl _ _⟩⟩
  case round =>
    obtain ⟨i, hi, hgg, rfl, rfl, HB⟩ := hrel
    rename World => wo
    by_cases hlt : i < n
    · have hltz : (i : Int) < (n : Int) := by omega
      have hiL : i < R.length := by rw [HRl.out]; exact hlt
      obtain ⟨g, off, cap, e, hc⟩ := (HR2.out.far (Chg.ofBelow (X := []) HB.out) (by simp)).at' i hiL
      rw [HRl.out] at e
      simp at e
      obtain ⟨rfl, rfl⟩ := e
      have hfi := Hf.out i
      have HDn : Hid (dS R (i + 1) = dS R i + ((R.getD i s0).2.1 - (R.getD i s0).2.2)) := ⟨rfl⟩
      have hrt := HRr.out _ (getD_mem' (d := s0) hiL)
      generalize R.getD i s0 = x at hc HDn hrt
      obtain ⟨y1, y2, y3⟩ := x
      obtain ⟨r1, r2, r3⟩ := hrt
      simp only at r1 r2 r3 HDn
      have k1 := hc 1 (by decide)
      have k2 := hc 2 (by decide)
      clear hc
      simp [sh3] at k1 k2
      obtain ⟨D, HD⟩ : ∃ z, Hid (dS R i = z) := ⟨_, ⟨rfl⟩⟩
      rw [HD.out] at hfi HDn ⊢
      go_upto_region 7 with fail
      go_quiet (fail)
      go_wp2_with fail
      go_roundg (n - (i + 1))
      case measure => omega
      case rel => exact ⟨i + 1, by omega, by omega, by go_num, by rw [HDn.out], ⟨below_drewN HB.out nq⟩⟩
    · obtain rfl : n = i := by omega
      have HBo : Hid (Below w.heap.size w wo) := ⟨HB2.out.trans (HB.out.mono HB2.out.size)⟩
      have HR1o : Hid (RdE sh3 3 s0 wo (.slice a1 n c1) R) := ⟨HR1.out.far (Chg.ofBelow (X := []) HB.out) (by simp)⟩
      have HR2o : Hid (RdE sh3 3 s0 wo (.slice a2 n c2) R) := ⟨HR2.out.far (Chg.ofBelow (X := []) HB.out) (by simp)⟩
      obtain ⟨D, HD⟩ : ∃ z, Hid (dS R n = z) := ⟨_, ⟨rfl⟩⟩
      rw [HD.out] at HT3 ⊢
      clear HR1 HR2 HB
      go_wp2_with fail
      refine (live_any (w := wo)).mono ?_
      rintro e w3 ⟨rfl, hB3⟩
      have HB3 : Hid (Below w.heap.size w w3) := ⟨HBo.out.trans (hB3.mono HBo.out.size)⟩
      have t4 := same11 (w := w3) _ _ R (HR1o.out.far (Chg.ofBelow (X := []) hB3) (by simp)) (HR2o.out.far (Chg.ofBelow (X := []) hB3) (by simp)) (by rw [HRl.out]; omega)
      clear hB3 HR1o HR2o
      go_wp2_with fail
      refine t4.mono ?_
      rintro e w4 ⟨rfl, hB4⟩
      have HB4 : Hid (Below w.heap.size w w4) := ⟨HB3.out.trans (hB4.mono HB3.out.size)⟩
      have t5 := HT3.out w4 HB4.out
      clear t4 hB4
      go_wp2_with fail
      refine t5.mono ?_
      rintro e w5 ⟨rfl, hB5⟩
      have HB5 : Hid (Below w.heap.size w w5) := ⟨HB4.out.trans (hB5.mono HB4.out.size)⟩
      clear t5 hB5
      go_wp2_with fail
      go_ret
      exact ⟨rfl, HB5.out⟩
end
end Go.Proofs.Ytjcojpddjhjhbaa
