/- live, small: what is asked whatever comes in. -/
import Derived.Lib.SlBytesConst
import Derived.Test.YtoneepoaodoijaaQ7
import Derived.Test.YtoneepoaodoijaaT3
import Derived.Test.YtoneepoaodoijaaFrame
namespace Go.Proofs.Ytoneepoaodoijaa
open Go.RowKit Go.Lib Go.Shelf Oct

theorem bs_rdy {w : World} {v : Value} {l : List Int} (h : Bs w v l) : RdY w v l := by
  obtain ⟨a, cap, e, h1, h2, h3, h4⟩ := h
  exact ⟨a, cap, by rw [yv_len]; exact e, by rw [yv_len]; exact h1, h2, h3, fun x hx i hi => by rw [yv_len] at hi; exact (h4 x hx i hi).trans (yv_get l hi).symm⟩
def P8 : List Int := [97, 98, 97, 98, 97, 98, 97, 98]
theorem p8_m : mtl P8 0 = [(2, 2, 6)] := by decide +kernel
theorem p8_s : sqz P8 = [1, 97, 98, 130, 2] := by
  unfold sqz
  rw [p8_m]
  simp only [pcs]
  rw [lays_app, lays_app, lays_chs, lays_chs]
  have e : lays [(⟨[], 2, 6⟩ : Pc)] = [130, 2] := by simp [lays, lay_cp, numB_small 2 (by decide)]
  rw [e]
  decide +kernel
theorem str_p8 : strOfNums P8 = { data := #[97, 98, 97, 98, 97, 98, 97, 98] } := by decide +kernel
theorem str_s8 : strOfNums [1, 97, 98, 130, 2] = { data := #[1, 97, 98, 130, 2] } := by decide +kernel
section
variable {w : World}
theorem small8 (v : Value) (b : List Int) (hv : RdY w v b) : Calls Try.prog 8 #[v] w fun e w' => ∃ a n c, e = .returned (.slice a n c) ∧ RdY w (.slice a n c) (b.take 1500) ∧ w = w' := by
  obtain ⟨a, c, rfl, hc, hm, hn⟩ := hv.shape
  have HV := Hid.mk hv
  obtain ⟨n, Hn⟩ : ∃ n, Hid (b.length = n) := ⟨_, ⟨rfl⟩⟩
  rw [Hn.out] at HV hc ⊢
  obtain ⟨m, Hm⟩ : ∃ m, Hid (min n 1500 = m) := ⟨_, ⟨rfl⟩⟩
  have hmz : min (n : Int) (1500 : Int) = (m : Int) := by rw [← Hm.out]; omega
  have hmc : m ≤ c := by rw [← Hm.out]; omega
  have hmcz : (m : Int) ≤ (c : Int) := by omega
  have HR : Hid (RdY w (.slice a m c) (b.take 1500)) := ⟨by
    obtain ⟨a', c', e, h1, h2, h3, h4⟩ := HV.out
    simp only [Value.slice.injEq] at e
    obtain ⟨rfl, -, rfl⟩ := e
    have hl : (b.take 1500).length = m := by rw [List.length_take, Hn.out, ← Hm.out]; omega
    refine ⟨a, c, by rw [yv_len, hl], by rw [yv_len, hl]; exact hmc, hm, hn, fun x hx i hi => ?_⟩
    rw [yv_len, hl] at hi
    rw [h4 x hx i (by rw [yv_len, Hn.out]; omega)]
    simp only [yv, List.getElem?_map, List.getElem?_take, if_pos (show i < 1500 by omega)]⟩
  clear hv
  go_enter Try.func8, Try.ntmps8
  cases a with
  | none =>
    have hc0 := hn rfl
    subst hc0
    obtain rfl : m = 0 := by omega
    go_wp2_with fail
    go_ret
    exact ⟨_, _, _, rfl, HR.out, rfl⟩
  | some x =>
    go_wp2_with fail
    go_ret
    exact ⟨_, _, _, rfl, HR.out, rfl⟩
set_option maxHeartbeats 1000000 in
set_option maxRecDepth 100000 in
theorem live11 : Calls Try.prog 11 #[] w fun e w' => e = .returned (.bool true) ∧ Below w.heap.size w w' := by
  obtain ⟨w1, Hw1⟩ : ∃ x, Hid (w.alloc (.cells #[.int .u8 97, .int .u8 98, .int .u8 97, .int .u8 98, .int .u8 97, .int .u8 98, .int .u8 97, .int .u8 98] 5 (8, 9)) = x) := ⟨_, ⟨rfl⟩⟩
  have HB1 : Hid (Below w.heap.size w w1) := ⟨by rw [← Hw1.out]; exact (Below.refl _ w).alloc (Nat.le_refl _) _⟩
  have HX1 : Hid (w1.heap[w.heap.size]? = some (.cells #[.int .u8 97, .int .u8 98, .int .u8 97, .int .u8 98, .int .u8 97, .int .u8 98, .int .u8 97, .int .u8 98] 5 (8, 9))) := ⟨by rw [← Hw1.out]; exact heap_alloc_new w _⟩
  have hR1 : RdY w1 (.slice (some ⟨w.heap.size, 0, none⟩) 8 8) P8 := ⟨_, _, rfl, Nat.le_refl _, by decide, by simp, fun x hx i hi => by
    cases hx
    rw [add_add, cell_of_row _ _ _ _ _ _ HX1.out, Nat.zero_add]
    simp [yv, P8]⟩
  have hby : By P8 := fun x hx => by simp [P8] at hx; omega
  have t1 := put9 (w := w1) _ P8 hR1 hby
  have HBy := Hid.mk hby
  have kc := fun (W : World) (C : Array Value) (n c : Nat) => Go.Lib.run_convert_bytes_const (P := Try.prog) W 22 5 C n c Try.underlying22 Try.underlying5
  clear hR1 hby
  go_enter Try.func11, Try.ntmps11
  go_wp2_with fail
  rw [Hw1.out]
  refine t1.mono ?_
  rintro e w2 ⟨⟨a, n, c, z, L, rfl, hO, hL⟩, hb2⟩
  obtain ⟨rfl, rfl⟩ : L = [1, 97, 98, 130, 2] ∧ z = 0 := by
    rcases hL with ⟨h, _⟩ | ⟨_, h1, h2⟩
    · simp [P8] at h
    · exact ⟨by rw [h1, p8_s], h2⟩
  have t2 := take12 (w := w2) _ _ 8 hO.rd (by intro x hx; simp at hx; omega) ⟨by omega, by omega⟩
  have HB2 : Hid (Below w.heap.size w w2) := ⟨HB1.out.trans (hb2.mono HB1.out.size)⟩
  have HO := Hid.mk hO
  clear t1 hL hb2 hO
  go_wp2_with fail
  refine t2.mono ?_
  rintro e w3 ⟨⟨a3, n3, c3, z3, p3, rfl, hT, hO3⟩, hb3⟩
  have hback := sqz_back HBy.out
  rw [p8_s] at hback
  have hm : min (8 : Int) 8192 = ((P8.length : Nat) : Int) := by decide
  rw [hm] at hT
  obtain ⟨rfl, rfl⟩ := TkR.one (by intro x hx; simp at hx; omega) hT hback
  have HB3 : Hid (Below w.heap.size w w3) := ⟨HB2.out.trans (hb3.mono HB2.out.size)⟩
  have s1 := run_str Try.bt (rdy_bs (HO.out.kc (n := 0) (Kg.below hb3)).rd) 9 Try.underlying9
  have s2 := run_str Try.bt (rdy_bs hO3.rd) 9 Try.underlying9
  rw [str_s8] at s1
  rw [str_p8] at s2
  clear t2 hT hback hb3 hO3
  go_wp2
  go_ret
  exact ⟨rfl, HB3.out⟩
end
end Go.Proofs.Ytoneepoaodoijaa
