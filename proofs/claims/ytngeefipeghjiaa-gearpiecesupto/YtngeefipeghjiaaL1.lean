/- The law's live. -/
import Derived.Test.YtngeefipeghjiaaR4
import Derived.Lib.SlBytesConst
namespace Go.Proofs.Ytngeefipeghjiaa
open Go.RowKit

theorem run_index27 (w : World) (cs : Array Value) (T : Nat → Int) (h : Tab cs T) : (Instr.index 27 (.agg cs) (.int .i64 0)).run Try.prog w = .ok (.int .u32 (T 0)) w := by
  have hz : (Try.prog.info? 26).map (·.size) = some 1 := by kernel_rfl
  cases hq : Try.prog.info? 26 with
  | none => simp [hq] at hz
  | some q =>
    have hs : q.size = 1 := by simp [hq] at hz; exact hz
    have h0 := h.2 0 (by omega)
    simp [Instr.index, run_underlying Try.underlying27, asIntOf, sizeOf, typeInfo, hq, hs, part, h0]
theorem end219 (T : Nat → Int) : endB 2 1 9 T = fun l => decide (2 ≤ l.length) := by
  funext l
  have := hsh_rng T l
  unfold endB
  congr 1
  apply propext
  constructor
  · intro h; omega
  · intro h; exact .inr ⟨by omega, by omega⟩
theorem all219 (T : Nat → Int) : allL (endB 2 1 9 T) [97, 98, 99, 100, 101] = [[97, 98], [99, 100], [101]] := by
  rw [end219]; rfl
theorem tab0 : tabV 0 0 = 3793791033 := by kernel_rfl
theorem ok219 : okC 2 1 9 := by decide
def abc : Array Value := #[.int .u8 97, .int .u8 98, .int .u8 99, .int .u8 100, .int .u8 101]
theorem bs_abc (w : World) : Bs (w.alloc (.cells abc 5 (5, 6))) (.slice (some ⟨w.heap.size, 0, none⟩) 5 5) [97, 98, 99, 100, 101] := by
  refine ⟨_, _, rfl, by decide, by decide, by simp, fun x hx i hi => ?_, ?_⟩
  · cases hx
    rw [add_plain, Nat.zero_add, cell_of_row _ _ _ _ _ _ (heap_alloc_new w (.cells abc 5 (5, 6)))]
    have hi' : i < 5 := hi
    match i, hi' with
    | 0, _ => rfl
    | 1, _ => rfl
    | 2, _ => rfl
    | 3, _ => rfl
    | 4, _ => rfl
  · intro x hx
    simp at hx
    omega
set_option maxHeartbeats 1000000 in
set_option maxRecDepth 100000 in
theorem live_any (w : World) : Calls Try.prog 9 #[] w fun e w' => e = .returned (.bool true) ∧ Below w.heap.size w w' := by
  have t0 := table_any 0 (by decide) (by decide)
  go_enter Try.func9, Try.ntmps9
  go_wp2_with fail
  refine (t0 _).mono ?_
  rintro e w1 ⟨cs, rfl, hT, hb1⟩
  have HT : Hid (Tab cs (tabV 0)) := ⟨hT⟩
  have HB1 : Hid (Below w.heap.size w w1) := ⟨hb1⟩
  have t1 := all_any ok219 cs (tabV 0) hT _ _ (bs_abc w1) (by simp)
  rw [all219] at t1
  have hcv := Lib.run_convert_bytes_const (P := Try.prog) w1 32 5 abc 5 5 Try.underlying32 Try.underlying5
  rw [show abc.size = 5 from rfl] at hcv
  unfold abc at t1 hcv
  clear hT hb1
  go_wp2_with fail
  refine t1.mono ?_
  rintro e w2 ⟨rv, rfl, hO, hOB, hb2⟩
  have HB2 : Hid (Below w.heap.size w w2) := ⟨HB1.out.trans (((Below.refl _ w1).alloc HB1.out.size _).trans (hb2.mono (by simp; have := HB1.out.size; omega)))⟩
  have hR := hO.rows
  obtain ⟨b, off, cap, x, m, q, rfl, hcap, d0, z0⟩ := hR.at (i := 0) (by simp)
  obtain ⟨b2, off2, cap2, x2, m2, q2, e2, _, d2, z2⟩ := hR.at (i := 2) (by simp)
  simp at e2
  obtain ⟨⟨rfl, rfl⟩, rfl⟩ := e2
  have r0 := run_str z0
  have r2 := run_str z2
  have s0 : strOfNums (List.getD [[97, 98], [99, 100], [101]] 0 []) = ⟨#[97, 98]⟩ := rfl
  have s2 : strOfNums (List.getD [[97, 98], [99, 100], [101]] 2 []) = ⟨#[101]⟩ := rfl
  rw [s0] at r0
  rw [Nat.add_zero] at d0
  rw [s2] at r2
  clear hO hOB hb2 hR t1 z0 z2 s0 s2
  go_wp2_with (go_at_call 10; refine (t0 _).mono ?_; rintro e w3 ⟨cs3, rfl, hT3, hb3⟩; have HB3 := Hid.mk hb3; have hix := run_index27 w3 cs3 (tabV 0) hT3; rw [tab0] at hix; clear hT3 hb3 t0)
  go_ret
  exact ⟨rfl, HB2.out.trans (HB3.out.mono HB2.out.size)⟩
end Go.Proofs.Ytngeefipeghjiaa
