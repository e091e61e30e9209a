/- A seed's table: package gear's Table. -/
import Derived.Test.YtngeefipeghjiaaG9
namespace Go.Proofs.Ytngeefipeghjiaa
open Go.RowKit

/-- An array of 256 numbers. -/
def Tab (cs : Array Value) (T : Nat → Int) : Prop := cs.size = 256 ∧ ∀ i, i < 256 → cs[i]? = some (.int .u32 (T i))
def seedAt (seed : Int) (k : Nat) : Int := (seed + (k : Int) * 11400714819323198485) % 18446744073709551616
def tabV (seed : Int) (i : Nat) : Int := IntKind.u32.wrap (mixV (seedAt seed (i + 1)) / 4294967296)
/-- The first k numbers stand. -/
def TabK (cs : Array Value) (T : Nat → Int) (k : Nat) : Prop := cs.size = 256 ∧ (∀ i, i < k → cs[i]? = some (.int .u32 (T i))) ∧ ∀ i, i < 256 → ∃ z, cs[i]? = some (.int .u32 z)
theorem TabK.put {cs : Array Value} {T : Nat → Int} {k : Nat} (h : TabK cs T k) (hk : k < 256) : TabK (cs.setIfInBounds k (.int .u32 (T k))) T (k + 1) := by
  refine ⟨by simp [h.1], fun i hi => ?_, fun i hi => ?_⟩
  · by_cases e : k = i
    · subst e; rw [Array.getElem?_setIfInBounds_self_of_lt (by rw [h.1]; exact hk)]
    · rw [Array.getElem?_setIfInBounds_ne e]; exact h.2.1 i (by omega)
  · by_cases e : k = i
    · subst e; exact ⟨T k, by rw [Array.getElem?_setIfInBounds_self_of_lt (by rw [h.1]; exact hk)]⟩
    · rw [Array.getElem?_setIfInBounds_ne e]; exact h.2.2 i hi
/-- The zero array. -/
def zc27 : Array Value := Array.replicate 256 (.int .u32 0)
set_option maxRecDepth 100000 in
theorem zv27 (w : World) : (zeroValue 27).run Try.prog w = .ok (.agg zc27) w := by kernel_rfl
theorem zc27_ne : ¬ zc27 = #[] := by
  intro h
  have := congrArg Array.size h
  simp [zc27] at this
theorem tabK_zero (T : Nat → Int) : TabK zc27 T 0 := by
  unfold zc27
  exact ⟨by simp, fun i hi => by omega, fun i hi => ⟨0, by simp [hi]⟩⟩
theorem info27 : (Try.prog.info? 27).map (·.size) = some 256 := by kernel_rfl
theorem tab_one {cs : Array Value} {T : Nat → Int} (h : Tab cs T) : cs.all (·.oneCell') = true := by
  rw [Array.all_eq_true]
  intro i hi
  have h1 := h.2 i (by rw [← h.1]; exact hi)
  rw [Array.getElem?_eq_getElem hi, Option.some.injEq] at h1
  rw [h1]
  rfl
theorem below_setRow' {B : Nat} {w0 w : World} (h : Below B w0 w) {g : Nat} (hg : B ≤ g) (cs : Array Value) : Below B w0 (w.setRow g cs) :=
  h.trans ⟨rfl, rfl, rfl, by simp, fun k hk => setRow_other w g k cs (by omega)⟩
theorem seedAt_zero {seed : Int} (h0 : 0 ≤ seed) (h1 : seed < 18446744073709551616) : seedAt seed 0 = seed := by unfold seedAt; omega
theorem wrap_u64 (x : Int) : IntKind.u64.wrap x = x % 18446744073709551616 := by first | rfl | (simp [IntKind.wrap]; done) | (unfold IntKind.wrap; rfl)
theorem wrap_u32 (x : Int) : IntKind.u32.wrap x = x % 4294967296 := by first | rfl | (simp [IntKind.wrap]; done) | (unfold IntKind.wrap; rfl)
theorem seedAt_succ (seed : Int) (k : Nat) : seedAt seed (k + 1) = IntKind.u64.wrap (seedAt seed k + 11400714819323198485) := by rw [wrap_u64]; unfold seedAt; push_cast; omega
theorem seedAt_rng (seed : Int) (k : Nat) : 0 ≤ seedAt seed k ∧ seedAt seed k < 18446744073709551616 := by unfold seedAt; omega

set_option maxHeartbeats 1000000 in
set_option maxRecDepth 100000 in
theorem table_any (seed : Int) (h0 : 0 ≤ seed) (h1 : seed < 18446744073709551616) (w : World) : Calls Try.prog 10 #[.int .u64 seed] w fun e w' => ∃ cs, e = .returned (.agg cs) ∧ Tab cs (tabV seed) ∧ Below w.heap.size w w' := by
  obtain ⟨zs, Hzs⟩ : ∃ zs, Hid (zc27 = zs) := ⟨_, ⟨rfl⟩⟩
  have hzv := zv27
  have hzn := zc27_ne
  rw [Hzs.out] at hzn
  simp only [Hzs.out] at hzv
  obtain ⟨w1, HW1⟩ : ∃ w1, Hid ((w.alloc (.cells zs 27)).alloc (.cells zs 27) = w1) := ⟨_, ⟨rfl⟩⟩
  have Hb : Hid (Below w.heap.size w w1) := ⟨by rw [← HW1.out]; exact ((Below.refl _ w).alloc (Nat.le_refl _) _).alloc (by simp) _⟩
  have H0 : Hid (w1.heap[w.heap.size]? = some (.cells zs 27 (0, 0))) := ⟨by rw [← HW1.out, Below.heap_alloc _ _ _ (by simp)]; exact heap_alloc_new w _⟩
  have H1 : Hid (w1.heap[w.heap.size + 1]? = some (.cells zs 27 (0, 0))) := ⟨by
    rw [← HW1.out]
    have := heap_alloc_new (w.alloc (.cells zs 27)) (.cells zs 27)
    rw [show (w.alloc (.cells zs 27)).heap.size = w.heap.size + 1 by simp] at this
    exact this⟩
  have Hz : Hid (seedAt seed 0 = seed) := ⟨seedAt_zero h0 h1⟩
  go_enter Try.func10, Try.ntmps10
  go_wp2
  rw [HW1.out]
  go_loopg [4, 5, 7] 256 (fun gg s4 _ s7 wr => ∃ kk : Nat, kk ≤ 256 ∧ 256 - kk ≤ gg ∧ s7 = .int .i64 (kk : Int) ∧ s4 = .int .u64 (seedAt seed kk) ∧ Hid (Below (w.heap.size + 1) w1 wr) ∧ ∃ cs, Hid (wr.heap[w.heap.size + 1]? = some (.cells cs 27 (0, 0))) ∧ Hid (TabK cs (tabV seed) kk))
  case atStart => exact ⟨0, by omega, by omega, rfl, by rw [Hz.out], ⟨Below.refl _ _⟩, _, H1, ⟨by rw [← Hzs.out]; exact tabK_zero _⟩⟩
  case round =>
    obtain ⟨kk, hkk, hgg, rfl, rfl, HB, cs, HC, HT⟩ := hrel
    by_cases hlt : kk < 256
    · have hltz : (kk : Int) < 256 := by omega
      obtain ⟨z, hz⟩ := HT.out.2.2 kk hlt
      have hc : wr.cell? ⟨w.heap.size + 1, kk, none⟩ = some (.int .u32 z) := (cell_of_row wr _ kk cs 27 _ HC.out).trans hz
      have hf : wr.frozen? ⟨w.heap.size + 1, kk, none⟩ = false := frozen_of_row wr _ kk cs 27 HC.out
      have HS : Hid (seedAt seed (kk + 1) = IntKind.u64.wrap (seedAt seed kk + 11400714819323198485)) := ⟨seedAt_succ seed kk⟩
      have HN : Hid (TabK (cs.setIfInBounds kk (.int .u32 (tabV seed kk))) (tabV seed) (kk + 1)) := ⟨HT.out.put hlt⟩
      unfold tabV at HN
      rw [HS.out] at HN
      clear hz
      go_wp2_with (go_at_call 24; refine (mixed_any _ _).mono ?_; rintro e w' ⟨rfl, rfl⟩)
      go_roundg (256 - (kk + 1))
      case measure => omega
      case rel => exact ⟨kk + 1, by omega, by omega, by go_num, by rw [HS.out], ⟨HB.out.setCell (Nat.le_refl _) _⟩, _, ⟨heap_setCell_same wr _ kk cs 27 _ HC.out⟩, HN⟩
    · obtain rfl : kk = 256 := by omega
      have hT : Tab cs (tabV seed) := ⟨HT.out.1, HT.out.2.1⟩
      have hpl : (Try.prog.info? 27).map (·.size) = some cs.size := by rw [hT.1]; exact info27
      have hx1 := HC.out
      have hx0 : wr.heap[w.heap.size]? = some (.cells zs 27 (0, 0)) := (HB.out.block _ (by omega)).trans H0.out
      have HBe : Hid (Below w.heap.size w wr) := ⟨Hb.out.trans (HB.out.mono (by omega))⟩
      have hzsz : zs.size = cs.size := by rw [hT.1, ← Hzs.out]; simp [zc27]
      have HTT : Hid (Tab cs (tabV seed)) := ⟨hT⟩
      have hone := tab_one hT
      clear hT
      go_wp2_with (first
        | (refine wpList_load_row rfl 27 (.tmp 3) rfl (w.heap.size + 1) rfl 27 cs (0, 0) _ hx1 Try.underlying27 rfl hpl ?_)
        | (refine wpList_store_row rfl 27 (.tmp 2) (.tmp 19) rfl w.heap.size cs rfl rfl 27 zs hx0 hpl hzsz hone ?_))
      have hx2 := setRow_heap wr w.heap.size _ cs 27 (0, 0) hx0
      refine bodyPost_ret (v := .agg cs) (results_cell_row (p := 2) Try.results10 _ _ w.heap.size 27 _ (0, 0) (.array 256 26) (by kernel_rfl) hx2 Try.underlying27 rfl hpl) rfl ⟨cs, rfl, HTT.out, ?_⟩
      exact below_setRow' HBe.out (Nat.le_refl _) _
end Go.Proofs.Ytngeefipeghjiaa
