/- A seed's table: the document's Table. -/
import Derived.Test.YtngeefipeghjiaaT1
namespace Go.Proofs.Ytngeefipeghjiaa
open Go.RowKit

theorem seed_ref (seed : Int) (k : Nat) : seedAt seed (k + 1) = IntKind.u64.wrap (seed + IntKind.u64.wrap (((k : Int) + 1) * 11400714819323198485)) := by
  rw [wrap_u64, wrap_u64]; unfold seedAt; push_cast; omega
set_option maxHeartbeats 1000000 in
set_option maxRecDepth 100000 in
theorem rtable_any (seed : Int) (w : World) : Calls Try.prog 11 #[.int .u64 seed] w fun e w' => ∃ cs, e = .returned (.agg cs) ∧ Tab cs (tabV seed) ∧ Below w.heap.size w w' := by
  obtain ⟨zs, Hzs⟩ : ∃ zs, Hid (zc27 = zs) := ⟨_, ⟨rfl⟩⟩
  have hzv := zv27
  have hzn := zc27_ne
  have hzt : Tab zs (fun _ => 0) := by rw [← Hzs.out]; exact ⟨by simp [zc27], fun i hi => by simp [zc27, hi]⟩
  have hzo := tab_one hzt
  have hzl : (Try.prog.info? 27).map (·.size) = some zs.size := by rw [hzt.1]; exact info27
  have HZS : Hid (zs.size = 256) := ⟨hzt.1⟩
  rw [Hzs.out] at hzn
  simp only [Hzs.out] at hzv
  clear hzt
  obtain ⟨w0, HW0⟩ : ∃ w0, Hid ((w.alloc (.cells zs 27)).alloc (.cells zs 27) = w0) := ⟨_, ⟨rfl⟩⟩
  have h1 : w0.heap[w.heap.size + 1]? = some (.cells zs 27 (0, 0)) := by
    rw [← HW0.out]
    have := heap_alloc_new (w.alloc (.cells zs 27)) (.cells zs 27)
    rw [show (w.alloc (.cells zs 27)).heap.size = w.heap.size + 1 by simp] at this
    exact this
  have H0 : Hid (w0.heap[w.heap.size]? = some (.cells zs 27 (0, 0))) := ⟨by rw [← HW0.out, Below.heap_alloc _ _ _ (by simp)]; exact heap_alloc_new w _⟩
  have Hb : Hid (Below w.heap.size w w0) := ⟨by rw [← HW0.out]; exact ((Below.refl _ w).alloc (Nat.le_refl _) _).alloc (by simp) _⟩
  have H1 : Hid (w0.heap[w.heap.size + 1]? = some (.cells zs 27 (0, 0))) := ⟨h1⟩
  go_enter Try.func11, Try.ntmps11
  go_wp2_with (refine wpList_store_row rfl 27 (.tmp 3) (.tmp 6) rfl (w.heap.size + 1) zs rfl rfl 27 zs (by rw [HW0.out]; exact h1) hzl rfl hzo ?_)
  rw [HW0.out, setRow_self _ _ _ 27 (0, 0) h1]
  clear h1
  go_loopg [4, 5] 256 (fun gg s4 _ wr => ∃ kk : Nat, kk ≤ 256 ∧ 256 - kk ≤ gg ∧ s4 = .int .i64 (kk : Int) ∧ Hid (Below (w.heap.size + 1) w0 wr) ∧ ∃ cs, Hid (wr.heap[w.heap.size + 1]? = some (.cells cs 27 (0, 0))) ∧ Hid (TabK cs (tabV seed) kk))
  case atStart => exact ⟨0, by omega, by omega, rfl, ⟨Below.refl _ _⟩, _, H1, ⟨by rw [← Hzs.out]; exact tabK_zero _⟩⟩
  case round =>
    obtain ⟨kk, hkk, hgg, rfl, HB, cs, HC, HT⟩ := hrel
    by_cases hlt : kk < 256
    · have hltz : (kk : Int) < 256 := by omega
      obtain ⟨z, hz⟩ := HT.out.2.2 kk hlt
      have hc : wr.cell? ⟨w.heap.size + 1, kk, none⟩ = some (.int .u32 z) := (cell_of_row wr _ kk cs 27 _ HC.out).trans hz
      have hf : wr.frozen? ⟨w.heap.size + 1, kk, none⟩ = false := frozen_of_row wr _ kk cs 27 HC.out
      have HS : Hid (seedAt seed (kk + 1) = IntKind.u64.wrap (seed + IntKind.u64.wrap (((kk : Int) + 1) * 11400714819323198485))) := ⟨seed_ref seed kk⟩
      have HN : Hid (TabK (cs.setIfInBounds kk (.int .u32 (tabV seed kk))) (tabV seed) (kk + 1)) := ⟨HT.out.put hlt⟩
      unfold tabV mixV mix3 mix2 mix1 at HN
      rw [HS.out] at HN
      clear hz
      go_wp2
      go_roundg (256 - (kk + 1))
      case measure => omega
      case rel => exact ⟨kk + 1, by omega, by omega, by go_num, ⟨HB.out.setCell (Nat.le_refl _) _⟩, _, ⟨heap_setCell_same wr _ kk cs 27 _ HC.out⟩, HN⟩
    · obtain rfl : kk = 256 := by omega
      have hT : Tab cs (tabV seed) := ⟨HT.out.1, HT.out.2.1⟩
      have hpl : (Try.prog.info? 27).map (·.size) = some cs.size := by rw [hT.1]; exact info27
      have hx1 := HC.out
      have hx0 : wr.heap[w.heap.size]? = some (.cells zs 27 (0, 0)) := (HB.out.block _ (by omega)).trans H0.out
      have HBe : Hid (Below w.heap.size w wr) := ⟨Hb.out.trans (HB.out.mono (by omega))⟩
      have hzsz : zs.size = cs.size := by rw [hT.1]; exact HZS.out
      have HTT : Hid (Tab cs (tabV seed)) := ⟨hT⟩
      have hone := tab_one hT
      clear hT
      go_wp2_with (first
        | (refine wpList_load_row rfl 27 (.tmp 3) rfl (w.heap.size + 1) rfl 27 cs (0, 0) _ hx1 Try.underlying27 rfl hpl ?_)
        | (refine wpList_store_row rfl 27 (.tmp 2) (.tmp 36) rfl w.heap.size cs rfl rfl 27 zs hx0 hpl hzsz hone ?_))
      have hx2 := setRow_heap wr w.heap.size _ cs 27 (0, 0) hx0
      refine bodyPost_ret (v := .agg cs) (results_cell_row (p := 2) Try.results11 _ _ w.heap.size 27 _ (0, 0) (.array 256 26) (by kernel_rfl) hx2 Try.underlying27 rfl hpl) rfl ⟨cs, rfl, HTT.out, ?_⟩
      exact below_setRow' HBe.out (Nat.le_refl _) _
end Go.Proofs.Ytngeefipeghjiaa
