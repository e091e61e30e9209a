/- Contract of digest.schedule. -/
import Derived.Test.YthfikoghbnicoabDoorD2
namespace Go.Proofs.YthfikoghbnicoabDoor
open Go.RowKit
attribute [local go_sem ↓] Go.wp_at_zero Go.wp_at_succ

theorem heap3 (w : World) (a b c : Obj) : (((w.alloc a).alloc b).alloc c).heap[w.heap.size]? = some a := by
  rw [Below.heap_alloc _ _ _ (by simp; omega), Below.heap_alloc _ _ _ (by simp)]; exact heap_alloc_new w a
theorem heap3b (w : World) (a b c : Obj) : (((w.alloc a).alloc b).alloc c).heap[w.heap.size + 1]? = some b := by
  rw [Below.heap_alloc _ _ _ (by simp)]
  have := heap_alloc_new (w.alloc a) b
  simpa using this
theorem heap3c (w : World) (a b c : Obj) : (((w.alloc a).alloc b).alloc c).heap[w.heap.size + 1 + 1]? = some c := by
  have := heap_alloc_new ((w.alloc a).alloc b) c
  simpa using this

theorem below_setRow' {B : Nat} {w0 w : World} (h : Below B w0 w) {g : Nat} (hg : B ≤ g) (cs : Array Value) : Below B w0 (w.setRow g cs) :=
  h.trans ⟨rfl, rfl, rfl, by simp, fun k hk => setRow_other w g k cs (by omega)⟩

theorem info50 : (Tryd.prog.info? 50).map (·.size) = some 64 := by kernel_rfl
theorem info57 : (Tryd.prog.info? 57).map (·.size) = some 64 := by kernel_rfl
theorem info5 : (Tryd.prog.info? 5).map (·.size) = some 1 := by kernel_rfl
theorem info35 : (Tryd.prog.info? 35).map (·.size) = some 1 := by kernel_rfl

theorem zeros64 : arr .u32 64 (fun _ => 0) = Array.replicate 64 (.int .u32 0) := by rfl

set_option maxHeartbeats 1000000 in
set_option maxRecDepth 100000 in
theorem schedule_core (b F0 : Nat → Int) (hb : ∀ j, 0 ≤ b j ∧ b j < 256) (HF0 : Hid (F0 = wrd b 64)) (w : World) : Calls Tryd.prog 25 #[.agg (arr .u8 64 b)] w fun e w' => e = .returned (.agg (arr .u32 64 (ext F0 48))) ∧ Below w.heap.size w w' := by
  go_enter Tryd.func25, Tryd.ntmps25
  go_wp2_with (refine wpList_load_row rfl 50 (.tmp 1) rfl w.heap.size rfl 50 (arr .u8 64 b) (0, 0) (.array 64 5) (heap3 _ _ _ _) Tryd.underlying50 rfl (by rw [arr_size]; exact info50) ?_)
  go_loopw [9] (fun i wr => ∃ k : Nat, k ≤ 64 ∧ i = .int .i64 k ∧ Arr wr (w.heap.size + 1 + 1) 57 .u32 64 (wrd b k) ∧ Arr wr (w.heap.size + 1) 57 .u32 64 (fun _ => 0) ∧ Below w.heap.size w wr) (fun i _ => 64 - (intOf i).toNat)
  case atStart => exact ⟨0, Nat.zero_le _, rfl, (heap3c _ _ _ _).trans rfl, (heap3b _ _ _ _).trans rfl, (((Below.refl _ w).alloc (Nat.le_refl _) _).alloc (by simp) _).alloc (by simp; omega) _⟩
  case round =>
    obtain ⟨k, hk, rfl, hA, hR, hnx⟩ := hrel
    by_cases hlt : k < 64
    · have hix : ∀ wx, (Instr.index 50 (.agg (arr .u8 64 b)) (.int .i64 k)).run Tryd.prog wx = .ok (.int .u8 (b k)) wx := fun wx => run_index_arr wx 50 5 64 .u8 .i64 b k Tryd.underlying50 Tryd.underlying5 info5 hlt
      have hc := hA.cell (k / 4) (by omega)
      have hf := hA.frozen (k / 4)
      obtain ⟨m0, m1⟩ := wrd_low b k hb
      obtain ⟨x0, x1⟩ := hb k
      have HS := wrd_step b k
      have HJ := u32_join8 _ _ m0 m1 x0 x1
      rw [← HJ] at HS
      have HS' : Hid (upd (wrd b k) (k / 4) (bits .or .u32 (wrd b k (k / 4) * 256) (b k)) = wrd b (k + 1)) := HS
      clear HS HJ
      generalize hm : wrd b k (k / 4) = m at hc m0 m1 HS'
      generalize hx : b k = x at hix x0 x1 HS'
      clear hm hx
      go_wp2
      go_roundw
      case rel =>
        refine ⟨k + 1, by omega, by go_num, ?_, hR.setOther _ _ _ (by omega), hnx.setCell (by simp; omega) _⟩
        rw [← HS'.out]
        exact hA.store _ _
      case measure => simp [intOf]; omega
    · have hk64 : k = 64 := by omega
      subst hk64
      obtain ⟨wo, hwo⟩ : ∃ wo : World, wo = wr := ⟨_, rfl⟩
      rw [← hwo] at hA hR hnx ⊢
      clear hwo
      rw [← HF0.out] at hA
      go_wp2
      go_loopw [25] (fun i wr => ∃ k : Nat, k ≤ 48 ∧ i = .int .i64 k ∧ Arr wr (w.heap.size + 1 + 1) 57 .u32 64 (ext F0 k) ∧ Arr wr (w.heap.size + 1) 57 .u32 64 (fun _ => 0) ∧ Below w.heap.size w wr) (fun i _ => 48 - (intOf i).toNat)
      case atStart => exact ⟨0, Nat.zero_le _, rfl, hA, hR, hnx⟩
      case round =>
        clear hA hR hnx
        obtain ⟨k, hk, rfl, hA, hR, hnx⟩ := hrel
        by_cases hlt : k < 48
        · have c14 := hA.drew.cell (k + 14) (by omega)
          have c9 := hA.drew.cell (k + 9) (by omega)
          have c1 := hA.drew.cell (k + 1) (by omega)
          have c0 := hA.drew.cell k (by omega)
          have c16 := hA.cell (k + 16) (by omega)
          have f16 := hA.frozen (k + 16)
          have HX : Hid (ext F0 (k + 1) = upd (ext F0 k) (k + 16) (nxt (ext F0 k (k + 14)) (ext F0 k (k + 9)) (ext F0 k (k + 1)) (ext F0 k k))) := rfl
          generalize ext F0 k (k + 14) = a14 at c14 HX
          generalize ext F0 k (k + 9) = a9 at c9 HX
          generalize ext F0 k (k + 1) = a1 at c1 HX
          generalize ext F0 k k = a0 at c0 HX
          generalize ext F0 k (k + 16) = a16 at c16
          have k0 : (0 : Int) ≤ k := by omega
          have k48 : (k : Int) < 48 := by omega
          go_wp2
          refine wp_region_held_drew (S := fun w' => w'.cell? ⟨w.heap.size + 1 + 1, k + 14, none⟩ = some (.int .u32 a14) ∧ w'.cell? ⟨w.heap.size + 1 + 1, k + 9, none⟩ = some (.int .u32 a9) ∧ w'.cell? ⟨w.heap.size + 1 + 1, k + 1, none⟩ = some (.int .u32 a1) ∧ w'.cell? ⟨w.heap.size + 1 + 1, k, none⟩ = some (.int .u32 a0)) (by kernel_rfl) ⟨c14, c9, c1, c0⟩ (fun hS => ?_)
          refine wpAnyH_take (i := 0) (v := .int .i64 ((k : Int) + 16)) rfl (by kernel_rfl) (by kernel_rfl) (by kernel_rfl) (fun _ _ _ h => h) (Or.inl ⟨by kernel_rfl, fun _ _ => by kernel_rfl⟩) hS ?_
          refine wpAnyH_take (i := 1) (v := .int .i64 ((k : Int) + 16)) rfl (by kernel_rfl) (by kernel_rfl) (by kernel_rfl) (fun _ _ _ h => h) (Or.inl ⟨by kernel_rfl, fun _ _ => by kernel_rfl⟩) hS ?_
          refine wpAnyH_take (i := 2) (v := .int .i64 ((k : Int) + 14)) rfl (by kernel_rfl) (by kernel_rfl) (by kernel_rfl) (fun _ _ _ h => h) (Or.inl ⟨by kernel_rfl, fun wx hx => by go_simp; try (rw [IntKind.wrap_i64]; omega)⟩) hS ?_
          refine wpAnyH_take (i := 3) (v := .pointer (some ⟨w.heap.size + 1 + 1, k + 14, none⟩)) rfl (by kernel_rfl) (by kernel_rfl) (by kernel_rfl) (fun _ _ _ h => h) (Or.inl ⟨by kernel_rfl, fun wx hx => by go_simp; rw [if_pos (by omega), show ((k : Int) + 14).toNat = k + 14 from by omega]⟩) hS ?_
          refine wpAnyH_take (i := 4) (v := .int .u32 a14) rfl (by kernel_rfl) (by kernel_rfl) (by kernel_rfl) (fun _ _ _ h => h) (Or.inl ⟨by kernel_rfl, fun wx hx => by have h := hx.1; go_simp⟩) hS ?_
          refine wpAnyH_take (i := 6) (v := .int .i64 ((k : Int) + 16)) rfl (by kernel_rfl) (by kernel_rfl) (by kernel_rfl) (fun _ _ _ h => h) (Or.inl ⟨by kernel_rfl, fun _ _ => by kernel_rfl⟩) hS ?_
          refine wpAnyH_take (i := 7) (v := .int .i64 ((k : Int) + 9)) rfl (by kernel_rfl) (by kernel_rfl) (by kernel_rfl) (fun _ _ _ h => h) (Or.inl ⟨by kernel_rfl, fun wx hx => by go_simp; try (rw [IntKind.wrap_i64]; omega)⟩) hS ?_
          refine wpAnyH_take (i := 8) (v := .pointer (some ⟨w.heap.size + 1 + 1, k + 9, none⟩)) rfl (by kernel_rfl) (by kernel_rfl) (by kernel_rfl) (fun _ _ _ h => h) (Or.inl ⟨by kernel_rfl, fun wx hx => by go_simp; rw [if_pos (by omega), show ((k : Int) + 9).toNat = k + 9 from by omega]⟩) hS ?_
          refine wpAnyH_take (i := 9) (v := .int .u32 a9) rfl (by kernel_rfl) (by kernel_rfl) (by kernel_rfl) (fun _ _ _ h => h) (Or.inl ⟨by kernel_rfl, fun wx hx => by have h := hx.2.1; go_simp⟩) hS ?_
          refine wpAnyH_take (i := 11) (v := .int .i64 ((k : Int) + 16)) rfl (by kernel_rfl) (by kernel_rfl) (by kernel_rfl) (fun _ _ _ h => h) (Or.inl ⟨by kernel_rfl, fun _ _ => by kernel_rfl⟩) hS ?_
          refine wpAnyH_take (i := 12) (v := .int .i64 ((k : Int) + 1)) rfl (by kernel_rfl) (by kernel_rfl) (by kernel_rfl) (fun _ _ _ h => h) (Or.inl ⟨by kernel_rfl, fun wx hx => by go_simp; try (rw [IntKind.wrap_i64]; omega)⟩) hS ?_
          refine wpAnyH_take (i := 13) (v := .pointer (some ⟨w.heap.size + 1 + 1, k + 1, none⟩)) rfl (by kernel_rfl) (by kernel_rfl) (by kernel_rfl) (fun _ _ _ h => h) (Or.inl ⟨by kernel_rfl, fun wx hx => by go_simp; intro q; exact absurd (q (by omega)) (by omega)⟩) hS ?_
          refine wpAnyH_take (i := 14) (v := .int .u32 a1) rfl (by kernel_rfl) (by kernel_rfl) (by kernel_rfl) (fun _ _ _ h => h) (Or.inl ⟨by kernel_rfl, fun wx hx => by have h := hx.2.2.1; go_simp⟩) hS ?_
          refine wpAnyH_take (i := 17) (v := .int .i64 ((k : Int) + 16)) rfl (by kernel_rfl) (by kernel_rfl) (by kernel_rfl) (fun _ _ _ h => h) (Or.inl ⟨by kernel_rfl, fun _ _ => by kernel_rfl⟩) hS ?_
          refine wpAnyH_take (i := 18) (v := .int .i64 (k : Int)) rfl (by kernel_rfl) (by kernel_rfl) (by kernel_rfl) (fun _ _ _ h => h) (Or.inl ⟨by kernel_rfl, fun wx hx => by go_simp; try (rw [IntKind.wrap_i64]; omega)⟩) hS ?_
          refine wpAnyH_take (i := 19) (v := .pointer (some ⟨w.heap.size + 1 + 1, k, none⟩)) rfl (by kernel_rfl) (by kernel_rfl) (by kernel_rfl) (fun _ _ _ h => h) (Or.inl ⟨by kernel_rfl, fun wx hx => by go_simp; exact fun q => absurd q (by omega)⟩) hS ?_
          refine wpAnyH_take (i := 20) (v := .int .u32 a0) rfl (by kernel_rfl) (by kernel_rfl) (by kernel_rfl) (fun _ _ _ h => h) (Or.inl ⟨by kernel_rfl, fun wx hx => by have h := hx.2.2.2; go_simp⟩) hS ?_
          refine wpAnyH_ready (rs := [5]) (by kernel_rfl) (by simp) (AllReadyH.cons rfl (fun K hK => ?_) AllReadyH.nil)
          go_simp
          go_wp2_with (go_at_call 28; refine (shifted_any a14 17 19 10 _ (by decide) (by decide) (by decide) (by decide) (by decide) (by decide)).mono ?_; rintro e w' ⟨rfl, rfl⟩)
          refine hK.out _ _ hS (fun hS => ?_)
          clear hK
          refine wpAnyH_take (i := 10) (v := .int .u32 (IntKind.u32.wrap (shi a14 17 19 10 + a9))) rfl (by kernel_rfl) (by kernel_rfl) (by kernel_rfl) (fun _ _ _ h => h) (Or.inl ⟨by kernel_rfl, fun wx hx => by go_simp⟩) hS ?_
          refine wpAnyH_ready (rs := [15]) (by kernel_rfl) (by simp) (AllReadyH.cons rfl (fun K hK => ?_) AllReadyH.nil)
          go_simp
          go_wp2_with (go_at_call 28; refine (shifted_any a1 7 18 3 _ (by decide) (by decide) (by decide) (by decide) (by decide) (by decide)).mono ?_; rintro e w' ⟨rfl, rfl⟩)
          refine hK.out _ _ hS (fun hS => ?_)
          clear hK
          refine wpAnyH_take (i := 16) (v := .int .u32 (IntKind.u32.wrap (IntKind.u32.wrap (shi a14 17 19 10 + a9) + shi a1 7 18 3))) rfl (by kernel_rfl) (by kernel_rfl) (by kernel_rfl) (fun _ _ _ h => h) (Or.inl ⟨by kernel_rfl, fun wx hx => by go_simp⟩) hS ?_
          refine wpAnyH_take (i := 21) (v := .int .u32 (nxt a14 a9 a1 a0)) rfl (by kernel_rfl) (by kernel_rfl) (by kernel_rfl) (fun _ _ _ h => h) (Or.inl ⟨by kernel_rfl, fun wx hx => by unfold nxt; go_simp⟩) hS ?_
          refine wpAnyH_take (i := 22) (v := .pointer (some ⟨w.heap.size + 1 + 1, k + 16, none⟩)) rfl (by kernel_rfl) (by kernel_rfl) (by kernel_rfl) (fun _ _ _ h => h) (Or.inl ⟨by kernel_rfl, fun wx hx => by go_simp; rw [if_pos (by omega), show ((k : Int) + 16).toNat = k + 16 from by omega]⟩) hS ?_
          refine wpAnyH_ready (rs := [23]) (by kernel_rfl) (by simp) (AllReadyH.cons rfl (fun K hK => ?_) AllReadyH.nil)
          go_simp
          refine hK.out _ _ ?_ (fun hS => ?_)
          · exact ⟨(World.cell?_setCell_other _ _ _ _ (by simp)).trans hS.1, (World.cell?_setCell_other _ _ _ _ (by simp)).trans hS.2.1, (World.cell?_setCell_other _ _ _ _ (by simp)).trans hS.2.2.1, (World.cell?_setCell_other _ _ _ _ (by simp)).trans hS.2.2.2⟩
          clear hK hS
          refine wpAnyH_done (by kernel_rfl) ?_ _
          go_wp2
          go_roundw
          case rel =>

            have R1 : Arr ((wr.setCell ⟨w.heap.size + 1 + 1, k + 16, none⟩ (.int .u32 (nxt a14 a9 a1 a0))).drew.drew.drew) (w.heap.size + 1 + 1) 57 .u32 64 (ext F0 (k + 1)) := by rw [HX.out]; exact hA.store _ _
            have R2 : Arr ((wr.setCell ⟨w.heap.size + 1 + 1, k + 16, none⟩ (.int .u32 (nxt a14 a9 a1 a0))).drew.drew.drew) (w.heap.size + 1) 57 .u32 64 (fun _ => 0) := hR.setOther _ _ _ (by omega)
            have R3 : Below w.heap.size w ((wr.setCell ⟨w.heap.size + 1 + 1, k + 16, none⟩ (.int .u32 (nxt a14 a9 a1 a0))).drew.drew.drew) := (hnx.setCell (p := ⟨w.heap.size + 1 + 1, k + 16, none⟩) (by show w.heap.size ≤ w.heap.size + 1 + 1; omega) _).drew.drew.drew
            (repeat apply Exists.intro)
            refine ⟨⟨k + 1, by omega, ?_, R1, R2, R3⟩, rfl⟩
            go_num
          case measure => simp [intOf]; omega
        · have hk48 : k = 48 := by omega
          subst hk48
          go_wp2_with (first | (refine wpList_load_row rfl 57 (.tmp 3) rfl (w.heap.size + 1 + 1) rfl 57 (arr .u32 64 (ext F0 48)) (0, 0) (.array 64 35) hA Tryd.underlying57 rfl (by rw [arr_size]; exact info57) ?_) | (refine wpList_store_row rfl 57 (.tmp 2) (.tmp 54) rfl (w.heap.size + 1) (arr .u32 64 (ext F0 48)) rfl rfl 57 (arr .u32 64 (fun _ => 0)) hR (by rw [arr_size]; exact info57) (by rw [arr_size, arr_size]) (arr_one _ _ _) ?_))
          have hsr := setRow_heap wr (w.heap.size + 1) _ (arr .u32 64 (ext F0 48)) 57 (0, 0) hR
          refine bodyPost_ret (v := .agg (arr .u32 64 (ext F0 48))) (results_cell_row (p := 2) Tryd.results25 _ _ (w.heap.size + 1) 57 _ (0, 0) (.array 64 35) (by kernel_rfl) hsr Tryd.underlying57 rfl (by rw [arr_size]; exact info57)) rfl ⟨rfl, ?_⟩
          exact below_setRow' hnx (by omega) _

theorem schedule_any (b : Nat → Int) (hb : ∀ j, 0 ≤ b j ∧ b j < 256) (w : World) : Calls Tryd.prog 25 #[.agg (arr .u8 64 b)] w fun e w' => e = .returned (.agg (arr .u32 64 (ext (wrd b 64) 48))) ∧ Below w.heap.size w w' :=
  schedule_core b _ hb rfl w
end Go.Proofs.YthfikoghbnicoabDoor
