/- Contract of Hash.Sum. -/
import Derived.Test.YthfikoghbnicoabDoorD8
namespace Go.Proofs.YthfikoghbnicoabDoor
open Go.RowKit
attribute [local go_sem ↓] Go.wp_at_zero Go.wp_at_succ

theorem OwnB.off {w : World} {base g : Nat} {e : TypeId} {v : Value} {xs : List Int} (h : OwnB w base e v xs) (hg : g < base) : OffB v g := by
  intro b off L cap _ hv
  subst hv
  have := own_block_ge h b rfl
  omega

/-- The hash behind the padding. -/
def fin (K : Nat → Int) (q : HSt) : HSt := (padB q.n).foldl (wstep K) q
/-- The bytes of a state. -/
def outB (s : Nat → Int) (i : Nat) : Int := s (i / 4) / 2 ^ (24 - 8 * (i % 4)) % 256

theorem info24 : (Tryd.prog.info? 24).map (·.size) = some 32 := by kernel_rfl

theorem alloc24 (a : Act) (w : World) (d : Nat) (ps : String) : (execOp a.eval { dst := some d, op := Op.alloc 24, type := 0, pos := ps, after := #[], guard := none }).run Tryd.prog w = .ok (.value (.pointer (some ⟨w.heap.size, 0, none⟩))) (w.alloc (.cells (arr .u8 32 (fun _ => 0)) 24)) := by kernel_rfl

/-- The two variables of a sum. -/
def w24 (w : World) : World := (w.alloc (.cells (arr .u8 32 (fun _ => 0)) 24)).alloc (.cells (arr .u8 32 (fun _ => 0)) 24)
theorem w24_size (w : World) : (w24 w).heap.size = w.heap.size + 1 + 1 := by simp [w24]
theorem w24_a (w : World) : Arr (w24 w) w.heap.size 24 .u8 32 (fun _ => 0) := (Arr.new w _ _ _ _).alloc _
theorem w24_b (w : World) : Arr (w24 w) (w.heap.size + 1) 24 .u8 32 (fun _ => 0) := by
  have := Arr.new (w.alloc (.cells (arr .u8 32 (fun _ => 0)) 24)) 24 .u8 32 (fun _ => 0)
  unfold w24
  simpa using this
theorem w24_below (w : World) : Below w.heap.size w (w24 w) := ((Below.refl _ w).alloc (Nat.le_refl _) _).alloc (by simp) _

set_option maxHeartbeats 1000000 in
theorem sum_nil (w : World) : Calls Tryd.prog 14 #[.pointer none] w fun e w' => e = .returned (.agg (arr .u8 32 (fun _ => 0))) ∧ Below w.heap.size w w' := by
  go_enter Tryd.func14, Tryd.ntmps14
  go_wp2_with (first
    | refine wpList_val rfl (alloc24 _ w 2 "digest.go:61") ?_
    | (refine wpList_val rfl (alloc24 _ (w.alloc (.cells (arr .u8 32 (fun _ => 0)) 24)) 3 "digest.go:62") ?_; change wpList _ _ _ _ _ (w24 w))
    | (refine wpList_load_row rfl 24 (.tmp 3) rfl (w.heap.size + 1) rfl 24 (arr .u8 32 (fun _ => 0)) (0, 0) (.array 32 5) (w24_b w) Tryd.underlying24 rfl (by rw [arr_size]; exact info24) ?_)
    | (refine wpList_store_row rfl 24 (.tmp 2) (.tmp 8) rfl w.heap.size (arr .u8 32 (fun _ => 0)) rfl rfl 24 (arr .u8 32 (fun _ => 0)) (w24_a w) (by rw [arr_size]; exact info24) (by rw [arr_size]) (arr_one _ _ _) ?_))
  have hsr := setRow_heap (w24 w) w.heap.size _ (arr .u8 32 (fun _ => 0)) 24 (0, 0) (w24_a w)
  refine bodyPost_ret (v := .agg (arr .u8 32 (fun _ => 0))) (results_cell_row (p := 2) Tryd.results14 _ _ w.heap.size 24 _ (0, 0) (.array 32 5) (by kernel_rfl) hsr Tryd.underlying24 rfl (by rw [arr_size]; exact info24)) rfl ⟨rfl, ?_⟩
  exact below_setRow' (w24_below w) (Nat.le_refl _) _

theorem below_of_grown {B g : Nat} {w w1 w2 : World} (h : Below B w w1) (hg : w1.grownBy w2 (some g)) (hB : B ≤ g) (hw : B ≤ w.heap.size) : Below B w w2 :=
  ⟨hg.os.trans h.os, hg.tape.trans h.tape, hg.output.trans h.output, Nat.le_trans h.size hg.size, fun k hk =>
    (hg.block k (Nat.lt_of_lt_of_le (Nat.lt_of_lt_of_le hk hw) h.size) (by simp; omega)).trans (h.block k hk)⟩
theorem KeysAt.lt {w : World} {K : Nat → Int} (h : KeysAt w K) : 2 < w.heap.size := World.block_lt_of_cell? _ _ (h 0 (by decide))
theorem KeysAt.below2 {w w1 w2 : World} {K : Nat → Int} (h : KeysAt w K) (h1 : Below w.heap.size w w1) (h2 : Below w1.heap.size w1 w2) : KeysAt w2 K := (h.below h1).below h2

set_option maxHeartbeats 2000000 in
theorem sum_any (g : Nat) (q : HSt) (K : Nat → Int) (w : World) (hH : Hat w g q.s q.b q.n) (hK : KeysAt w K) (hqb : ∀ j, 0 ≤ q.b j ∧ q.b j < 256) (hn : q.n ≤ 281474976710000) :
    Calls Tryd.prog 14 #[.pointer (some ⟨g, 0, none⟩)] w fun e w' => e = .returned (.agg (arr .u8 32 (outB (fin K q).s))) ∧ Below w.heap.size w w' := by
  have hHw := hH.below (w24_below w)
  have HK : Hid (KeysAt (w24 w) K) := KeysAt.below hK (w24_below w)
  have hk2 := hK.lt
  clear hK
  go_enter Tryd.func14, Tryd.ntmps14
  go_wp2_with (first
    | refine wpList_val rfl (alloc24 _ w 2 "digest.go:61") ?_
    | (refine wpList_val rfl (alloc24 _ (w.alloc (.cells (arr .u8 32 (fun _ => 0)) 24)) 3 "digest.go:62") ?_; change wpList _ _ _ _ _ (w24 w))
    | (go_at_call 19; refine (fork_any g q.s q.b q.n _ hHw).mono ?_; rintro e w1 ⟨rfl, hF, hb1⟩; rw [w24_size] at hF hb1 ⊢; have hcn := (hHw.below (by rw [w24_size]; exact hb1)).cellN)
    | (go_at_call 24; refine (padding_any q.n _ (by omega)).mono ?_; rintro e w2 ⟨v2, rfl, hown2, hb2⟩)
    | (go_at_call 13; refine (write_any (w.heap.size + 1 + 1) q K (padB q.n) v2 w2 hown2.bs (hF.below hb2) (hown2.off hF.lt) (by omega) (KeysAt.below2 HK.out (by rw [w24_size]; exact hb1) hb2) (padB_byte _) hqb (by rw [padB_length]; unfold zer; omega)).mono ?_; rintro e w3 ⟨rfl, ⟨q3, HQ3, hH3, _⟩, hg3⟩))
  have hA3 : Arr w3 w.heap.size 24 .u8 32 (fun _ => 0) := (((w24_a w).below (by rw [w24_size]; exact hb1)).below hb2).block (hg3.block _ (by have := hb1.size; have := hb2.size; have := w24_size w; omega) (by simp; omega))
  have hB3 : Arr w3 (w.heap.size + 1) 24 .u8 32 (fun _ => 0) := (((w24_b w).below (by rw [w24_size]; exact hb1)).below hb2).block (hg3.block _ (by have := hb1.size; have := hb2.size; have := w24_size w; omega) (by simp))
  have hnx3 : Below w.heap.size w w3 := below_of_grown (((w24_below w).trans (hb1.mono (by omega))).trans (hb2.mono (by have := hb1.size; have := w24_size w; omega))) hg3 (by omega) (Nat.le_refl _)
  have HQ : Hid (q3 = fin K q) := HQ3
  clear HQ3 hg3 hb1 hb2 hF hcn hown2 HK
  go_loopw [18] (fun i wr => ∃ k : Nat, k ≤ 32 ∧ i = .int .i64 k ∧ Arr wr w.heap.size 24 .u8 32 (fun _ => 0) ∧ Arr wr (w.heap.size + 1) 24 .u8 32 (fun j => if j < k then outB q3.s j else 0) ∧ Hat wr (w.heap.size + 1 + 1) q3.s q3.b q3.n ∧ Below w.heap.size w wr) (fun i _ => 32 - (intOf i).toNat)
  case atStart => exact ⟨0, Nat.zero_le _, rfl, hA3, hB3.trans rfl, hH3, hnx3⟩
  case round =>
    clear hA3 hB3 hnx3 hH3 hH
    obtain ⟨k, hk, rfl, hA, hB, hH, hnx⟩ := hrel
    by_cases hlt : k < 32
    · have cs := hH.cellS (k / 4) (by omega)
      have cb := hB.cell k hlt
      have fb := hB.frozen k
      have hs0 : (0 : Int) ≤ 24 - 8 * ((k : Int) % 4) := by omega
      go_wp2
      go_roundw
      case rel =>
        refine ⟨k + 1, by omega, by go_num, hA.setOther _ _ _ (by omega), ?_, hH.block (heap_setCell_other _ _ _ _ (by simp)), hnx.setCell (show w.heap.size ≤ w.heap.size + 1 by omega) _⟩
        have := hB.store k (outB q3.s k)
        have e : upd (fun j => if j < k then outB q3.s j else 0) k (outB q3.s k) = fun j => if j < k + 1 then outB q3.s j else 0 := by
          funext j
          unfold upd
          by_cases hj : j = k
          · subst hj; simp
          · simp only [hj, if_false]
            by_cases hjk : j < k
            · simp [hjk, Nat.lt_succ_of_lt hjk]
            · simp [hjk, show ¬ j < k + 1 by omega]
        rw [e] at this
        exact this
      case measure => simp [intOf]; omega
    · have hk32 : k = 32 := by omega
      subst hk32
      have ec : arr .u8 32 (fun j => if j < 32 then outB q3.s j else 0) = arr .u8 32 (outB q3.s) := arr_congr (fun j hj => by simp [hj])
      have hB' : Arr wr (w.heap.size + 1) 24 .u8 32 (outB q3.s) := by unfold Arr; rw [← ec]; exact hB
      clear ec hB
      go_wp2_with (first
        | (refine wpList_load_row rfl 24 (.tmp 3) rfl (w.heap.size + 1) rfl 24 (arr .u8 32 (outB q3.s)) (0, 0) (.array 32 5) hB' Tryd.underlying24 rfl (by rw [arr_size]; exact info24) ?_)
        | (refine wpList_store_row rfl 24 (.tmp 2) (.tmp 37) rfl w.heap.size (arr .u8 32 (outB q3.s)) rfl rfl 24 (arr .u8 32 (fun _ => 0)) hA (by rw [arr_size]; exact info24) (by rw [arr_size, arr_size]) (arr_one _ _ _) ?_))
      have hsr := setRow_heap wr w.heap.size _ (arr .u8 32 (outB q3.s)) 24 (0, 0) hA
      refine bodyPost_ret (v := .agg (arr .u8 32 (outB q3.s))) (results_cell_row (p := 2) Tryd.results14 _ _ w.heap.size 24 _ (0, 0) (.array 32 5) (by kernel_rfl) hsr Tryd.underlying24 rfl (by rw [arr_size]; exact info24)) rfl ⟨by rw [HQ.out], ?_⟩
      exact below_setRow' hnx (Nat.le_refl _) _
end Go.Proofs.YthfikoghbnicoabDoor
