/- Contract of digest.mix. -/
import Derived.Test.YthfikoghbnicoabDoorD3
namespace Go.Proofs.YthfikoghbnicoabDoor
open Go.RowKit
attribute [local go_sem ↓] Go.wp_at_zero Go.wp_at_succ

def chS (e f g : Int) : Int := bits .xor .u32 (bits .and .u32 e f) (bits .and .u32 (bits .xor .u32 IntKind.u32.max e) g)
def majS (a b c : Int) : Int := bits .xor .u32 (bits .xor .u32 (bits .and .u32 a b) (bits .and .u32 a c)) (bits .and .u32 b c)
def t1S (e f g h kt wt : Int) : Int := IntKind.u32.wrap (IntKind.u32.wrap (IntKind.u32.wrap (IntKind.u32.wrap (h + tur e 6 11 25) + chS e f g) + kt) + wt)
def t2S (a b c : Int) : Int := IntKind.u32.wrap (tur a 2 13 22 + majS a b c)

/-- One round. -/
def rnd (v : Nat → Int) (kt wt : Int) : Nat → Int
  | 0 => IntKind.u32.wrap (t1S (v 4) (v 5) (v 6) (v 7) kt wt + t2S (v 0) (v 1) (v 2))
  | 1 => v 0
  | 2 => v 1
  | 3 => v 2
  | 4 => IntKind.u32.wrap (v 3 + t1S (v 4) (v 5) (v 6) (v 7) kt wt)
  | 5 => v 4
  | 6 => v 5
  | _ => v 6

def rnds (v K W : Nat → Int) : Nat → Nat → Int
  | 0 => v
  | t + 1 => rnd (rnds v K W t) (K t) (W t)

/-- The state behind one more block. -/
def mixS (K s b : Nat → Int) : Nat → Int := fun j => IntKind.u32.wrap (s j + rnds s K (ext (wrd b 64) 48) 64 j)

theorem arr_congr {k : IntKind} {n : Nat} {f g : Nat → Int} (h : ∀ j, j < n → f j = g j) : arr k n f = arr k n g := by
  unfold arr
  congr 1
  exact List.map_congr_left (fun j hj => by rw [h j (by simpa using hj)])

theorem below_of_drew2 {B : Nat} {w w' : World} (h : Below B w.drew.drew w') : Below B w w' := ⟨h.os, h.tape, h.output, h.size, h.block⟩

theorem info49 : (Tryd.prog.info? 49).map (·.size) = some 8 := by kernel_rfl

/-- The round keys lie in the third variable. -/
def KeysAt (w : World) (K : Nat → Int) : Prop := ∀ k, k < 64 → w.cell? ⟨2, k, none⟩ = some (.int .u32 (K k))
theorem KeysAt.below {w w' : World} {K : Nat → Int} (h : KeysAt w K) (hb : Below w.heap.size w w') : KeysAt w' K := fun k hk => (hb.cell (World.block_lt_of_cell? _ _ (h k hk))).trans (h k hk)

set_option maxHeartbeats 4000000 in
set_option maxRecDepth 100000 in
theorem mix_core (s b K V W : Nat → Int) (hb : ∀ j, 0 ≤ b j ∧ b j < 256) (w : World) (hK : KeysAt w K) (HW : Hid (W = ext (wrd b 64) 48)) (HV : Hid (V = rnds s K W 64)) :
    Calls Tryd.prog 23 #[.agg (arr .u32 8 s), .agg (arr .u8 64 b)] w fun e w' => e = .returned (.agg (arr .u32 8 (fun j => IntKind.u32.wrap (s j + V j)))) ∧ Below w.heap.size w w' := by
  have HK : Hid _ := hK
  clear hK
  go_enter Tryd.func23, Tryd.ntmps23
  go_wp2
  obtain ⟨w1, hw1⟩ : ∃ w1, w1 = ((w.alloc (.cells (arr .u32 8 s) 49)).alloc (.cells (arr .u8 64 b) 50)).alloc (.cells (arr .u32 8 (fun _ => 0)) 49) := ⟨_, rfl⟩
  have hA : Arr w1 w.heap.size 49 .u32 8 s := by rw [hw1]; exact heap3 _ _ _ _
  have hB : Arr w1 (w.heap.size + 1) 50 .u8 64 b := by rw [hw1]; exact heap3b _ _ _ _
  have hR : Arr w1 (w.heap.size + 1 + 1) 49 .u32 8 (fun _ => 0) := by rw [hw1]; exact heap3c _ _ _ _
  have hnx : Below w.heap.size w w1 := by rw [hw1]; exact (((Below.refl _ w).alloc (Nat.le_refl _) _).alloc (by simp) _).alloc (by simp; omega) _
  change Code.wp _ _ _ _ (((w.alloc (.cells (arr .u32 8 s) 49)).alloc (.cells (arr .u8 64 b) 50)).alloc (.cells (arr .u32 8 (fun _ => 0)) 49))
  rw [← hw1]
  clear hw1
  have c0 := hA.drew.cell 0 (by decide)
  have c1 := hA.drew.cell 1 (by decide)
  have c2 := hA.drew.cell 2 (by decide)
  have c3 := hA.drew.cell 3 (by decide)
  refine wp_region_held_drew (S := fun w' => w'.cell? ⟨w.heap.size, 0, none⟩ = some (.int .u32 (s 0)) ∧ w'.cell? ⟨w.heap.size, 1, none⟩ = some (.int .u32 (s 1)) ∧ w'.cell? ⟨w.heap.size, 2, none⟩ = some (.int .u32 (s 2)) ∧ w'.cell? ⟨w.heap.size, 3, none⟩ = some (.int .u32 (s 3))) (by kernel_rfl) ⟨c0, c1, c2, c3⟩ (fun hS => ?_)
  refine wpAnyH_take (i := 0) (v := .pointer (some ⟨w.heap.size, 0, none⟩)) rfl (by kernel_rfl) (by kernel_rfl) (by kernel_rfl) (fun _ _ _ h => h) (Or.inl ⟨by kernel_rfl, fun wx hx => by go_simp⟩) hS ?_
  refine wpAnyH_take (i := 1) (v := .int .u32 (s 0)) rfl (by kernel_rfl) (by kernel_rfl) (by kernel_rfl) (fun _ _ _ h => h) (Or.inl ⟨by kernel_rfl, fun wx hx => by have h := hx.1; go_simp⟩) hS ?_
  refine wpAnyH_take (i := 2) (v := .pointer (some ⟨w.heap.size, 1, none⟩)) rfl (by kernel_rfl) (by kernel_rfl) (by kernel_rfl) (fun _ _ _ h => h) (Or.inl ⟨by kernel_rfl, fun wx hx => by go_simp⟩) hS ?_
  refine wpAnyH_take (i := 3) (v := .int .u32 (s 1)) rfl (by kernel_rfl) (by kernel_rfl) (by kernel_rfl) (fun _ _ _ h => h) (Or.inl ⟨by kernel_rfl, fun wx hx => by have h := hx.2.1; go_simp⟩) hS ?_
  refine wpAnyH_take (i := 4) (v := .pointer (some ⟨w.heap.size, 2, none⟩)) rfl (by kernel_rfl) (by kernel_rfl) (by kernel_rfl) (fun _ _ _ h => h) (Or.inl ⟨by kernel_rfl, fun wx hx => by go_simp⟩) hS ?_
  refine wpAnyH_take (i := 5) (v := .int .u32 (s 2)) rfl (by kernel_rfl) (by kernel_rfl) (by kernel_rfl) (fun _ _ _ h => h) (Or.inl ⟨by kernel_rfl, fun wx hx => by have h := hx.2.2.1; go_simp⟩) hS ?_
  refine wpAnyH_take (i := 6) (v := .pointer (some ⟨w.heap.size, 3, none⟩)) rfl (by kernel_rfl) (by kernel_rfl) (by kernel_rfl) (fun _ _ _ h => h) (Or.inl ⟨by kernel_rfl, fun wx hx => by go_simp⟩) hS ?_
  refine wpAnyH_take (i := 7) (v := .int .u32 (s 3)) rfl (by kernel_rfl) (by kernel_rfl) (by kernel_rfl) (fun _ _ _ h => h) (Or.inl ⟨by kernel_rfl, fun wx hx => by have h := hx.2.2.2; go_simp⟩) hS ?_
  refine wpAnyH_take (i := 8) (v := .int .u32 (s 0)) rfl (by kernel_rfl) (by kernel_rfl) (by kernel_rfl) (fun _ _ _ h => h) (Or.inl ⟨by kernel_rfl, fun _ _ => by kernel_rfl⟩) hS ?_
  refine wpAnyH_take (i := 9) (v := .int .u32 (s 1)) rfl (by kernel_rfl) (by kernel_rfl) (by kernel_rfl) (fun _ _ _ h => h) (Or.inl ⟨by kernel_rfl, fun _ _ => by kernel_rfl⟩) hS ?_
  refine wpAnyH_take (i := 10) (v := .int .u32 (s 2)) rfl (by kernel_rfl) (by kernel_rfl) (by kernel_rfl) (fun _ _ _ h => h) (Or.inl ⟨by kernel_rfl, fun _ _ => by kernel_rfl⟩) hS ?_
  refine wpAnyH_take (i := 11) (v := .int .u32 (s 3)) rfl (by kernel_rfl) (by kernel_rfl) (by kernel_rfl) (fun _ _ _ h => h) (Or.inl ⟨by kernel_rfl, fun _ _ => by kernel_rfl⟩) hS ?_
  refine wpAnyH_done (by kernel_rfl) ?_ _
  go_wp2
  clear c0 c1 c2 c3
  have c4 := hA.drew.drew.cell 4 (by decide)
  have c5 := hA.drew.drew.cell 5 (by decide)
  have c6 := hA.drew.drew.cell 6 (by decide)
  have c7 := hA.drew.drew.cell 7 (by decide)
  refine wp_region_held_drew (S := fun w' => w'.cell? ⟨w.heap.size, 4, none⟩ = some (.int .u32 (s 4)) ∧ w'.cell? ⟨w.heap.size, 5, none⟩ = some (.int .u32 (s 5)) ∧ w'.cell? ⟨w.heap.size, 6, none⟩ = some (.int .u32 (s 6)) ∧ w'.cell? ⟨w.heap.size, 7, none⟩ = some (.int .u32 (s 7))) (by kernel_rfl) ⟨c4, c5, c6, c7⟩ (fun hS => ?_)
  refine wpAnyH_take (i := 0) (v := .pointer (some ⟨w.heap.size, 4, none⟩)) rfl (by kernel_rfl) (by kernel_rfl) (by kernel_rfl) (fun _ _ _ h => h) (Or.inl ⟨by kernel_rfl, fun wx hx => by go_simp⟩) hS ?_
  refine wpAnyH_take (i := 1) (v := .int .u32 (s 4)) rfl (by kernel_rfl) (by kernel_rfl) (by kernel_rfl) (fun _ _ _ h => h) (Or.inl ⟨by kernel_rfl, fun wx hx => by have h := hx.1; go_simp⟩) hS ?_
  refine wpAnyH_take (i := 2) (v := .pointer (some ⟨w.heap.size, 5, none⟩)) rfl (by kernel_rfl) (by kernel_rfl) (by kernel_rfl) (fun _ _ _ h => h) (Or.inl ⟨by kernel_rfl, fun wx hx => by go_simp⟩) hS ?_
  refine wpAnyH_take (i := 3) (v := .int .u32 (s 5)) rfl (by kernel_rfl) (by kernel_rfl) (by kernel_rfl) (fun _ _ _ h => h) (Or.inl ⟨by kernel_rfl, fun wx hx => by have h := hx.2.1; go_simp⟩) hS ?_
  refine wpAnyH_take (i := 4) (v := .pointer (some ⟨w.heap.size, 6, none⟩)) rfl (by kernel_rfl) (by kernel_rfl) (by kernel_rfl) (fun _ _ _ h => h) (Or.inl ⟨by kernel_rfl, fun wx hx => by go_simp⟩) hS ?_
  refine wpAnyH_take (i := 5) (v := .int .u32 (s 6)) rfl (by kernel_rfl) (by kernel_rfl) (by kernel_rfl) (fun _ _ _ h => h) (Or.inl ⟨by kernel_rfl, fun wx hx => by have h := hx.2.2.1; go_simp⟩) hS ?_
  refine wpAnyH_take (i := 6) (v := .pointer (some ⟨w.heap.size, 7, none⟩)) rfl (by kernel_rfl) (by kernel_rfl) (by kernel_rfl) (fun _ _ _ h => h) (Or.inl ⟨by kernel_rfl, fun wx hx => by go_simp⟩) hS ?_
  refine wpAnyH_take (i := 7) (v := .int .u32 (s 7)) rfl (by kernel_rfl) (by kernel_rfl) (by kernel_rfl) (fun _ _ _ h => h) (Or.inl ⟨by kernel_rfl, fun wx hx => by have h := hx.2.2.2; go_simp⟩) hS ?_
  refine wpAnyH_take (i := 8) (v := .int .u32 (s 4)) rfl (by kernel_rfl) (by kernel_rfl) (by kernel_rfl) (fun _ _ _ h => h) (Or.inl ⟨by kernel_rfl, fun _ _ => by kernel_rfl⟩) hS ?_
  refine wpAnyH_take (i := 9) (v := .int .u32 (s 5)) rfl (by kernel_rfl) (by kernel_rfl) (by kernel_rfl) (fun _ _ _ h => h) (Or.inl ⟨by kernel_rfl, fun _ _ => by kernel_rfl⟩) hS ?_
  refine wpAnyH_take (i := 10) (v := .int .u32 (s 6)) rfl (by kernel_rfl) (by kernel_rfl) (by kernel_rfl) (fun _ _ _ h => h) (Or.inl ⟨by kernel_rfl, fun _ _ => by kernel_rfl⟩) hS ?_
  refine wpAnyH_take (i := 11) (v := .int .u32 (s 7)) rfl (by kernel_rfl) (by kernel_rfl) (by kernel_rfl) (fun _ _ _ h => h) (Or.inl ⟨by kernel_rfl, fun _ _ => by kernel_rfl⟩) hS ?_
  refine wpAnyH_done (by kernel_rfl) ?_ _
  clear c4 c5 c6 c7
  go_simp
  go_wp2_with (first | (refine wpList_load_row rfl 50 (.tmp 3) rfl (w.heap.size + 1) rfl 50 (arr .u8 64 b) (0, 0) (.array 64 5) hB.drew.drew Tryd.underlying50 rfl (by rw [arr_size]; exact info50) ?_) | (go_at_call 25; refine (schedule_any b hb _).mono ?_; rintro e w2 ⟨rfl, hb2⟩))
  have hbl : Below w1.heap.size w1 w2 := below_of_drew2 hb2
  have hA2 := hA.below hbl
  have hR2 := hR.below hbl
  have hnx2 := hnx.trans (hbl.mono hnx.size)
  have HK2 : Hid (KeysAt w2 K) := KeysAt.below HK.out hnx2
  rw [← HW.out]
  clear hA hB hR hnx hb2 hbl HK
  go_loopw [5, 6, 7, 8, 9, 10, 11, 12, 37] (fun xa xb xc xd xe xf xg xh i wr => ∃ (k : Nat) (v : Nat → Int), k ≤ 64 ∧ i = .int .i64 k ∧ Hid (v = rnds s K W k) ∧ xa = .int .u32 (v 0) ∧ xb = .int .u32 (v 1) ∧ xc = .int .u32 (v 2) ∧ xd = .int .u32 (v 3) ∧ xe = .int .u32 (v 4) ∧ xf = .int .u32 (v 5) ∧ xg = .int .u32 (v 6) ∧ xh = .int .u32 (v 7) ∧ Arr wr w.heap.size 49 .u32 8 s ∧ Arr wr (w.heap.size + 1 + 1) 49 .u32 8 (fun _ => 0) ∧ Below w.heap.size w wr ∧ Hid (KeysAt wr K)) (fun _ _ _ _ _ _ _ _ i _ => 64 - (intOf i).toNat)
  case atStart => exact ⟨0, s, Nat.zero_le _, rfl, rfl, rfl, rfl, rfl, rfl, rfl, rfl, rfl, rfl, hA2, hR2, hnx2, HK2⟩
  case round =>
    clear hA2 hR2 hnx2 HK2
    obtain ⟨k, v, hk, rfl, HVk, rfl, rfl, rfl, rfl, rfl, rfl, rfl, rfl, hA, hR, hnx, HK⟩ := hrel
    by_cases hlt : k < 64
    · have hix : ∀ wx, (Instr.index 57 (.agg (arr .u32 64 W)) (.int .i64 k)).run Tryd.prog wx = .ok (.int .u32 (W k)) wx := fun wx => run_index_arr wx 57 35 64 .u32 .i64 W k Tryd.underlying57 Tryd.underlying35 info35 hlt
      have hkc : wr.drew.cell? ⟨2, k, none⟩ = some (.int .u32 (K k)) := HK.out k hlt
      have HN : Hid (rnds s K W (k + 1) = rnd v (K k) (W k)) := by rw [HVk.out]; rfl
      have k0 : (0 : Int) ≤ k := by omega
      have k64 : (k : Int) < 64 := by omega
      go_wp2
      refine wp_region_held_drew (S := fun w' => w'.cell? ⟨2, k, none⟩ = some (.int .u32 (K k))) (by kernel_rfl) hkc (fun hS => ?_)
      refine wpAnyH_take (i := 0) (v := .int .u32 (v 7)) rfl (by kernel_rfl) (by kernel_rfl) (by kernel_rfl) (fun _ _ _ h => h) (Or.inl ⟨by kernel_rfl, fun _ _ => by kernel_rfl⟩) hS ?_
      refine wpAnyH_take (i := 1) (v := .int .u32 (v 4)) rfl (by kernel_rfl) (by kernel_rfl) (by kernel_rfl) (fun _ _ _ h => h) (Or.inl ⟨by kernel_rfl, fun _ _ => by kernel_rfl⟩) hS ?_
      refine wpAnyH_take (i := 4) (v := .int .u32 (v 4)) rfl (by kernel_rfl) (by kernel_rfl) (by kernel_rfl) (fun _ _ _ h => h) (Or.inl ⟨by kernel_rfl, fun _ _ => by kernel_rfl⟩) hS ?_
      refine wpAnyH_take (i := 5) (v := .int .u32 (v 5)) rfl (by kernel_rfl) (by kernel_rfl) (by kernel_rfl) (fun _ _ _ h => h) (Or.inl ⟨by kernel_rfl, fun _ _ => by kernel_rfl⟩) hS ?_
      refine wpAnyH_take (i := 6) (v := .int .u32 (bits .and .u32 (v 4) (v 5))) rfl (by kernel_rfl) (by kernel_rfl) (by kernel_rfl) (fun _ _ _ h => h) (Or.inl ⟨by kernel_rfl, fun wx hx => by go_simp⟩) hS ?_
      refine wpAnyH_take (i := 7) (v := .int .u32 (v 4)) rfl (by kernel_rfl) (by kernel_rfl) (by kernel_rfl) (fun _ _ _ h => h) (Or.inl ⟨by kernel_rfl, fun _ _ => by kernel_rfl⟩) hS ?_
      refine wpAnyH_take (i := 8) (v := .int .u32 (bits .xor .u32 IntKind.u32.max (v 4))) rfl (by kernel_rfl) (by kernel_rfl) (by kernel_rfl) (fun _ _ _ h => h) (Or.inl ⟨by kernel_rfl, fun wx hx => by go_simp; rfl⟩) hS ?_
      refine wpAnyH_take (i := 9) (v := .int .u32 (v 6)) rfl (by kernel_rfl) (by kernel_rfl) (by kernel_rfl) (fun _ _ _ h => h) (Or.inl ⟨by kernel_rfl, fun _ _ => by kernel_rfl⟩) hS ?_
      refine wpAnyH_take (i := 10) (v := .int .u32 (bits .and .u32 (bits .xor .u32 IntKind.u32.max (v 4)) (v 6))) rfl (by kernel_rfl) (by kernel_rfl) (by kernel_rfl) (fun _ _ _ h => h) (Or.inl ⟨by kernel_rfl, fun wx hx => by go_simp⟩) hS ?_
      refine wpAnyH_take (i := 11) (v := .int .u32 (bits .xor .u32 (bits .and .u32 (v 4) (v 5)) (bits .and .u32 (bits .xor .u32 IntKind.u32.max (v 4)) (v 6)))) rfl (by kernel_rfl) (by kernel_rfl) (by kernel_rfl) (fun _ _ _ h => h) (Or.inl ⟨by kernel_rfl, fun wx hx => by go_simp⟩) hS ?_
      refine wpAnyH_take (i := 13) (v := .int .i64 k) rfl (by kernel_rfl) (by kernel_rfl) (by kernel_rfl) (fun _ _ _ h => h) (Or.inl ⟨by kernel_rfl, fun _ _ => by kernel_rfl⟩) hS ?_
      refine wpAnyH_take (i := 14) (v := .pointer (some ⟨2, k, none⟩)) rfl (by kernel_rfl) (by kernel_rfl) (by kernel_rfl) (fun _ _ _ h => h) (Or.inl ⟨by kernel_rfl, fun wx hx => by go_simp⟩) hS ?_
      refine wpAnyH_take (i := 15) (v := .int .u32 (K k)) rfl (by kernel_rfl) (by kernel_rfl) (by kernel_rfl) (fun _ _ _ h => h) (Or.inl ⟨by kernel_rfl, fun wx hx => by have h : wx.cell? ⟨2, k, none⟩ = some (.int .u32 (K k)) := hx; go_simp⟩) hS ?_
      refine wpAnyH_take (i := 17) (v := .int .u32 (W k)) rfl (by kernel_rfl) (by kernel_rfl) (by kernel_rfl) (fun _ _ _ h => h) (Or.inl ⟨by kernel_rfl, fun _ _ => by kernel_rfl⟩) hS ?_
      refine wpAnyH_ready (rs := [2]) (by kernel_rfl) (by simp) (AllReadyH.cons rfl (fun Kc hK => ?_) AllReadyH.nil)
      go_simp
      go_wp2_with (go_at_call 26; refine (turned_any (v 4) 6 11 25 _ (by decide) (by decide) (by decide) (by decide) (by decide) (by decide)).mono ?_; rintro e w' ⟨rfl, rfl⟩)
      refine hK.out _ _ hS (fun hS => ?_)
      clear hK
      refine wpAnyH_take (i := 3) (v := .int .u32 (IntKind.u32.wrap ((v 7) + tur (v 4) 6 11 25))) rfl (by kernel_rfl) (by kernel_rfl) (by kernel_rfl) (fun _ _ _ h => h) (Or.inl ⟨by kernel_rfl, fun wx hx => by go_simp⟩) hS ?_
      refine wpAnyH_take (i := 12) (v := .int .u32 (IntKind.u32.wrap (IntKind.u32.wrap ((v 7) + tur (v 4) 6 11 25) + bits .xor .u32 (bits .and .u32 (v 4) (v 5)) (bits .and .u32 (bits .xor .u32 IntKind.u32.max (v 4)) (v 6))))) rfl (by kernel_rfl) (by kernel_rfl) (by kernel_rfl) (fun _ _ _ h => h) (Or.inl ⟨by kernel_rfl, fun wx hx => by go_simp⟩) hS ?_
      refine wpAnyH_take (i := 16) (v := .int .u32 (IntKind.u32.wrap (IntKind.u32.wrap (IntKind.u32.wrap ((v 7) + tur (v 4) 6 11 25) + bits .xor .u32 (bits .and .u32 (v 4) (v 5)) (bits .and .u32 (bits .xor .u32 IntKind.u32.max (v 4)) (v 6))) + (K k)))) rfl (by kernel_rfl) (by kernel_rfl) (by kernel_rfl) (fun _ _ _ h => h) (Or.inl ⟨by kernel_rfl, fun wx hx => by go_simp⟩) hS ?_
      refine wpAnyH_take (i := 18) (v := .int .u32 (IntKind.u32.wrap (IntKind.u32.wrap (IntKind.u32.wrap (IntKind.u32.wrap ((v 7) + tur (v 4) 6 11 25) + bits .xor .u32 (bits .and .u32 (v 4) (v 5)) (bits .and .u32 (bits .xor .u32 IntKind.u32.max (v 4)) (v 6))) + (K k)) + (W k)))) rfl (by kernel_rfl) (by kernel_rfl) (by kernel_rfl) (fun _ _ _ h => h) (Or.inl ⟨by kernel_rfl, fun wx hx => by go_simp⟩) hS ?_
      refine wpAnyH_take (i := 19) (v := .int .u32 (IntKind.u32.wrap (IntKind.u32.wrap (IntKind.u32.wrap (IntKind.u32.wrap ((v 7) + tur (v 4) 6 11 25) + bits .xor .u32 (bits .and .u32 (v 4) (v 5)) (bits .and .u32 (bits .xor .u32 IntKind.u32.max (v 4)) (v 6))) + (K k)) + (W k)))) rfl (by kernel_rfl) (by kernel_rfl) (by kernel_rfl) (fun _ _ _ h => h) (Or.inl ⟨by kernel_rfl, fun _ _ => by kernel_rfl⟩) hS ?_
      refine wpAnyH_done (by kernel_rfl) ?_ _
      go_simp
      clear hix hkc
      go_wp2_with (go_at_call 26; refine (turned_any (v 0) 2 13 22 _ (by decide) (by decide) (by decide) (by decide) (by decide) (by decide)).mono ?_; rintro e w' ⟨rfl, rfl⟩)
      go_roundw
      case rel =>
        refine ⟨k + 1, rnd v (K k) (W k), by omega, by go_num, HN.out.symm, ?_, rfl, rfl, rfl, ?_, rfl, rfl, rfl, hA, hR, hnx.drew, HK⟩
        · simp only [rnd, t1S, t2S, chS, majS, IntKind.wrap_u32']
        · simp only [rnd, t1S, chS, IntKind.wrap_u32']
      case measure => simp [intOf]; omega
    · have hk64 : k = 64 := by omega
      subst hk64
      have hvV : v = V := by rw [HVk.out, HV.out]
      subst hvV
      clear HVk HV HK HW
      obtain ⟨wo, hwo⟩ : ∃ wo : World, wo = wr := ⟨_, rfl⟩
      rw [← hwo] at hA hR hnx ⊢
      clear hwo
      have hs0 : Arr wo w.heap.size 49 .u32 8 (fun j => if j < 0 then IntKind.u32.wrap (s j + v j) else s j) := by simpa using hA
      clear hA
      go_wp2
      go_loopw [96] (fun i wr => ∃ q : Nat, q ≤ 8 ∧ i = .int .i64 q ∧ Arr wr w.heap.size 49 .u32 8 (fun j => if j < q then IntKind.u32.wrap (s j + v j) else s j) ∧ Arr wr (w.heap.size + 1 + 1) 49 .u32 8 (fun _ => 0) ∧ Below w.heap.size w wr) (fun i _ => 8 - (intOf i).toNat)
      case atStart => exact ⟨0, Nat.zero_le _, rfl, hs0, hR, hnx⟩
      case round =>
        clear hs0 hR hnx
        obtain ⟨q, hq, rfl, hA, hR, hnx⟩ := hrel
        by_cases hlt8 : q < 8
        · have hix : ∀ wx, (Instr.index 49 (.agg #[.int .u32 (v 0), .int .u32 (v 1), .int .u32 (v 2), .int .u32 (v 3), .int .u32 (v 4), .int .u32 (v 5), .int .u32 (v 6), .int .u32 (v 7)]) (.int .i64 q)).run Tryd.prog wx = .ok (.int .u32 (v q)) wx := fun wx => run_index_arr wx 49 35 8 .u32 .i64 v q Tryd.underlying49 Tryd.underlying35 info35 hlt8
          have hc := hA.cell q hlt8
          simp only [Nat.lt_irrefl, if_false] at hc
          have hf := hA.frozen q
          have HU : Hid (upd (fun j => if j < q then IntKind.u32.wrap (s j + v j) else s j) q (IntKind.u32.wrap (s q + v q)) = fun j => if j < q + 1 then IntKind.u32.wrap (s j + v j) else s j) := by
            funext j
            unfold upd
            by_cases hj : j = q
            · subst hj; simp
            · simp only [hj, if_false]
              by_cases hjq : j < q
              · simp [hjq, Nat.lt_succ_of_lt hjq]
              · simp [hjq, show ¬ j < q + 1 by omega]
          go_wp2
          go_roundw
          case rel =>
            rw [← IntKind.wrap_u32']
            refine ⟨q + 1, by omega, by go_num, ?_, hR.setOther _ _ _ (by omega), hnx.setCell (Nat.le_refl _) _⟩
            rw [← HU.out]
            exact hA.store _ _
          case measure => simp [intOf]; omega
        · have hq8 : q = 8 := by omega
          subst hq8
          have ec : arr .u32 8 (fun j => if j < 8 then IntKind.u32.wrap (s j + v j) else s j) = arr .u32 8 (fun j => IntKind.u32.wrap (s j + v j)) := arr_congr (fun j hj => by simp [hj])
          have hA' : Arr wr w.heap.size 49 .u32 8 (fun j => IntKind.u32.wrap (s j + v j)) := by unfold Arr; rw [← ec]; exact hA
          clear ec hA
          go_wp2_with (first | (refine wpList_load_row rfl 49 (.tmp 2) rfl w.heap.size rfl 49 (arr .u32 8 (fun j => IntKind.u32.wrap (s j + v j))) (0, 0) (.array 8 35) hA' Tryd.underlying49 rfl (by rw [arr_size]; exact info49) ?_) | (refine wpList_store_row rfl 49 (.tmp 4) (.tmp 107) rfl (w.heap.size + 1 + 1) (arr .u32 8 (fun j => IntKind.u32.wrap (s j + v j))) rfl rfl 49 (arr .u32 8 (fun _ => 0)) hR (by rw [arr_size]; exact info49) (by rw [arr_size, arr_size]) (arr_one _ _ _) ?_))
          have hsr := setRow_heap wr (w.heap.size + 1 + 1) _ (arr .u32 8 (fun j => IntKind.u32.wrap (s j + v j))) 49 (0, 0) hR
          refine bodyPost_ret (v := .agg (arr .u32 8 (fun j => IntKind.u32.wrap (s j + v j)))) (results_cell_row (p := 4) Tryd.results23 _ _ (w.heap.size + 1 + 1) 49 _ (0, 0) (.array 8 35) (by kernel_rfl) hsr Tryd.underlying49 rfl (by rw [arr_size]; exact info49)) rfl ⟨rfl, ?_⟩
          exact below_setRow' hnx (by omega) _

theorem mix_any (s b K : Nat → Int) (hb : ∀ j, 0 ≤ b j ∧ b j < 256) (w : World) (hK : KeysAt w K) :
    Calls Tryd.prog 23 #[.agg (arr .u32 8 s), .agg (arr .u8 64 b)] w fun e w' => e = .returned (.agg (arr .u32 8 (mixS K s b))) ∧ Below w.heap.size w w' :=
  mix_core s b K _ _ hb w hK rfl rfl
end Go.Proofs.YthfikoghbnicoabDoor
