/- Contract of digest.Sum. -/
import Derived.Test.YthfikoghbnicoabDoorD9
namespace Go.Proofs.YthfikoghbnicoabDoor
open Go.RowKit

theorem Bs.off {w : World} {v : Value} {bs : List Int} {g : Nat} (h : Bs w v bs) (hg : w.heap.size ≤ g) : OffB v g := by
  intro b off L cap hL hv
  rcases h.cases with ⟨_, a, c, hv', _⟩ | ⟨_, b', off', c, hv', _, _, hb, _⟩
  · rw [hv] at hv'
    simp only [Value.slice.injEq] at hv'
    omega
  · rw [hv] at hv'
    simp only [Value.slice.injEq, Option.some.injEq, Addr.mk.injEq] at hv'
    omega

/-- A hash of no bytes. -/
def q00 (S : Nat → Int) : HSt := ⟨S, fun _ => 0, 0⟩
/-- The state behind a text and its padding. -/
def shaS (K S : Nat → Int) (bs : List Int) : Nat → Int := (fin K (bs.foldl (wstep K) (q00 S))).s

theorem foldl_n (K : Nat → Int) (bs : List Int) : ∀ q, (bs.foldl (wstep K) q).n = q.n + bs.length := by
  induction bs with
  | nil => intro q; rfl
  | cons x xs ih => intro q; rw [List.foldl_cons, ih]; simp [wstep]; omega

theorem q00_b (S : Nat → Int) : ∀ j, 0 ≤ (q00 S).b j ∧ (q00 S).b j < 256 := fun _ => ⟨by show (0:Int) ≤ 0; decide, by show (0:Int) < 256; decide⟩

set_option maxHeartbeats 1000000 in
theorem dsum_any (v : Value) (bs : List Int) (K S : Nat → Int) (w : World) (hv : Bs w v bs) (hK : KeysAt w K) (hS : StartAt w S) (hby : ∀ x ∈ bs, 0 ≤ x ∧ x < 256) (hn : bs.length ≤ 281474976710000) :
    Calls Tryd.prog 10 #[v] w fun e w' => e = .returned (.agg (arr .u8 32 (outB (shaS K S bs)))) ∧ Below w.heap.size w w' := by
  obtain ⟨wA, hwA⟩ : ∃ wA, wA = w.alloc (.cells (arr .u8 32 (fun _ => 0)) 24) := ⟨_, rfl⟩
  have hbA : Below w.heap.size w wA := by rw [hwA]; exact (Below.refl _ w).alloc (Nat.le_refl _) _
  have hsA : wA.heap.size = w.heap.size + 1 := by rw [hwA]; simp
  have hAA : Arr wA w.heap.size 24 .u8 32 (fun _ => 0) := by rw [hwA]; exact Arr.new _ _ _ _ _
  have hvA := hv.below hbA
  have HKA : Hid (KeysAt wA K) := hK.below hbA
  have HSA : Hid (StartAt wA S) := hS.below hbA
  have hk2 := hK.lt
  have HV : Hid (Bs w v bs) := hv
  clear hK hS hv
  go_enter Tryd.func10, Tryd.ntmps10
  go_wp2_with (first
    | (refine wpList_val rfl (alloc24 _ w 2 "digest.go:93") ?_; rw [← hwA]; clear hwA)
    | (go_at_call 12; refine (new_any S _ HSA.out).mono ?_; rintro e w1 ⟨rfl, hF, hb1⟩; rw [hsA] at hF ⊢)
    | (go_at_call 13; refine (write_any (w.heap.size + 1) (q00 S) K bs v w1 (hvA.below hb1) hF ((Bs.off HV.out (by omega))) (by omega) (KeysAt.below HKA.out hb1) hby (q00_b S) (by show 0 + bs.length ≤ _; omega)).mono ?_; rintro e w2 ⟨rfl, ⟨q2, HQ2, hH2, hqb2⟩, hg2⟩; have HQ : Hid (q2 = bs.foldl (wstep K) (q00 S)) := HQ2; have hqn : q2.n = bs.length := by rw [HQ2, foldl_n]; simp [q00])
    | (go_at_call 14; refine (sum_any (w.heap.size + 1) q2 K w2 hH2 (KeysAt.grown (KeysAt.below HKA.out hb1) hg2 (by omega)) hqb2 (by omega)).mono ?_; rintro e w3 ⟨rfl, hb3⟩; have hA3 : Arr w3 w.heap.size 24 .u8 32 (fun _ => 0) := ((hAA.below hb1).block (hg2.block _ (by have := hb1.size; omega) (by simp))).below hb3; clear HQ2 hqn)
    | (refine wpList_store_row rfl 24 (.tmp 2) (.tmp 9) rfl w.heap.size (arr .u8 32 (outB (fin K q2).s)) rfl rfl 24 (arr .u8 32 (fun _ => 0)) hA3 (by rw [arr_size]; exact info24) (by rw [arr_size, arr_size]) (arr_one _ _ _) ?_))
  have hsr := setRow_heap w3 w.heap.size _ (arr .u8 32 (outB (fin K q2).s)) 24 (0, 0) hA3
  refine bodyPost_ret (v := .agg (arr .u8 32 (outB (fin K q2).s))) (results_cell_row (p := 2) Tryd.results10 _ _ w.heap.size 24 _ (0, 0) (.array 32 5) (by kernel_rfl) hsr Tryd.underlying24 rfl (by rw [arr_size]; exact info24)) rfl ⟨by rw [HQ.out]; rfl, ?_⟩
  have s2 : Below w.heap.size w w2 := below_of_grown (hbA.trans (hb1.mono (by omega))) hg2 (by omega) (Nat.le_refl _)
  exact below_setRow' (s2.trans (hb3.mono s2.size)) (Nat.le_refl _) _
end Go.Proofs.YthfikoghbnicoabDoor
