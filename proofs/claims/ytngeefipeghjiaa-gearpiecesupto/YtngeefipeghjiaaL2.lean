/- The walk of GearTables. -/
import Derived.Test.YtngeefipeghjiaaL1
import Derived.Laws.StructEq
namespace Go.Proofs.Ytngeefipeghjiaa
open Go.RowKit

theorem tab_one_of {a b : Array Value} {T : Nat → Int} (ha : Tab a T) (hb : Tab b T) : a = b := by
  apply Array.ext
  · rw [ha.1, hb.1]
  · intro i h1 h2
    have e1 := ha.2 i (by rw [← ha.1]; exact h1)
    have e2 := hb.2 i (by rw [← hb.1]; exact h2)
    rw [Array.getElem?_eq_getElem h1] at e1
    rw [Array.getElem?_eq_getElem h2] at e2
    rw [Option.some.injEq] at e1 e2
    rw [e1, e2]
theorem size26 (w : World) : (sizeOf 26).run Try.prog w = .ok 1 w := by kernel_rfl
theorem part26 (w : World) (cs : Array Value) (T : Nat → Int) (h : Tab cs T) (i : Nat) (hi : i < 256) : (part 26 cs (i * 1)).run Try.prog w = .ok (.int .u32 (T i)) w := by
  have := h.2 i hi
  unfold part
  simp [this]
theorem eq27 (w : World) (cs : Array Value) (T : Nat → Int) (h : Tab cs T) (d : Nat) : (Op.equalIn (d + 2) 27 (.agg cs) (.agg cs)).run Try.prog w = .ok true w := by
  rw [Op.equalIn]
  simp only [Sem.run_bind, run_underlying Try.underlying27, Result.andThen_ok, size26]
  rw [Std.Legacy.Range.forIn_eq_forIn_range']
  have hl : ∀ i ∈ List.range' 0 256, i < 256 := by intro i hi; simp at hi; exact hi
  show _ = _
  have : List.range' (Std.Legacy.Range.mk 0 256 1 (by decide)).start (Std.Legacy.Range.mk 0 256 1 (by decide)).size (Std.Legacy.Range.mk 0 256 1 (by decide)).step = List.range' 0 256 := by rfl
  rw [this]
  generalize List.range' 0 256 = l at hl
  clear this
  induction l with
  | nil => simp
  | cons i l ih =>
    have hi := hl i (by simp)
    simp only [List.forIn_cons, Sem.run_bind, part26 w cs T h i hi, Result.andThen_ok, run_equalIn_int w d 26 .u32 .u32 _ _ Try.underlying26]
    simp only [beq_self_eq_true, Bool.not_true, Bool.false_eq_true, if_false, Sem.run_pure, Result.andThen_ok]
    exact ih (fun j hj => hl j (by simp [hj]))
theorem guard27 (w : World) (op : BinOp) (x y : Operand) (xs ys : Array Value) : (eqGuard op 27 x y (.agg xs) (.agg ys)).run Try.prog w = .ok () w := run_eqGuard_agg w op 27 x y xs ys (by kernel_rfl)
theorem same27 (w : World) (cs : Array Value) (T : Nat → Int) (h : Tab cs T) : (binOp .eql 27 (.agg cs) (.agg cs)).run Try.prog w = .ok (.bool true) w := by
  rw [run_eql_struct, eq27 w cs T h 9998]
  rfl
/-- Bounds by value. -/
def CutV (v : Value) (b : Int × Int × Int) : Prop := v = .agg #[.int .i64 b.1, .int .i64 b.2.1, .int .i64 b.2.2]
theorem u64_rng {a : Int} (h : (Lit.int .u64 a).wf = true) : 0 ≤ a ∧ a < 18446744073709551616 := by
  have e1 : IntKind.u64.min = 0 := rfl
  have e2 : IntKind.u64.max = 18446744073709551615 := rfl
  simp [Lit.wf] at h
  omega
set_option maxHeartbeats 2000000 in
set_option maxRecDepth 100000 in
theorem walk_gearTables (seed : Int) (v : Value) (b : Int × Int × Int) (w : World) (hw : (Lit.int .u64 seed).wf = true) (hv : CutV v b) : Calls Try.prog 3 #[.int .u64 seed, v] w fun e w' => e = .returned (.bool true) ∧ Below w.heap.size w w' := by
  obtain ⟨h0, h1⟩ := u64_rng hw
  clear hw
  obtain ⟨mn, av, mx⟩ := b
  unfold CutV at hv
  subst hv
  simp only
  obtain ⟨w1, HW1⟩ : ∃ w1, Hid (w.alloc (.cells #[.int .i64 mn, .int .i64 av, .int .i64 mx] 24) = w1) := ⟨_, ⟨rfl⟩⟩
  have Hb : Hid (Below w.heap.size w w1) := ⟨by rw [← HW1.out]; exact (Below.refl _ w).alloc (Nat.le_refl _) _⟩
  have Hx : Hid (w1.heap[w.heap.size]? = some (.cells #[.int .i64 mn, .int .i64 av, .int .i64 mx] 24 (0, 0))) := ⟨by rw [← HW1.out]; exact heap_alloc_new w _⟩
  have Hsz : Hid (w1.heap.size = w.heap.size + 1) := ⟨by rw [← HW1.out]; simp⟩
  go_enter Try.func3, Try.ntmps3
  go_wp2_with fail
  rw [HW1.out]
  obtain ⟨B, HBB⟩ : ∃ B, Hid (w.heap.size = B) := ⟨_, ⟨rfl⟩⟩
  rw [HBB.out] at Hx Hsz Hb ⊢
  have hSS : ∀ w', Below (B + 1) w1 w' → w'.cell? ⟨B, 0, none⟩ = some (.int .i64 mn) ∧ w'.cell? ⟨B, 1, none⟩ = some (.int .i64 av) ∧ w'.cell? ⟨B, 2, none⟩ = some (.int .i64 mx) := fun w' hb' => by
    have hy := (hb'.block B (by omega)).trans Hx.out
    refine ⟨?_, ?_, ?_⟩
    · rw [cell_of_row _ _ _ _ _ _ hy]; rfl
    · rw [cell_of_row _ _ _ _ _ _ hy]; rfl
    · rw [cell_of_row _ _ _ _ _ _ hy]; rfl
  have hS0 := hSS w1.drew (Below.refl _ w1).drew
  refine wp_region_held_drew (S := (fun w' => w'.cell? ⟨B, 0, none⟩ = some (.int .i64 mn) ∧ w'.cell? ⟨B, 1, none⟩ = some (.int .i64 av) ∧ w'.cell? ⟨B, 2, none⟩ = some (.int .i64 mx))) (by kernel_rfl) hS0 (fun hS => ?_)
  refine wpAnyH_ready (rs := [0]) (by kernel_rfl) (by simp) (AllReadyH.cons rfl (fun Kc hK => ?_) AllReadyH.nil)
  go_simp
  refine (live_any _).mono ?_
  rintro e w2 ⟨rfl, hb⟩
  have Hw2 : Hid (Below (B + 1) w1 w2) := ⟨(Below.refl _ w1).drew.trans (hb.mono (by show B + 1 ≤ w1.heap.size; rw [Hsz.out]; exact Nat.le_refl _))⟩
  have hSw2 := hSS w2 Hw2.out
  clear hb
  go_simp
  refine hK.out _ _ hSw2 (fun hS => ?_)
  clear hK
  refine wpAnyH_take (i := 1) (v := .bool true) rfl (by kernel_rfl) (by kernel_rfl) (by kernel_rfl) (fun _ _ _ h => h) (Or.inl ⟨by kernel_rfl, fun _ _ => by kernel_rfl⟩) hS ?_
  refine wpAnyH_take (i := 2) (v := .int .u64 seed) rfl (by kernel_rfl) (by kernel_rfl) (by kernel_rfl) (fun _ _ _ h => h) (Or.inl ⟨by kernel_rfl, fun _ _ => by kernel_rfl⟩) hS ?_
  refine wpAnyH_take (i := 4) (v := .int .u64 seed) rfl (by kernel_rfl) (by kernel_rfl) (by kernel_rfl) (fun _ _ _ h => h) (Or.inl ⟨by kernel_rfl, fun _ _ => by kernel_rfl⟩) hS ?_
  refine wpAnyH_ready (rs := [3]) (by kernel_rfl) (by simp) (AllReadyH.cons rfl (fun Kc hK => ?_) AllReadyH.nil)
  go_simp
  refine (table_any seed h0 h1 _).mono ?_
  rintro e w3 ⟨cs1, rfl, hT1, hb⟩
  have Hw3 : Hid (Below (B + 1) w1 w3) := ⟨Hw2.out.trans (hb.mono (by have := Hw2.out.size; rw [Hsz.out] at this; exact this))⟩
  have hSw3 := hSS w3 Hw3.out
  clear hb
  go_simp
  refine hK.out _ _ hSw3 (fun hS => ?_)
  clear hK
  refine wpAnyH_ready (rs := [5]) (by kernel_rfl) (by simp) (AllReadyH.cons rfl (fun Kc hK => ?_) AllReadyH.nil)
  go_simp
  refine (rtable_any seed _).mono ?_
  rintro e w4 ⟨cs2, rfl, hT2, hb⟩
  have Hw4 : Hid (Below (B + 1) w1 w4) := ⟨Hw3.out.trans (hb.mono (by have := Hw3.out.size; rw [Hsz.out] at this; exact this))⟩
  have hSw4 := hSS w4 Hw4.out
  clear hb
  go_simp
  refine hK.out _ _ hSw4 (fun hS => ?_)
  clear hK
  obtain rfl := tab_one_of hT1 hT2
  have hg := fun (w : World) => guard27 w .eql (.tmp 8) (.tmp 10) cs1 cs1
  have hs := fun (w : World) => same27 w cs1 _ hT1
  refine wpAnyH_take (i := 6) (v := .bool true) rfl (by kernel_rfl) (by kernel_rfl) (by kernel_rfl) (fun _ _ _ h => h) (Or.inl ⟨by kernel_rfl, fun wx hx => by go_simp⟩) hS ?_
  refine wpAnyH_take (i := 7) (v := .bool true) rfl (by kernel_rfl) (by kernel_rfl) (by kernel_rfl) (fun _ _ _ h => h) (Or.inl ⟨by kernel_rfl, fun _ _ => by kernel_rfl⟩) hS ?_
  refine wpAnyH_take (i := 8) (v := .bool true) rfl (by kernel_rfl) (by kernel_rfl) (by kernel_rfl) (fun _ _ _ h => h) (Or.inl ⟨by kernel_rfl, fun _ _ => by kernel_rfl⟩) hS ?_
  refine wpAnyH_take (i := 9) (v := .agg #[.int .i64 mn, .int .i64 av, .int .i64 mx]) rfl (by kernel_rfl) (by kernel_rfl) (by kernel_rfl) (fun _ _ _ h => h) (Or.inl ⟨by kernel_rfl, fun wx hx => by obtain ⟨hx0, hx1, hx2⟩ := hx; go_simp⟩) hS ?_
  refine wpAnyH_take (i := 11) (v := .agg #[.int .i64 mn, .int .i64 av, .int .i64 mx]) rfl (by kernel_rfl) (by kernel_rfl) (by kernel_rfl) (fun _ _ _ h => h) (Or.inl ⟨by kernel_rfl, fun wx hx => by obtain ⟨hx0, hx1, hx2⟩ := hx; go_simp⟩) hS ?_
  refine wpAnyH_ready (rs := [10]) (by kernel_rfl) (by simp) (AllReadyH.cons rfl (fun Kc hK => ?_) AllReadyH.nil)
  go_simp
  refine (check_any mn av mx _).mono ?_
  rintro e w5 ⟨rfl, hb⟩
  have Hw5 : Hid (Below (B + 1) w1 w5) := ⟨Hw4.out.trans (hb.mono (by have := Hw4.out.size; rw [Hsz.out] at this; exact this))⟩
  have hSw5 := hSS w5 Hw5.out
  clear hb
  go_simp
  refine hK.out _ _ hSw5 (fun hS => ?_)
  clear hK
  refine wpAnyH_ready (rs := [12]) (by kernel_rfl) (by simp) (AllReadyH.cons rfl (fun Kc hK => ?_) AllReadyH.nil)
  go_simp
  refine (rcheck_any mn av mx _).mono ?_
  rintro e w6 ⟨rfl, hb⟩
  have Hw6 : Hid (Below (B + 1) w1 w6) := ⟨Hw5.out.trans (hb.mono (by have := Hw5.out.size; rw [Hsz.out] at this; exact this))⟩
  have hSw6 := hSS w6 Hw6.out
  clear hb
  go_simp
  refine hK.out _ _ hSw6 (fun hS => ?_)
  clear hK
  refine wpAnyH_take (i := 13) (v := .bool true) rfl (by kernel_rfl) (by kernel_rfl) (by kernel_rfl) (fun _ _ _ h => h) (Or.inl ⟨by kernel_rfl, fun wx hx => by go_simp⟩) hS ?_
  refine wpAnyH_take (i := 14) (v := .bool true) rfl (by kernel_rfl) (by kernel_rfl) (by kernel_rfl) (fun _ _ _ h => h) (Or.inl ⟨by kernel_rfl, fun _ _ => by kernel_rfl⟩) hS ?_
  refine wpAnyH_take (i := 15) (v := .bool true) rfl (by kernel_rfl) (by kernel_rfl) (by kernel_rfl) (fun _ _ _ h => h) (Or.inl ⟨by kernel_rfl, fun _ _ => by kernel_rfl⟩) hS ?_
  refine wpAnyH_done (by kernel_rfl) ?_ _
  clear hS hS0 hSS hSw2 hSw3 hSw4 hSw5 hSw6 hg hs
  go_simp
  go_wp2
  go_ret
  exact ⟨rfl, by rw [HBB.out]; exact Hb.out.trans (Hw6.out.mono (by omega))⟩
end Go.Proofs.Ytngeefipeghjiaa
