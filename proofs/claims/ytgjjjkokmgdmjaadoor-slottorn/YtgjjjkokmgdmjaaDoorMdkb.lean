/- Texts joined into one: DkD12, DkD13, DkD14, DkD15. -/
import Derived.Test.YtgjjjkokmgdmjaaDoorMdka
import Derived.Laws.MakeOwn
/- Package disk's outlived. -/
namespace Go.Proofs.YtgjjjkokmgdmjaaDoor.Dk
open Go.RowKit Go.Maps Go.Sort Go.Shelf

/-- A slice of truths. -/
def Ks (w : World) (v : Value) (ks : List Bool) : Prop := ∃ ao cap, v = .slice ao ks.length cap ∧ ∀ j, j < ks.length → ∃ b o, ao = some ⟨b, o, none⟩ ∧ w.cell? ⟨b, o + j, none⟩ = some (.bool (ks.getD j false))
theorem Ks.below {w w' : World} {v : Value} {ks : List Bool} (h : Ks w v ks) (hb : Below w.heap.size w w') : Ks w' v ks := by
  obtain ⟨ao, cap, rfl, hc⟩ := h
  refine ⟨ao, cap, rfl, fun j hj => ?_⟩
  obtain ⟨b, o, h1, h2⟩ := hc j hj
  exact ⟨b, o, h1, (hb.cell (World.block_lt_of_cell? _ _ h2)).trans h2⟩

def mix (k : Nat) (s l : List Int) : List Int := l.take k ++ s.drop k
theorem mix_pa {k : Nat} {s l : List Int} (hl : l.length = 128) (hk : k ≤ 128) : ((pa s).toList.take 0 ++ pc (l.take k) ++ (pa s).toList.drop (0 + (pc (l.take k)).length)).toArray = pa (mix k s l) := by
  unfold pa mix
  congr 1
  rw [List.take_zero, List.nil_append, Nat.zero_add, pc_length, List.length_take, Nat.min_eq_left (by omega)]
  unfold pc
  rw [List.map_append, List.map_drop]
theorem pg_mix {k : Nat} {s l : List Int} (hs : Pg s) (hl : Pg l) : Pg (mix k s l) := by
  refine ⟨by have := hs.1; have := hl.1; simp [mix]; omega, fun x hx => ?_⟩
  rcases List.mem_append.1 hx with h | h
  · exact hl.2 x (List.mem_of_mem_take h)
  · exact hs.2 x (List.mem_of_mem_drop h)

/-- The four variables of outlived. -/
def Four (V w : World) (kv : Value) (torn at' : Int) (s l : List Int) : Prop := V = (((w.alloc (.cells #[kv, .int .i64 torn, .int .i64 at'] 37)).alloc (.cells (pa s) 73)).alloc (.cells (pa l) 73)).alloc (.cells Tryd.zeroCells73 73)
theorem four_below {V w : World} {kv : Value} {torn at' : Int} {s l : List Int} (h : Four V w kv torn at' s l) : Below w.heap.size w V := by
  rw [show V = _ from h]
  exact ((((Below.refl _ w).alloc (Nat.le_refl _) _).alloc (by simp) _).alloc (by simp; omega) _).alloc (by simp; omega) _
theorem four_heap {V w : World} {kv : Value} {torn at' : Int} {s l : List Int} (h : Four V w kv torn at' s l) : V.heap[w.heap.size]? = some (.cells #[kv, .int .i64 torn, .int .i64 at'] 37 (0, 0)) ∧ V.heap[w.heap.size + 1]? = some (.cells (pa s) 73 (0, 0)) ∧ V.heap[w.heap.size + 1 + 1]? = some (.cells (pa l) 73 (0, 0)) ∧ V.heap[w.heap.size + 1 + 1 + 1]? = some (.cells Tryd.zeroCells73 73 (0, 0)) := by
  rw [show V = _ from h]
  refine ⟨?_, ?_, ?_, ?_⟩
  · rw [heap_alloc_old _ _ _ (by simp; omega), heap_alloc_old _ _ _ (by simp; omega), heap_alloc_old _ _ _ (by simp)]; exact heap_alloc_new w _
  · rw [heap_alloc_old _ _ _ (by simp), heap_alloc_old _ _ _ (by simp)]
    have := heap_alloc_new (w.alloc (.cells #[kv, .int .i64 torn, .int .i64 at'] 37)) (.cells (pa s) 73)
    rwa [size_alloc] at this
  · rw [heap_alloc_old _ _ _ (by simp)]
    have := heap_alloc_new ((w.alloc (.cells #[kv, .int .i64 torn, .int .i64 at'] 37)).alloc (.cells (pa s) 73)) (.cells (pa l) 73)
    rwa [size_alloc, size_alloc] at this
  · have := heap_alloc_new (((w.alloc (.cells #[kv, .int .i64 torn, .int .i64 at'] 37)).alloc (.cells (pa s) 73)).alloc (.cells (pa l) 73)) (.cells Tryd.zeroCells73 73)
    rwa [size_alloc, size_alloc, size_alloc] at this

theorem wpl_allocZ {ops : Array Oper} {rest : List Oper} {o : Oper} {a : Act} {w V : World} {Q : Exit → Act → World → Prop} (hg : o.guard = none) (ho : o.op = .alloc 73) (hV : w.alloc (.cells Tryd.zeroCells73 73) = V) (h : wpList Tryd.prog ops Q rest (a.put o.dst (.pointer (some ⟨w.heap.size, 0, none⟩))) V) : wpList Tryd.prog ops Q (o :: rest) a w := by
  subst hV
  refine wpl_alloc68 hg ho ?_
  rw [← zc68]; exact h

/-- The copy of the first k bytes. -/
theorem four_copy {V w : World} {kv : Value} {torn at' : Int} {s l : List Int} (h : Four V w kv torn at' s l) (hs : Pg s) (hl : Pg l) (k : Nat) (hk : k ≤ 128) :
    (Builtin.copy_ #[23, 23] 3 #[.slice (some ⟨w.heap.size + 1, 0, none⟩) k 128, .slice (some ⟨w.heap.size + 1 + 1, 0, none⟩) k 128]).run Tryd.prog V.drew = .ok (goInt k) (V.drew.setRow (w.heap.size + 1) (pa (mix k s l))) := by
  obtain ⟨_, h1, h2, _⟩ := four_heap h
  have e : (pc (l.take k)).length = k := by rw [pc_length, List.length_take, hl.1]; omega
  have := run_copy_row (P := Tryd.prog) V.drew 23 23 3 5 (w.heap.size + 1) 0 k 128 ⟨w.heap.size + 1 + 1, 0, none⟩ k 128 (pa s) 73 (pc (l.take k)) Tryd.underlying23 info5 h1 (by rw [e]; exact (Nat.min_self k).symm) (fun j u hj => by
    rw [add_plain]
    refine var_cells (w := V.drew) h2 j u ?_
    rw [pc, List.map_take] at hj
    have hjk : j < k := by
      rcases Nat.lt_or_ge j k with q | q
      · exact q
      · rw [List.getElem?_eq_none (by simp; omega)] at hj; cases hj
    rw [List.getElem?_take, if_pos hjk] at hj
    exact hj) (by rw [e, pa_size, hs.1]; omega) (pc_one _)
  rw [mix_pa hl.1 hk, e] at this
  exact this

set_option maxHeartbeats 2000000 in
set_option maxRecDepth 100000 in
theorem outl_torn (w : World) (kv : Value) (ks : List Bool) (torn at' : Int) (k : Nat) (s l : List Int) (hs : Pg s) (hl : Pg l) (hk : Ks w kv ks) (ht : (k : Int) = torn) (h0 : 0 ≤ at') (h1 : at' ≤ 128) :
    Calls Tryd.prog 30 #[.agg #[kv, .int .i64 torn, .int .i64 at'], .int .i64 (k : Int), .agg (pa s), .agg (pa l)] w fun e w' => e = .returned (.agg (pa (mix at'.toNat s l))) ∧ Below w.heap.size w w' := by
  obtain ⟨V, hV⟩ : ∃ V, Four V w kv torn at' s l := ⟨_, rfl⟩
  have hk' := hk.below (four_below hV)
  obtain ⟨ao, cap, rfl, hcell⟩ := hk'
  obtain ⟨f0, f1, f2, f3⟩ := four_heap hV
  have hcp := four_copy hV hs hl at'.toNat (by omega)
  have hmx : Pg (mix at'.toNat s l) := pg_mix hs hl
  have hpl : (Tryd.prog.info? 73).map (·.size) = some (pa (mix at'.toNat s l)).size := by rw [pa_size, hmx.1]; exact info68
  obtain ⟨v1, Hv1⟩ : ∃ v1, Hid (v1 = V.drew.setRow (w.heap.size + 1) (pa (mix at'.toNat s l))) := ⟨_, ⟨rfl⟩⟩
  have g1 : v1.heap[w.heap.size + 1]? = some (.cells (pa (mix at'.toNat s l)) 73 (0, 0)) := by rw [Hv1.out]; exact setRow_heap _ _ _ _ 73 (0, 0) f1
  have g3 : v1.heap[w.heap.size + 1 + 1 + 1]? = some (.cells Tryd.zeroCells73 73 (0, 0)) := by rw [Hv1.out]; exact (setRow_other _ _ _ _ (by omega)).trans f3
  have HB : Hid (Below w.heap.size w v1) := ⟨by rw [Hv1.out]; exact below_setRow' (four_below hV).drew (by omega) _⟩
  rw [← Hv1.out] at hcp
  clear Hv1 hk
  have c0 : V.cell? ⟨w.heap.size, 0, none⟩ = some (.slice ao ks.length cap) := by rw [cell_of_row _ _ _ _ _ _ f0]; rfl
  have c1 : V.cell? ⟨w.heap.size, 1, none⟩ = some (.int .i64 torn) := by rw [cell_of_row _ _ _ _ _ _ f0]; rfl
  have c2 : V.cell? ⟨w.heap.size, 2, none⟩ = some (.int .i64 at') := by rw [cell_of_row _ _ _ _ _ _ f0]; rfl
  clear f0 f1 f2 f3
  obtain ⟨A, rfl⟩ : ∃ A : Nat, at' = A := ⟨at'.toNat, by omega⟩
  simp only [Int.toNat_natCast] at *
  generalize hmq : mix A s l = mx at hcp hmx hpl g1
  clear hmq
  have HV : Hid ((((w.alloc (.cells #[.slice ao ks.length cap, .int .i64 torn, .int .i64 (A : Int)] 37)).alloc (.cells (pa s) 73)).alloc (.cells (pa l) 73)).alloc (.cells Tryd.zeroCells73 73) = V) := ⟨hV.symm⟩
  clear hV
  go_enter Tryd.func30, Tryd.ntmps30
  go_wp2_with (refine wpl_allocZ rfl rfl HV.out ?_; clear HV)
  refine wp_region_any (by kernel_rfl) ?_
  change wpAny _ _ _ _ _ _ _ (World.drew _)
  refine wpAny_take (i := 0) (v := .int .i64 (A : Int)) rfl (by kernel_rfl) (by kernel_rfl) (by kernel_rfl) (fun _ _ _ h => h) (Or.inl ⟨by kernel_rfl, fun _ => by kernel_rfl⟩) ?_
  refine wpAny_take (i := 1) (v := .slice (some ⟨w.heap.size + 1, 0, none⟩) A 128) rfl (by kernel_rfl) (by kernel_rfl) (by kernel_rfl) (fun _ _ _ h => h) (Or.inl ⟨by kernel_rfl, fun wx => by go_simp⟩) ?_
  refine wpAny_take (i := 2) (v := .int .i64 (A : Int)) rfl (by kernel_rfl) (by kernel_rfl) (by kernel_rfl) (fun _ _ _ h => h) (Or.inl ⟨by kernel_rfl, fun _ => by kernel_rfl⟩) ?_
  refine wpAny_take (i := 3) (v := .slice (some ⟨w.heap.size + 1 + 1, 0, none⟩) A 128) rfl (by kernel_rfl) (by kernel_rfl) (by kernel_rfl) (fun _ _ _ h => h) (Or.inl ⟨by kernel_rfl, fun wx => by go_simp⟩) ?_
  refine wpAny_ready (rs := [4]) (by kernel_rfl) (by simp) (AllReady.cons rfl (fun Kc hK => ?_) AllReady.nil)
  go_simp
  refine hK _ _ ?_
  clear hK hcp
  refine wpAny_done (by kernel_rfl) ?_ _
  have tok : True := trivial
  go_wp2_with (first
    | (have _t := tok; refine wpList_load_row rfl 73 (.tmp 6) rfl (w.heap.size + 1) rfl 73 (pa mx) (0, 0) _ g1 Tryd.underlying73 rfl hpl ?_; clear tok)
    | (refine wpList_store_row rfl 73 (.tmp 8) (.tmp 45) rfl (w.heap.size + 1 + 1 + 1) (pa mx) rfl rfl 73 Tryd.zeroCells73 g3 hpl (by rw [zc68, pa_size, pa_size, hmx.1]; rfl) (pa_one _) ?_; refine wpList_nil ?_; rename_i hcont; refine hcont _ _ (wp_ret ?_); refine bodyPost_ret (v := .agg (pa mx)) (results_cell_row (p := 8) Tryd.results30 _ _ (w.heap.size + 1 + 1 + 1) 73 _ (0, 0) (.array 128 5) (by kernel_rfl) (setRow_heap v1 (w.heap.size + 1 + 1 + 1) _ (pa mx) 73 (0, 0) g3) Tryd.underlying73 rfl hpl) rfl ⟨rfl, below_setRow' HB.out (by omega) _⟩))

set_option maxHeartbeats 2000000 in
set_option maxRecDepth 100000 in
theorem outl_keepa (w : World) (kv : Value) (ks : List Bool) (torn at' : Int) (k : Nat) (s l : List Int) (hs : Pg s) (hl : Pg l) (hk : Ks w kv ks) (ht : ¬ (k : Int) = torn) (hkl : k < ks.length) (hkt : ks.getD k false = true) :
    Calls Tryd.prog 30 #[.agg #[kv, .int .i64 torn, .int .i64 at'], .int .i64 (k : Int), .agg (pa s), .agg (pa l)] w fun e w' => e = .returned (.agg (pa (mix 128 s l))) ∧ Below w.heap.size w w' := by
  obtain ⟨V, hV⟩ : ∃ V, Four V w kv torn at' s l := ⟨_, rfl⟩
  have hk' := hk.below (four_below hV)
  obtain ⟨ao, cap, rfl, hcell⟩ := hk'
  obtain ⟨f0, f1, f2, f3⟩ := four_heap hV
  have hcp := four_copy hV hs hl 128 (by omega)
  have hmx : Pg (mix 128 s l) := pg_mix hs hl
  have hpl : (Tryd.prog.info? 73).map (·.size) = some (pa (mix 128 s l)).size := by rw [pa_size, hmx.1]; exact info68
  obtain ⟨v1, Hv1⟩ : ∃ v1, Hid (v1 = V.drew.setRow (w.heap.size + 1) (pa (mix 128 s l))) := ⟨_, ⟨rfl⟩⟩
  have g1 : v1.heap[w.heap.size + 1]? = some (.cells (pa (mix 128 s l)) 73 (0, 0)) := by rw [Hv1.out]; exact setRow_heap _ _ _ _ 73 (0, 0) f1
  have g3 : v1.heap[w.heap.size + 1 + 1 + 1]? = some (.cells Tryd.zeroCells73 73 (0, 0)) := by rw [Hv1.out]; exact (setRow_other _ _ _ _ (by omega)).trans f3
  have HB : Hid (Below w.heap.size w v1) := ⟨by rw [Hv1.out]; exact below_setRow' (four_below hV).drew (by omega) _⟩
  rw [← Hv1.out] at hcp
  clear Hv1 hk
  have c0 : V.cell? ⟨w.heap.size, 0, none⟩ = some (.slice ao ks.length cap) := by rw [cell_of_row _ _ _ _ _ _ f0]; rfl
  have c1 : V.cell? ⟨w.heap.size, 1, none⟩ = some (.int .i64 torn) := by rw [cell_of_row _ _ _ _ _ _ f0]; rfl
  have c2 : V.cell? ⟨w.heap.size, 2, none⟩ = some (.int .i64 at') := by rw [cell_of_row _ _ _ _ _ _ f0]; rfl
  clear f0 f1 f2 f3
  obtain ⟨zb, zo, rfl, hz⟩ := hcell k hkl
  rw [hkt] at hz
  have hkz : (k : Int) < (ks.length : Int) := by omega
  have hn128 : ((128 : Nat) : Int) = 128 := rfl
  clear hcell
  generalize hmq : mix 128 s l = mx at hcp hmx hpl g1
  clear hmq
  have HV : Hid ((((w.alloc (.cells #[.slice (some ⟨zb, zo, none⟩) ks.length cap, .int .i64 torn, .int .i64 at'] 37)).alloc (.cells (pa s) 73)).alloc (.cells (pa l) 73)).alloc (.cells Tryd.zeroCells73 73) = V) := ⟨hV.symm⟩
  clear hV
  go_enter Tryd.func30, Tryd.ntmps30
  go_wp2_with (refine wpl_allocZ rfl rfl HV.out ?_; clear HV)
  refine wp_region_any (by kernel_rfl) ?_
  change wpAny _ _ _ _ _ _ _ (World.drew _)
  refine wpAny_take (i := 0) (v := .int .i64 128) rfl (by kernel_rfl) (by kernel_rfl) (by kernel_rfl) (fun _ _ _ h => h) (Or.inl ⟨by kernel_rfl, fun _ => by kernel_rfl⟩) ?_
  refine wpAny_take (i := 1) (v := .slice (some ⟨w.heap.size + 1, 0, none⟩) 128 128) rfl (by kernel_rfl) (by kernel_rfl) (by kernel_rfl) (fun _ _ _ h => h) (Or.inl ⟨by kernel_rfl, fun wx => by go_simp⟩) ?_
  refine wpAny_take (i := 2) (v := .int .i64 128) rfl (by kernel_rfl) (by kernel_rfl) (by kernel_rfl) (fun _ _ _ h => h) (Or.inl ⟨by kernel_rfl, fun _ => by kernel_rfl⟩) ?_
  refine wpAny_take (i := 3) (v := .slice (some ⟨w.heap.size + 1 + 1, 0, none⟩) 128 128) rfl (by kernel_rfl) (by kernel_rfl) (by kernel_rfl) (fun _ _ _ h => h) (Or.inl ⟨by kernel_rfl, fun wx => by go_simp⟩) ?_
  refine wpAny_ready (rs := [4]) (by kernel_rfl) (by simp) (AllReady.cons rfl (fun Kc hK => ?_) AllReady.nil)
  go_simp
  refine hK _ _ ?_
  clear hK hcp
  refine wpAny_done (by kernel_rfl) ?_ _
  have tok : True := trivial
  go_wp2_with (first
    | (have _t := tok; refine wpList_load_row rfl 73 (.tmp 6) rfl (w.heap.size + 1) rfl 73 (pa mx) (0, 0) _ g1 Tryd.underlying73 rfl hpl ?_; clear tok)
    | (refine wpList_store_row rfl 73 (.tmp 8) (.tmp 45) rfl (w.heap.size + 1 + 1 + 1) (pa mx) rfl rfl 73 Tryd.zeroCells73 g3 hpl (by rw [zc68, pa_size, pa_size, hmx.1]; rfl) (pa_one _) ?_; refine wpList_nil ?_; rename_i hcont; refine hcont _ _ (wp_ret ?_); refine bodyPost_ret (v := .agg (pa mx)) (results_cell_row (p := 8) Tryd.results30 _ _ (w.heap.size + 1 + 1 + 1) 73 _ (0, 0) (.array 128 5) (by kernel_rfl) (setRow_heap v1 (w.heap.size + 1 + 1 + 1) _ (pa mx) 73 (0, 0) g3) Tryd.underlying73 rfl hpl) rfl ⟨rfl, below_setRow' HB.out (by omega) _⟩))

set_option maxHeartbeats 2000000 in
set_option maxRecDepth 100000 in
theorem outl_dropa (w : World) (kv : Value) (ks : List Bool) (torn at' : Int) (k : Nat) (s l : List Int) (hs : Pg s) (hl : Pg l) (hk : Ks w kv ks) (ht : ¬ (k : Int) = torn) (hkl : k < ks.length) (hkt : ks.getD k false = false) :
    Calls Tryd.prog 30 #[.agg #[kv, .int .i64 torn, .int .i64 at'], .int .i64 (k : Int), .agg (pa s), .agg (pa l)] w fun e w' => e = .returned (.agg (pa (mix 0 s l))) ∧ Below w.heap.size w w' := by
  obtain ⟨V, hV⟩ : ∃ V, Four V w kv torn at' s l := ⟨_, rfl⟩
  have hk' := hk.below (four_below hV)
  obtain ⟨ao, cap, rfl, hcell⟩ := hk'
  obtain ⟨f0, f1, f2, f3⟩ := four_heap hV
  have hcp := four_copy hV hs hl 0 (by omega)
  have hmx : Pg (mix 0 s l) := pg_mix hs hl
  have hpl : (Tryd.prog.info? 73).map (·.size) = some (pa (mix 0 s l)).size := by rw [pa_size, hmx.1]; exact info68
  obtain ⟨v1, Hv1⟩ : ∃ v1, Hid (v1 = V.drew.setRow (w.heap.size + 1) (pa (mix 0 s l))) := ⟨_, ⟨rfl⟩⟩
  have g1 : v1.heap[w.heap.size + 1]? = some (.cells (pa (mix 0 s l)) 73 (0, 0)) := by rw [Hv1.out]; exact setRow_heap _ _ _ _ 73 (0, 0) f1
  have g3 : v1.heap[w.heap.size + 1 + 1 + 1]? = some (.cells Tryd.zeroCells73 73 (0, 0)) := by rw [Hv1.out]; exact (setRow_other _ _ _ _ (by omega)).trans f3
  have HB : Hid (Below w.heap.size w v1) := ⟨by rw [Hv1.out]; exact below_setRow' (four_below hV).drew (by omega) _⟩
  rw [← Hv1.out] at hcp
  clear Hv1 hk
  have c0 : V.cell? ⟨w.heap.size, 0, none⟩ = some (.slice ao ks.length cap) := by rw [cell_of_row _ _ _ _ _ _ f0]; rfl
  have c1 : V.cell? ⟨w.heap.size, 1, none⟩ = some (.int .i64 torn) := by rw [cell_of_row _ _ _ _ _ _ f0]; rfl
  have c2 : V.cell? ⟨w.heap.size, 2, none⟩ = some (.int .i64 at') := by rw [cell_of_row _ _ _ _ _ _ f0]; rfl
  clear f0 f1 f2 f3
  obtain ⟨zb, zo, rfl, hz⟩ := hcell k hkl
  rw [hkt] at hz
  have hkz : (k : Int) < (ks.length : Int) := by omega
  clear hcell
  generalize hmq : mix 0 s l = mx at hcp hmx hpl g1
  clear hmq
  have HV : Hid ((((w.alloc (.cells #[.slice (some ⟨zb, zo, none⟩) ks.length cap, .int .i64 torn, .int .i64 at'] 37)).alloc (.cells (pa s) 73)).alloc (.cells (pa l) 73)).alloc (.cells Tryd.zeroCells73 73) = V) := ⟨hV.symm⟩
  clear hV
  go_enter Tryd.func30, Tryd.ntmps30
  go_wp2_with (refine wpl_allocZ rfl rfl HV.out ?_; clear HV)
  refine wp_region_any (by kernel_rfl) ?_
  change wpAny _ _ _ _ _ _ _ (World.drew _)
  refine wpAny_take (i := 0) (v := .int .i64 0) rfl (by kernel_rfl) (by kernel_rfl) (by kernel_rfl) (fun _ _ _ h => h) (Or.inl ⟨by kernel_rfl, fun _ => by kernel_rfl⟩) ?_
  refine wpAny_take (i := 1) (v := .slice (some ⟨w.heap.size + 1, 0, none⟩) 0 128) rfl (by kernel_rfl) (by kernel_rfl) (by kernel_rfl) (fun _ _ _ h => h) (Or.inl ⟨by kernel_rfl, fun wx => by go_simp⟩) ?_
  refine wpAny_take (i := 2) (v := .int .i64 0) rfl (by kernel_rfl) (by kernel_rfl) (by kernel_rfl) (fun _ _ _ h => h) (Or.inl ⟨by kernel_rfl, fun _ => by kernel_rfl⟩) ?_
  refine wpAny_take (i := 3) (v := .slice (some ⟨w.heap.size + 1 + 1, 0, none⟩) 0 128) rfl (by kernel_rfl) (by kernel_rfl) (by kernel_rfl) (fun _ _ _ h => h) (Or.inl ⟨by kernel_rfl, fun wx => by go_simp⟩) ?_
  refine wpAny_ready (rs := [4]) (by kernel_rfl) (by simp) (AllReady.cons rfl (fun Kc hK => ?_) AllReady.nil)
  go_simp
  refine hK _ _ ?_
  clear hK hcp
  refine wpAny_done (by kernel_rfl) ?_ _
  have tok : True := trivial
  go_wp2_with (first
    | (have _t := tok; refine wpList_load_row rfl 73 (.tmp 6) rfl (w.heap.size + 1) rfl 73 (pa mx) (0, 0) _ g1 Tryd.underlying73 rfl hpl ?_; clear tok)
    | (refine wpList_store_row rfl 73 (.tmp 8) (.tmp 45) rfl (w.heap.size + 1 + 1 + 1) (pa mx) rfl rfl 73 Tryd.zeroCells73 g3 hpl (by rw [zc68, pa_size, pa_size, hmx.1]; rfl) (pa_one _) ?_; refine wpList_nil ?_; rename_i hcont; refine hcont _ _ (wp_ret ?_); refine bodyPost_ret (v := .agg (pa mx)) (results_cell_row (p := 8) Tryd.results30 _ _ (w.heap.size + 1 + 1 + 1) 73 _ (0, 0) (.array 128 5) (by kernel_rfl) (setRow_heap v1 (w.heap.size + 1 + 1 + 1) _ (pa mx) 73 (0, 0) g3) Tryd.underlying73 rfl hpl) rfl ⟨rfl, below_setRow' HB.out (by omega) _⟩))

set_option maxHeartbeats 2000000 in
set_option maxRecDepth 100000 in
theorem outl_nonea (w : World) (kv : Value) (ks : List Bool) (torn at' : Int) (k : Nat) (s l : List Int) (hs : Pg s) (hl : Pg l) (hk : Ks w kv ks) (ht : ¬ (k : Int) = torn) (hkl : ¬ k < ks.length) :
    Calls Tryd.prog 30 #[.agg #[kv, .int .i64 torn, .int .i64 at'], .int .i64 (k : Int), .agg (pa s), .agg (pa l)] w fun e w' => e = .returned (.agg (pa (mix 0 s l))) ∧ Below w.heap.size w w' := by
  obtain ⟨V, hV⟩ : ∃ V, Four V w kv torn at' s l := ⟨_, rfl⟩
  have hk' := hk.below (four_below hV)
  obtain ⟨ao, cap, rfl, hcell⟩ := hk'
  obtain ⟨f0, f1, f2, f3⟩ := four_heap hV
  have hcp := four_copy hV hs hl 0 (by omega)
  have hmx : Pg (mix 0 s l) := pg_mix hs hl
  have hpl : (Tryd.prog.info? 73).map (·.size) = some (pa (mix 0 s l)).size := by rw [pa_size, hmx.1]; exact info68
  obtain ⟨v1, Hv1⟩ : ∃ v1, Hid (v1 = V.drew.setRow (w.heap.size + 1) (pa (mix 0 s l))) := ⟨_, ⟨rfl⟩⟩
  have g1 : v1.heap[w.heap.size + 1]? = some (.cells (pa (mix 0 s l)) 73 (0, 0)) := by rw [Hv1.out]; exact setRow_heap _ _ _ _ 73 (0, 0) f1
  have g3 : v1.heap[w.heap.size + 1 + 1 + 1]? = some (.cells Tryd.zeroCells73 73 (0, 0)) := by rw [Hv1.out]; exact (setRow_other _ _ _ _ (by omega)).trans f3
  have HB : Hid (Below w.heap.size w v1) := ⟨by rw [Hv1.out]; exact below_setRow' (four_below hV).drew (by omega) _⟩
  rw [← Hv1.out] at hcp
  clear Hv1 hk
  have c0 : V.cell? ⟨w.heap.size, 0, none⟩ = some (.slice ao ks.length cap) := by rw [cell_of_row _ _ _ _ _ _ f0]; rfl
  have c1 : V.cell? ⟨w.heap.size, 1, none⟩ = some (.int .i64 torn) := by rw [cell_of_row _ _ _ _ _ _ f0]; rfl
  have c2 : V.cell? ⟨w.heap.size, 2, none⟩ = some (.int .i64 at') := by rw [cell_of_row _ _ _ _ _ _ f0]; rfl
  clear f0 f1 f2 f3
  have hkz : ¬ (k : Int) < (ks.length : Int) := by omega
  clear hcell
  generalize hmq : mix 0 s l = mx at hcp hmx hpl g1
  clear hmq
  have HV : Hid ((((w.alloc (.cells #[.slice ao ks.length cap, .int .i64 torn, .int .i64 at'] 37)).alloc (.cells (pa s) 73)).alloc (.cells (pa l) 73)).alloc (.cells Tryd.zeroCells73 73) = V) := ⟨hV.symm⟩
  clear hV
  go_enter Tryd.func30, Tryd.ntmps30
  go_wp2_with (refine wpl_allocZ rfl rfl HV.out ?_; clear HV)
  refine wp_region_any (by kernel_rfl) ?_
  change wpAny _ _ _ _ _ _ _ (World.drew _)
  refine wpAny_take (i := 0) (v := .int .i64 0) rfl (by kernel_rfl) (by kernel_rfl) (by kernel_rfl) (fun _ _ _ h => h) (Or.inl ⟨by kernel_rfl, fun _ => by kernel_rfl⟩) ?_
  refine wpAny_take (i := 1) (v := .slice (some ⟨w.heap.size + 1, 0, none⟩) 0 128) rfl (by kernel_rfl) (by kernel_rfl) (by kernel_rfl) (fun _ _ _ h => h) (Or.inl ⟨by kernel_rfl, fun wx => by go_simp⟩) ?_
  refine wpAny_take (i := 2) (v := .int .i64 0) rfl (by kernel_rfl) (by kernel_rfl) (by kernel_rfl) (fun _ _ _ h => h) (Or.inl ⟨by kernel_rfl, fun _ => by kernel_rfl⟩) ?_
  refine wpAny_take (i := 3) (v := .slice (some ⟨w.heap.size + 1 + 1, 0, none⟩) 0 128) rfl (by kernel_rfl) (by kernel_rfl) (by kernel_rfl) (fun _ _ _ h => h) (Or.inl ⟨by kernel_rfl, fun wx => by go_simp⟩) ?_
  refine wpAny_ready (rs := [4]) (by kernel_rfl) (by simp) (AllReady.cons rfl (fun Kc hK => ?_) AllReady.nil)
  go_simp
  refine hK _ _ ?_
  clear hK hcp
  refine wpAny_done (by kernel_rfl) ?_ _
  have tok : True := trivial
  go_wp2_with (first
    | (have _t := tok; refine wpList_load_row rfl 73 (.tmp 6) rfl (w.heap.size + 1) rfl 73 (pa mx) (0, 0) _ g1 Tryd.underlying73 rfl hpl ?_; clear tok)
    | (refine wpList_store_row rfl 73 (.tmp 8) (.tmp 45) rfl (w.heap.size + 1 + 1 + 1) (pa mx) rfl rfl 73 Tryd.zeroCells73 g3 hpl (by rw [zc68, pa_size, pa_size, hmx.1]; rfl) (pa_one _) ?_; refine wpList_nil ?_; rename_i hcont; refine hcont _ _ (wp_ret ?_); refine bodyPost_ret (v := .agg (pa mx)) (results_cell_row (p := 8) Tryd.results30 _ _ (w.heap.size + 1 + 1 + 1) 73 _ (0, 0) (.array 128 5) (by kernel_rfl) (setRow_heap v1 (w.heap.size + 1 + 1 + 1) _ (pa mx) 73 (0, 0) g3) Tryd.underlying73 rfl hpl) rfl ⟨rfl, below_setRow' HB.out (by omega) _⟩))

set_option maxHeartbeats 2000000 in
set_option maxRecDepth 100000 in
theorem outl_keepb (w : World) (kv : Value) (ks : List Bool) (torn at' : Int) (k : Nat) (s l : List Int) (hs : Pg s) (hl : Pg l) (hk : Ks w kv ks) (ht : (k : Int) = torn) (h0 : at' < 0) (hkl : k < ks.length) (hkt : ks.getD k false = true) :
    Calls Tryd.prog 30 #[.agg #[kv, .int .i64 torn, .int .i64 at'], .int .i64 (k : Int), .agg (pa s), .agg (pa l)] w fun e w' => e = .returned (.agg (pa (mix 128 s l))) ∧ Below w.heap.size w w' := by
  obtain ⟨V, hV⟩ : ∃ V, Four V w kv torn at' s l := ⟨_, rfl⟩
  have hk' := hk.below (four_below hV)
  obtain ⟨ao, cap, rfl, hcell⟩ := hk'
  obtain ⟨f0, f1, f2, f3⟩ := four_heap hV
  have hcp := four_copy hV hs hl 128 (by omega)
  have hmx : Pg (mix 128 s l) := pg_mix hs hl
  have hpl : (Tryd.prog.info? 73).map (·.size) = some (pa (mix 128 s l)).size := by rw [pa_size, hmx.1]; exact info68
  obtain ⟨v1, Hv1⟩ : ∃ v1, Hid (v1 = V.drew.setRow (w.heap.size + 1) (pa (mix 128 s l))) := ⟨_, ⟨rfl⟩⟩
  have g1 : v1.heap[w.heap.size + 1]? = some (.cells (pa (mix 128 s l)) 73 (0, 0)) := by rw [Hv1.out]; exact setRow_heap _ _ _ _ 73 (0, 0) f1
  have g3 : v1.heap[w.heap.size + 1 + 1 + 1]? = some (.cells Tryd.zeroCells73 73 (0, 0)) := by rw [Hv1.out]; exact (setRow_other _ _ _ _ (by omega)).trans f3
  have HB : Hid (Below w.heap.size w v1) := ⟨by rw [Hv1.out]; exact below_setRow' (four_below hV).drew (by omega) _⟩
  rw [← Hv1.out] at hcp
  clear Hv1 hk
  have c0 : V.cell? ⟨w.heap.size, 0, none⟩ = some (.slice ao ks.length cap) := by rw [cell_of_row _ _ _ _ _ _ f0]; rfl
  have c1 : V.cell? ⟨w.heap.size, 1, none⟩ = some (.int .i64 torn) := by rw [cell_of_row _ _ _ _ _ _ f0]; rfl
  have c2 : V.cell? ⟨w.heap.size, 2, none⟩ = some (.int .i64 at') := by rw [cell_of_row _ _ _ _ _ _ f0]; rfl
  clear f0 f1 f2 f3
  subst ht
  obtain ⟨zb, zo, rfl, hz⟩ := hcell k hkl
  rw [hkt] at hz
  have hkz : (k : Int) < (ks.length : Int) := by omega
  have hn128 : ((128 : Nat) : Int) = 128 := rfl
  clear hcell
  generalize hmq : mix 128 s l = mx at hcp hmx hpl g1
  clear hmq
  have HV : Hid ((((w.alloc (.cells #[.slice (some ⟨zb, zo, none⟩) ks.length cap, .int .i64 (k : Int), .int .i64 at'] 37)).alloc (.cells (pa s) 73)).alloc (.cells (pa l) 73)).alloc (.cells Tryd.zeroCells73 73) = V) := ⟨hV.symm⟩
  clear hV
  go_enter Tryd.func30, Tryd.ntmps30
  go_wp2_with (refine wpl_allocZ rfl rfl HV.out ?_; clear HV)
  refine wp_region_any (by kernel_rfl) ?_
  change wpAny _ _ _ _ _ _ _ (World.drew _)
  refine wpAny_take (i := 0) (v := .int .i64 128) rfl (by kernel_rfl) (by kernel_rfl) (by kernel_rfl) (fun _ _ _ h => h) (Or.inl ⟨by kernel_rfl, fun _ => by kernel_rfl⟩) ?_
  refine wpAny_take (i := 1) (v := .slice (some ⟨w.heap.size + 1, 0, none⟩) 128 128) rfl (by kernel_rfl) (by kernel_rfl) (by kernel_rfl) (fun _ _ _ h => h) (Or.inl ⟨by kernel_rfl, fun wx => by go_simp⟩) ?_
  refine wpAny_take (i := 2) (v := .int .i64 128) rfl (by kernel_rfl) (by kernel_rfl) (by kernel_rfl) (fun _ _ _ h => h) (Or.inl ⟨by kernel_rfl, fun _ => by kernel_rfl⟩) ?_
  refine wpAny_take (i := 3) (v := .slice (some ⟨w.heap.size + 1 + 1, 0, none⟩) 128 128) rfl (by kernel_rfl) (by kernel_rfl) (by kernel_rfl) (fun _ _ _ h => h) (Or.inl ⟨by kernel_rfl, fun wx => by go_simp⟩) ?_
  refine wpAny_ready (rs := [4]) (by kernel_rfl) (by simp) (AllReady.cons rfl (fun Kc hK => ?_) AllReady.nil)
  go_simp
  refine hK _ _ ?_
  clear hK hcp
  refine wpAny_done (by kernel_rfl) ?_ _
  have tok : True := trivial
  go_wp2_with (first
    | (have _t := tok; refine wpList_load_row rfl 73 (.tmp 6) rfl (w.heap.size + 1) rfl 73 (pa mx) (0, 0) _ g1 Tryd.underlying73 rfl hpl ?_; clear tok)
    | (refine wpList_store_row rfl 73 (.tmp 8) (.tmp 45) rfl (w.heap.size + 1 + 1 + 1) (pa mx) rfl rfl 73 Tryd.zeroCells73 g3 hpl (by rw [zc68, pa_size, pa_size, hmx.1]; rfl) (pa_one _) ?_; refine wpList_nil ?_; rename_i hcont; refine hcont _ _ (wp_ret ?_); refine bodyPost_ret (v := .agg (pa mx)) (results_cell_row (p := 8) Tryd.results30 _ _ (w.heap.size + 1 + 1 + 1) 73 _ (0, 0) (.array 128 5) (by kernel_rfl) (setRow_heap v1 (w.heap.size + 1 + 1 + 1) _ (pa mx) 73 (0, 0) g3) Tryd.underlying73 rfl hpl) rfl ⟨rfl, below_setRow' HB.out (by omega) _⟩))

set_option maxHeartbeats 2000000 in
set_option maxRecDepth 100000 in
theorem outl_dropb (w : World) (kv : Value) (ks : List Bool) (torn at' : Int) (k : Nat) (s l : List Int) (hs : Pg s) (hl : Pg l) (hk : Ks w kv ks) (ht : (k : Int) = torn) (h0 : at' < 0) (hkl : k < ks.length) (hkt : ks.getD k false = false) :
    Calls Tryd.prog 30 #[.agg #[kv, .int .i64 torn, .int .i64 at'], .int .i64 (k : Int), .agg (pa s), .agg (pa l)] w fun e w' => e = .returned (.agg (pa (mix 0 s l))) ∧ Below w.heap.size w w' := by
  obtain ⟨V, hV⟩ : ∃ V, Four V w kv torn at' s l := ⟨_, rfl⟩
  have hk' := hk.below (four_below hV)
  obtain ⟨ao, cap, rfl, hcell⟩ := hk'
  obtain ⟨f0, f1, f2, f3⟩ := four_heap hV
  have hcp := four_copy hV hs hl 0 (by omega)
  have hmx : Pg (mix 0 s l) := pg_mix hs hl
  have hpl : (Tryd.prog.info? 73).map (·.size) = some (pa (mix 0 s l)).size := by rw [pa_size, hmx.1]; exact info68
  obtain ⟨v1, Hv1⟩ : ∃ v1, Hid (v1 = V.drew.setRow (w.heap.size + 1) (pa (mix 0 s l))) := ⟨_, ⟨rfl⟩⟩
  have g1 : v1.heap[w.heap.size + 1]? = some (.cells (pa (mix 0 s l)) 73 (0, 0)) := by rw [Hv1.out]; exact setRow_heap _ _ _ _ 73 (0, 0) f1
  have g3 : v1.heap[w.heap.size + 1 + 1 + 1]? = some (.cells Tryd.zeroCells73 73 (0, 0)) := by rw [Hv1.out]; exact (setRow_other _ _ _ _ (by omega)).trans f3
  have HB : Hid (Below w.heap.size w v1) := ⟨by rw [Hv1.out]; exact below_setRow' (four_below hV).drew (by omega) _⟩
  rw [← Hv1.out] at hcp
  clear Hv1 hk
  have c0 : V.cell? ⟨w.heap.size, 0, none⟩ = some (.slice ao ks.length cap) := by rw [cell_of_row _ _ _ _ _ _ f0]; rfl
  have c1 : V.cell? ⟨w.heap.size, 1, none⟩ = some (.int .i64 torn) := by rw [cell_of_row _ _ _ _ _ _ f0]; rfl
  have c2 : V.cell? ⟨w.heap.size, 2, none⟩ = some (.int .i64 at') := by rw [cell_of_row _ _ _ _ _ _ f0]; rfl
  clear f0 f1 f2 f3
  subst ht
  obtain ⟨zb, zo, rfl, hz⟩ := hcell k hkl
  rw [hkt] at hz
  have hkz : (k : Int) < (ks.length : Int) := by omega
  clear hcell
  generalize hmq : mix 0 s l = mx at hcp hmx hpl g1
  clear hmq
  have HV : Hid ((((w.alloc (.cells #[.slice (some ⟨zb, zo, none⟩) ks.length cap, .int .i64 (k : Int), .int .i64 at'] 37)).alloc (.cells (pa s) 73)).alloc (.cells (pa l) 73)).alloc (.cells Tryd.zeroCells73 73) = V) := ⟨hV.symm⟩
  clear hV
  go_enter Tryd.func30, Tryd.ntmps30
  go_wp2_with (refine wpl_allocZ rfl rfl HV.out ?_; clear HV)
  refine wp_region_any (by kernel_rfl) ?_
  change wpAny _ _ _ _ _ _ _ (World.drew _)
  refine wpAny_take (i := 0) (v := .int .i64 0) rfl (by kernel_rfl) (by kernel_rfl) (by kernel_rfl) (fun _ _ _ h => h) (Or.inl ⟨by kernel_rfl, fun _ => by kernel_rfl⟩) ?_
  refine wpAny_take (i := 1) (v := .slice (some ⟨w.heap.size + 1, 0, none⟩) 0 128) rfl (by kernel_rfl) (by kernel_rfl) (by kernel_rfl) (fun _ _ _ h => h) (Or.inl ⟨by kernel_rfl, fun wx => by go_simp⟩) ?_
  refine wpAny_take (i := 2) (v := .int .i64 0) rfl (by kernel_rfl) (by kernel_rfl) (by kernel_rfl) (fun _ _ _ h => h) (Or.inl ⟨by kernel_rfl, fun _ => by kernel_rfl⟩) ?_
  refine wpAny_take (i := 3) (v := .slice (some ⟨w.heap.size + 1 + 1, 0, none⟩) 0 128) rfl (by kernel_rfl) (by kernel_rfl) (by kernel_rfl) (fun _ _ _ h => h) (Or.inl ⟨by kernel_rfl, fun wx => by go_simp⟩) ?_
  refine wpAny_ready (rs := [4]) (by kernel_rfl) (by simp) (AllReady.cons rfl (fun Kc hK => ?_) AllReady.nil)
  go_simp
  refine hK _ _ ?_
  clear hK hcp
  refine wpAny_done (by kernel_rfl) ?_ _
  have tok : True := trivial
  go_wp2_with (first
    | (have _t := tok; refine wpList_load_row rfl 73 (.tmp 6) rfl (w.heap.size + 1) rfl 73 (pa mx) (0, 0) _ g1 Tryd.underlying73 rfl hpl ?_; clear tok)
    | (refine wpList_store_row rfl 73 (.tmp 8) (.tmp 45) rfl (w.heap.size + 1 + 1 + 1) (pa mx) rfl rfl 73 Tryd.zeroCells73 g3 hpl (by rw [zc68, pa_size, pa_size, hmx.1]; rfl) (pa_one _) ?_; refine wpList_nil ?_; rename_i hcont; refine hcont _ _ (wp_ret ?_); refine bodyPost_ret (v := .agg (pa mx)) (results_cell_row (p := 8) Tryd.results30 _ _ (w.heap.size + 1 + 1 + 1) 73 _ (0, 0) (.array 128 5) (by kernel_rfl) (setRow_heap v1 (w.heap.size + 1 + 1 + 1) _ (pa mx) 73 (0, 0) g3) Tryd.underlying73 rfl hpl) rfl ⟨rfl, below_setRow' HB.out (by omega) _⟩))

set_option maxHeartbeats 2000000 in
set_option maxRecDepth 100000 in
theorem outl_noneb (w : World) (kv : Value) (ks : List Bool) (torn at' : Int) (k : Nat) (s l : List Int) (hs : Pg s) (hl : Pg l) (hk : Ks w kv ks) (ht : (k : Int) = torn) (h0 : at' < 0) (hkl : ¬ k < ks.length) :
    Calls Tryd.prog 30 #[.agg #[kv, .int .i64 torn, .int .i64 at'], .int .i64 (k : Int), .agg (pa s), .agg (pa l)] w fun e w' => e = .returned (.agg (pa (mix 0 s l))) ∧ Below w.heap.size w w' := by
  obtain ⟨V, hV⟩ : ∃ V, Four V w kv torn at' s l := ⟨_, rfl⟩
  have hk' := hk.below (four_below hV)
  obtain ⟨ao, cap, rfl, hcell⟩ := hk'
  obtain ⟨f0, f1, f2, f3⟩ := four_heap hV
  have hcp := four_copy hV hs hl 0 (by omega)
  have hmx : Pg (mix 0 s l) := pg_mix hs hl
  have hpl : (Tryd.prog.info? 73).map (·.size) = some (pa (mix 0 s l)).size := by rw [pa_size, hmx.1]; exact info68
  obtain ⟨v1, Hv1⟩ : ∃ v1, Hid (v1 = V.drew.setRow (w.heap.size + 1) (pa (mix 0 s l))) := ⟨_, ⟨rfl⟩⟩
  have g1 : v1.heap[w.heap.size + 1]? = some (.cells (pa (mix 0 s l)) 73 (0, 0)) := by rw [Hv1.out]; exact setRow_heap _ _ _ _ 73 (0, 0) f1
  have g3 : v1.heap[w.heap.size + 1 + 1 + 1]? = some (.cells Tryd.zeroCells73 73 (0, 0)) := by rw [Hv1.out]; exact (setRow_other _ _ _ _ (by omega)).trans f3
  have HB : Hid (Below w.heap.size w v1) := ⟨by rw [Hv1.out]; exact below_setRow' (four_below hV).drew (by omega) _⟩
  rw [← Hv1.out] at hcp
  clear Hv1 hk
  have c0 : V.cell? ⟨w.heap.size, 0, none⟩ = some (.slice ao ks.length cap) := by rw [cell_of_row _ _ _ _ _ _ f0]; rfl
  have c1 : V.cell? ⟨w.heap.size, 1, none⟩ = some (.int .i64 torn) := by rw [cell_of_row _ _ _ _ _ _ f0]; rfl
  have c2 : V.cell? ⟨w.heap.size, 2, none⟩ = some (.int .i64 at') := by rw [cell_of_row _ _ _ _ _ _ f0]; rfl
  clear f0 f1 f2 f3
  subst ht
  have hkz : ¬ (k : Int) < (ks.length : Int) := by omega
  clear hcell
  generalize hmq : mix 0 s l = mx at hcp hmx hpl g1
  clear hmq
  have HV : Hid ((((w.alloc (.cells #[.slice ao ks.length cap, .int .i64 (k : Int), .int .i64 at'] 37)).alloc (.cells (pa s) 73)).alloc (.cells (pa l) 73)).alloc (.cells Tryd.zeroCells73 73) = V) := ⟨hV.symm⟩
  clear hV
  go_enter Tryd.func30, Tryd.ntmps30
  go_wp2_with (refine wpl_allocZ rfl rfl HV.out ?_; clear HV)
  refine wp_region_any (by kernel_rfl) ?_
  change wpAny _ _ _ _ _ _ _ (World.drew _)
  refine wpAny_take (i := 0) (v := .int .i64 0) rfl (by kernel_rfl) (by kernel_rfl) (by kernel_rfl) (fun _ _ _ h => h) (Or.inl ⟨by kernel_rfl, fun _ => by kernel_rfl⟩) ?_
  refine wpAny_take (i := 1) (v := .slice (some ⟨w.heap.size + 1, 0, none⟩) 0 128) rfl (by kernel_rfl) (by kernel_rfl) (by kernel_rfl) (fun _ _ _ h => h) (Or.inl ⟨by kernel_rfl, fun wx => by go_simp⟩) ?_
  refine wpAny_take (i := 2) (v := .int .i64 0) rfl (by kernel_rfl) (by kernel_rfl) (by kernel_rfl) (fun _ _ _ h => h) (Or.inl ⟨by kernel_rfl, fun _ => by kernel_rfl⟩) ?_
  refine wpAny_take (i := 3) (v := .slice (some ⟨w.heap.size + 1 + 1, 0, none⟩) 0 128) rfl (by kernel_rfl) (by kernel_rfl) (by kernel_rfl) (fun _ _ _ h => h) (Or.inl ⟨by kernel_rfl, fun wx => by go_simp⟩) ?_
  refine wpAny_ready (rs := [4]) (by kernel_rfl) (by simp) (AllReady.cons rfl (fun Kc hK => ?_) AllReady.nil)
  go_simp
  refine hK _ _ ?_
  clear hK hcp
  refine wpAny_done (by kernel_rfl) ?_ _
  have tok : True := trivial
  go_wp2_with (first
    | (have _t := tok; refine wpList_load_row rfl 73 (.tmp 6) rfl (w.heap.size + 1) rfl 73 (pa mx) (0, 0) _ g1 Tryd.underlying73 rfl hpl ?_; clear tok)
    | (refine wpList_store_row rfl 73 (.tmp 8) (.tmp 45) rfl (w.heap.size + 1 + 1 + 1) (pa mx) rfl rfl 73 Tryd.zeroCells73 g3 hpl (by rw [zc68, pa_size, pa_size, hmx.1]; rfl) (pa_one _) ?_; refine wpList_nil ?_; rename_i hcont; refine hcont _ _ (wp_ret ?_); refine bodyPost_ret (v := .agg (pa mx)) (results_cell_row (p := 8) Tryd.results30 _ _ (w.heap.size + 1 + 1 + 1) 73 _ (0, 0) (.array 128 5) (by kernel_rfl) (setRow_heap v1 (w.heap.size + 1 + 1 + 1) _ (pa mx) 73 (0, 0) g3) Tryd.underlying73 rfl hpl) rfl ⟨rfl, below_setRow' HB.out (by omega) _⟩))

set_option maxHeartbeats 2000000 in
set_option maxRecDepth 100000 in
theorem outl_keepc (w : World) (kv : Value) (ks : List Bool) (torn at' : Int) (k : Nat) (s l : List Int) (hs : Pg s) (hl : Pg l) (hk : Ks w kv ks) (ht : (k : Int) = torn) (h0 : 128 < at') (hkl : k < ks.length) (hkt : ks.getD k false = true) :
    Calls Tryd.prog 30 #[.agg #[kv, .int .i64 torn, .int .i64 at'], .int .i64 (k : Int), .agg (pa s), .agg (pa l)] w fun e w' => e = .returned (.agg (pa (mix 128 s l))) ∧ Below w.heap.size w w' := by
  obtain ⟨V, hV⟩ : ∃ V, Four V w kv torn at' s l := ⟨_, rfl⟩
  have hk' := hk.below (four_below hV)
  obtain ⟨ao, cap, rfl, hcell⟩ := hk'
  obtain ⟨f0, f1, f2, f3⟩ := four_heap hV
  have hcp := four_copy hV hs hl 128 (by omega)
  have hmx : Pg (mix 128 s l) := pg_mix hs hl
  have hpl : (Tryd.prog.info? 73).map (·.size) = some (pa (mix 128 s l)).size := by rw [pa_size, hmx.1]; exact info68
  obtain ⟨v1, Hv1⟩ : ∃ v1, Hid (v1 = V.drew.setRow (w.heap.size + 1) (pa (mix 128 s l))) := ⟨_, ⟨rfl⟩⟩
  have g1 : v1.heap[w.heap.size + 1]? = some (.cells (pa (mix 128 s l)) 73 (0, 0)) := by rw [Hv1.out]; exact setRow_heap _ _ _ _ 73 (0, 0) f1
  have g3 : v1.heap[w.heap.size + 1 + 1 + 1]? = some (.cells Tryd.zeroCells73 73 (0, 0)) := by rw [Hv1.out]; exact (setRow_other _ _ _ _ (by omega)).trans f3
  have HB : Hid (Below w.heap.size w v1) := ⟨by rw [Hv1.out]; exact below_setRow' (four_below hV).drew (by omega) _⟩
  rw [← Hv1.out] at hcp
  clear Hv1 hk
  have c0 : V.cell? ⟨w.heap.size, 0, none⟩ = some (.slice ao ks.length cap) := by rw [cell_of_row _ _ _ _ _ _ f0]; rfl
  have c1 : V.cell? ⟨w.heap.size, 1, none⟩ = some (.int .i64 torn) := by rw [cell_of_row _ _ _ _ _ _ f0]; rfl
  have c2 : V.cell? ⟨w.heap.size, 2, none⟩ = some (.int .i64 at') := by rw [cell_of_row _ _ _ _ _ _ f0]; rfl
  clear f0 f1 f2 f3
  subst ht
  obtain ⟨zb, zo, rfl, hz⟩ := hcell k hkl
  rw [hkt] at hz
  have hkz : (k : Int) < (ks.length : Int) := by omega
  have hn128 : ((128 : Nat) : Int) = 128 := rfl
  clear hcell
  generalize hmq : mix 128 s l = mx at hcp hmx hpl g1
  clear hmq
  have HV : Hid ((((w.alloc (.cells #[.slice (some ⟨zb, zo, none⟩) ks.length cap, .int .i64 (k : Int), .int .i64 at'] 37)).alloc (.cells (pa s) 73)).alloc (.cells (pa l) 73)).alloc (.cells Tryd.zeroCells73 73) = V) := ⟨hV.symm⟩
  clear hV
  go_enter Tryd.func30, Tryd.ntmps30
  go_wp2_with (refine wpl_allocZ rfl rfl HV.out ?_; clear HV)
  refine wp_region_any (by kernel_rfl) ?_
  change wpAny _ _ _ _ _ _ _ (World.drew _)
  refine wpAny_take (i := 0) (v := .int .i64 128) rfl (by kernel_rfl) (by kernel_rfl) (by kernel_rfl) (fun _ _ _ h => h) (Or.inl ⟨by kernel_rfl, fun _ => by kernel_rfl⟩) ?_
  refine wpAny_take (i := 1) (v := .slice (some ⟨w.heap.size + 1, 0, none⟩) 128 128) rfl (by kernel_rfl) (by kernel_rfl) (by kernel_rfl) (fun _ _ _ h => h) (Or.inl ⟨by kernel_rfl, fun wx => by go_simp⟩) ?_
  refine wpAny_take (i := 2) (v := .int .i64 128) rfl (by kernel_rfl) (by kernel_rfl) (by kernel_rfl) (fun _ _ _ h => h) (Or.inl ⟨by kernel_rfl, fun _ => by kernel_rfl⟩) ?_
  refine wpAny_take (i := 3) (v := .slice (some ⟨w.heap.size + 1 + 1, 0, none⟩) 128 128) rfl (by kernel_rfl) (by kernel_rfl) (by kernel_rfl) (fun _ _ _ h => h) (Or.inl ⟨by kernel_rfl, fun wx => by go_simp⟩) ?_
  refine wpAny_ready (rs := [4]) (by kernel_rfl) (by simp) (AllReady.cons rfl (fun Kc hK => ?_) AllReady.nil)
  go_simp
  refine hK _ _ ?_
  clear hK hcp
  refine wpAny_done (by kernel_rfl) ?_ _
  have tok : True := trivial
  go_wp2_with (first
    | (have _t := tok; refine wpList_load_row rfl 73 (.tmp 6) rfl (w.heap.size + 1) rfl 73 (pa mx) (0, 0) _ g1 Tryd.underlying73 rfl hpl ?_; clear tok)
    | (refine wpList_store_row rfl 73 (.tmp 8) (.tmp 45) rfl (w.heap.size + 1 + 1 + 1) (pa mx) rfl rfl 73 Tryd.zeroCells73 g3 hpl (by rw [zc68, pa_size, pa_size, hmx.1]; rfl) (pa_one _) ?_; refine wpList_nil ?_; rename_i hcont; refine hcont _ _ (wp_ret ?_); refine bodyPost_ret (v := .agg (pa mx)) (results_cell_row (p := 8) Tryd.results30 _ _ (w.heap.size + 1 + 1 + 1) 73 _ (0, 0) (.array 128 5) (by kernel_rfl) (setRow_heap v1 (w.heap.size + 1 + 1 + 1) _ (pa mx) 73 (0, 0) g3) Tryd.underlying73 rfl hpl) rfl ⟨rfl, below_setRow' HB.out (by omega) _⟩))

set_option maxHeartbeats 2000000 in
set_option maxRecDepth 100000 in
theorem outl_dropc (w : World) (kv : Value) (ks : List Bool) (torn at' : Int) (k : Nat) (s l : List Int) (hs : Pg s) (hl : Pg l) (hk : Ks w kv ks) (ht : (k : Int) = torn) (h0 : 128 < at') (hkl : k < ks.length) (hkt : ks.getD k false = false) :
    Calls Tryd.prog 30 #[.agg #[kv, .int .i64 torn, .int .i64 at'], .int .i64 (k : Int), .agg (pa s), .agg (pa l)] w fun e w' => e = .returned (.agg (pa (mix 0 s l))) ∧ Below w.heap.size w w' := by
  obtain ⟨V, hV⟩ : ∃ V, Four V w kv torn at' s l := ⟨_, rfl⟩
  have hk' := hk.below (four_below hV)
  obtain ⟨ao, cap, rfl, hcell⟩ := hk'
  obtain ⟨f0, f1, f2, f3⟩ := four_heap hV
  have hcp := four_copy hV hs hl 0 (by omega)
  have hmx : Pg (mix 0 s l) := pg_mix hs hl
  have hpl : (Tryd.prog.info? 73).map (·.size) = some (pa (mix 0 s l)).size := by rw [pa_size, hmx.1]; exact info68
  obtain ⟨v1, Hv1⟩ : ∃ v1, Hid (v1 = V.drew.setRow (w.heap.size + 1) (pa (mix 0 s l))) := ⟨_, ⟨rfl⟩⟩
  have g1 : v1.heap[w.heap.size + 1]? = some (.cells (pa (mix 0 s l)) 73 (0, 0)) := by rw [Hv1.out]; exact setRow_heap _ _ _ _ 73 (0, 0) f1
  have g3 : v1.heap[w.heap.size + 1 + 1 + 1]? = some (.cells Tryd.zeroCells73 73 (0, 0)) := by rw [Hv1.out]; exact (setRow_other _ _ _ _ (by omega)).trans f3
  have HB : Hid (Below w.heap.size w v1) := ⟨by rw [Hv1.out]; exact below_setRow' (four_below hV).drew (by omega) _⟩
  rw [← Hv1.out] at hcp
  clear Hv1 hk
  have c0 : V.cell? ⟨w.heap.size, 0, none⟩ = some (.slice ao ks.length cap) := by rw [cell_of_row _ _ _ _ _ _ f0]; rfl
  have c1 : V.cell? ⟨w.heap.size, 1, none⟩ = some (.int .i64 torn) := by rw [cell_of_row _ _ _ _ _ _ f0]; rfl
  have c2 : V.cell? ⟨w.heap.size, 2, none⟩ = some (.int .i64 at') := by rw [cell_of_row _ _ _ _ _ _ f0]; rfl
  clear f0 f1 f2 f3
  subst ht
  obtain ⟨zb, zo, rfl, hz⟩ := hcell k hkl
  rw [hkt] at hz
  have hkz : (k : Int) < (ks.length : Int) := by omega
  clear hcell
  generalize hmq : mix 0 s l = mx at hcp hmx hpl g1
  clear hmq
  have HV : Hid ((((w.alloc (.cells #[.slice (some ⟨zb, zo, none⟩) ks.length cap, .int .i64 (k : Int), .int .i64 at'] 37)).alloc (.cells (pa s) 73)).alloc (.cells (pa l) 73)).alloc (.cells Tryd.zeroCells73 73) = V) := ⟨hV.symm⟩
  clear hV
  go_enter Tryd.func30, Tryd.ntmps30
  go_wp2_with (refine wpl_allocZ rfl rfl HV.out ?_; clear HV)
  refine wp_region_any (by kernel_rfl) ?_
  change wpAny _ _ _ _ _ _ _ (World.drew _)
  refine wpAny_take (i := 0) (v := .int .i64 0) rfl (by kernel_rfl) (by kernel_rfl) (by kernel_rfl) (fun _ _ _ h => h) (Or.inl ⟨by kernel_rfl, fun _ => by kernel_rfl⟩) ?_
  refine wpAny_take (i := 1) (v := .slice (some ⟨w.heap.size + 1, 0, none⟩) 0 128) rfl (by kernel_rfl) (by kernel_rfl) (by kernel_rfl) (fun _ _ _ h => h) (Or.inl ⟨by kernel_rfl, fun wx => by go_simp⟩) ?_
  refine wpAny_take (i := 2) (v := .int .i64 0) rfl (by kernel_rfl) (by kernel_rfl) (by kernel_rfl) (fun _ _ _ h => h) (Or.inl ⟨by kernel_rfl, fun _ => by kernel_rfl⟩) ?_
  refine wpAny_take (i := 3) (v := .slice (some ⟨w.heap.size + 1 + 1, 0, none⟩) 0 128) rfl (by kernel_rfl) (by kernel_rfl) (by kernel_rfl) (fun _ _ _ h => h) (Or.inl ⟨by kernel_rfl, fun wx => by go_simp⟩) ?_
  refine wpAny_ready (rs := [4]) (by kernel_rfl) (by simp) (AllReady.cons rfl (fun Kc hK => ?_) AllReady.nil)
  go_simp
  refine hK _ _ ?_
  clear hK hcp
  refine wpAny_done (by kernel_rfl) ?_ _
  have tok : True := trivial
  go_wp2_with (first
    | (have _t := tok; refine wpList_load_row rfl 73 (.tmp 6) rfl (w.heap.size + 1) rfl 73 (pa mx) (0, 0) _ g1 Tryd.underlying73 rfl hpl ?_; clear tok)
    | (refine wpList_store_row rfl 73 (.tmp 8) (.tmp 45) rfl (w.heap.size + 1 + 1 + 1) (pa mx) rfl rfl 73 Tryd.zeroCells73 g3 hpl (by rw [zc68, pa_size, pa_size, hmx.1]; rfl) (pa_one _) ?_; refine wpList_nil ?_; rename_i hcont; refine hcont _ _ (wp_ret ?_); refine bodyPost_ret (v := .agg (pa mx)) (results_cell_row (p := 8) Tryd.results30 _ _ (w.heap.size + 1 + 1 + 1) 73 _ (0, 0) (.array 128 5) (by kernel_rfl) (setRow_heap v1 (w.heap.size + 1 + 1 + 1) _ (pa mx) 73 (0, 0) g3) Tryd.underlying73 rfl hpl) rfl ⟨rfl, below_setRow' HB.out (by omega) _⟩))

set_option maxHeartbeats 2000000 in
set_option maxRecDepth 100000 in
theorem outl_nonec (w : World) (kv : Value) (ks : List Bool) (torn at' : Int) (k : Nat) (s l : List Int) (hs : Pg s) (hl : Pg l) (hk : Ks w kv ks) (ht : (k : Int) = torn) (h0 : 128 < at') (hkl : ¬ k < ks.length) :
    Calls Tryd.prog 30 #[.agg #[kv, .int .i64 torn, .int .i64 at'], .int .i64 (k : Int), .agg (pa s), .agg (pa l)] w fun e w' => e = .returned (.agg (pa (mix 0 s l))) ∧ Below w.heap.size w w' := by
  obtain ⟨V, hV⟩ : ∃ V, Four V w kv torn at' s l := ⟨_, rfl⟩
  have hk' := hk.below (four_below hV)
  obtain ⟨ao, cap, rfl, hcell⟩ := hk'
  obtain ⟨f0, f1, f2, f3⟩ := four_heap hV
  have hcp := four_copy hV hs hl 0 (by omega)
  have hmx : Pg (mix 0 s l) := pg_mix hs hl
  have hpl : (Tryd.prog.info? 73).map (·.size) = some (pa (mix 0 s l)).size := by rw [pa_size, hmx.1]; exact info68
  obtain ⟨v1, Hv1⟩ : ∃ v1, Hid (v1 = V.drew.setRow (w.heap.size + 1) (pa (mix 0 s l))) := ⟨_, ⟨rfl⟩⟩
  have g1 : v1.heap[w.heap.size + 1]? = some (.cells (pa (mix 0 s l)) 73 (0, 0)) := by rw [Hv1.out]; exact setRow_heap _ _ _ _ 73 (0, 0) f1
  have g3 : v1.heap[w.heap.size + 1 + 1 + 1]? = some (.cells Tryd.zeroCells73 73 (0, 0)) := by rw [Hv1.out]; exact (setRow_other _ _ _ _ (by omega)).trans f3
  have HB : Hid (Below w.heap.size w v1) := ⟨by rw [Hv1.out]; exact below_setRow' (four_below hV).drew (by omega) _⟩
  rw [← Hv1.out] at hcp
  clear Hv1 hk
  have c0 : V.cell? ⟨w.heap.size, 0, none⟩ = some (.slice ao ks.length cap) := by rw [cell_of_row _ _ _ _ _ _ f0]; rfl
  have c1 : V.cell? ⟨w.heap.size, 1, none⟩ = some (.int .i64 torn) := by rw [cell_of_row _ _ _ _ _ _ f0]; rfl
  have c2 : V.cell? ⟨w.heap.size, 2, none⟩ = some (.int .i64 at') := by rw [cell_of_row _ _ _ _ _ _ f0]; rfl
  clear f0 f1 f2 f3
  subst ht
  have hkz : ¬ (k : Int) < (ks.length : Int) := by omega
  clear hcell
  generalize hmq : mix 0 s l = mx at hcp hmx hpl g1
  clear hmq
  have HV : Hid ((((w.alloc (.cells #[.slice ao ks.length cap, .int .i64 (k : Int), .int .i64 at'] 37)).alloc (.cells (pa s) 73)).alloc (.cells (pa l) 73)).alloc (.cells Tryd.zeroCells73 73) = V) := ⟨hV.symm⟩
  clear hV
  go_enter Tryd.func30, Tryd.ntmps30
  go_wp2_with (refine wpl_allocZ rfl rfl HV.out ?_; clear HV)
  refine wp_region_any (by kernel_rfl) ?_
  change wpAny _ _ _ _ _ _ _ (World.drew _)
  refine wpAny_take (i := 0) (v := .int .i64 0) rfl (by kernel_rfl) (by kernel_rfl) (by kernel_rfl) (fun _ _ _ h => h) (Or.inl ⟨by kernel_rfl, fun _ => by kernel_rfl⟩) ?_
  refine wpAny_take (i := 1) (v := .slice (some ⟨w.heap.size + 1, 0, none⟩) 0 128) rfl (by kernel_rfl) (by kernel_rfl) (by kernel_rfl) (fun _ _ _ h => h) (Or.inl ⟨by kernel_rfl, fun wx => by go_simp⟩) ?_
  refine wpAny_take (i := 2) (v := .int .i64 0) rfl (by kernel_rfl) (by kernel_rfl) (by kernel_rfl) (fun _ _ _ h => h) (Or.inl ⟨by kernel_rfl, fun _ => by kernel_rfl⟩) ?_
  refine wpAny_take (i := 3) (v := .slice (some ⟨w.heap.size + 1 + 1, 0, none⟩) 0 128) rfl (by kernel_rfl) (by kernel_rfl) (by kernel_rfl) (fun _ _ _ h => h) (Or.inl ⟨by kernel_rfl, fun wx => by go_simp⟩) ?_
  refine wpAny_ready (rs := [4]) (by kernel_rfl) (by simp) (AllReady.cons rfl (fun Kc hK => ?_) AllReady.nil)
  go_simp
  refine hK _ _ ?_
  clear hK hcp
  refine wpAny_done (by kernel_rfl) ?_ _
  have tok : True := trivial
  go_wp2_with (first
    | (have _t := tok; refine wpList_load_row rfl 73 (.tmp 6) rfl (w.heap.size + 1) rfl 73 (pa mx) (0, 0) _ g1 Tryd.underlying73 rfl hpl ?_; clear tok)
    | (refine wpList_store_row rfl 73 (.tmp 8) (.tmp 45) rfl (w.heap.size + 1 + 1 + 1) (pa mx) rfl rfl 73 Tryd.zeroCells73 g3 hpl (by rw [zc68, pa_size, pa_size, hmx.1]; rfl) (pa_one _) ?_; refine wpList_nil ?_; rename_i hcont; refine hcont _ _ (wp_ret ?_); refine bodyPost_ret (v := .agg (pa mx)) (results_cell_row (p := 8) Tryd.results30 _ _ (w.heap.size + 1 + 1 + 1) 73 _ (0, 0) (.array 128 5) (by kernel_rfl) (setRow_heap v1 (w.heap.size + 1 + 1 + 1) _ (pa mx) 73 (0, 0) g3) Tryd.underlying73 rfl hpl) rfl ⟨rfl, below_setRow' HB.out (by omega) _⟩))

end Go.Proofs.YtgjjjkokmgdmjaaDoor.Dk

/- Package disk's outlived, whole. -/
namespace Go.Proofs.YtgjjjkokmgdmjaaDoor.Dk
open Go.RowKit Go.Maps Go.Sort Go.Shelf

theorem mix_all {s l : List Int} (hs : s.length = 128) (hl : l.length = 128) : mix 128 s l = l := by
  unfold mix
  rw [List.take_of_length_le (by omega), List.drop_eq_nil_of_le (by omega), List.append_nil]
theorem mix_none (s l : List Int) : mix 0 s l = s := by simp [mix]

theorem outlived_any (w : World) (kv : Value) (ks : List Bool) (torn at' : Int) (k : Nat) (s l : List Int) (hs : Pg s) (hl : Pg l) (hk : Ks w kv ks) :
    Calls Tryd.prog 30 #[.agg #[kv, .int .i64 torn, .int .i64 at'], .int .i64 (k : Int), .agg (pa s), .agg (pa l)] w fun e w' => e = .returned (.agg (pa (outl ⟨ks, torn, at'⟩ k s l))) ∧ Below w.heap.size w w' := by
  unfold outl
  simp only
  have rest : ¬ ((k : Int) = torn ∧ 0 ≤ at' ∧ at' ≤ 128) → Calls Tryd.prog 30 #[.agg #[kv, .int .i64 torn, .int .i64 at'], .int .i64 (k : Int), .agg (pa s), .agg (pa l)] w fun e w' => e = .returned (.agg (pa (if k < ks.length ∧ ks.getD k false = true then l else s))) ∧ Below w.heap.size w w' := by
    intro hn
    by_cases hkl : k < ks.length
    · by_cases hkt : ks.getD k false = true
      · rw [if_pos ⟨hkl, hkt⟩]
        by_cases ht : (k : Int) = torn
        · by_cases h0 : at' < 0
          · have := outl_keepb w kv ks torn at' k s l hs hl hk ht h0 hkl hkt
            rwa [mix_all hs.1 hl.1] at this
          · have := outl_keepc w kv ks torn at' k s l hs hl hk ht (by omega) hkl hkt
            rwa [mix_all hs.1 hl.1] at this
        · have := outl_keepa w kv ks torn at' k s l hs hl hk ht hkl hkt
          rwa [mix_all hs.1 hl.1] at this
      · rw [if_neg (fun q => hkt q.2)]
        have hkf : ks.getD k false = false := by simpa using hkt
        by_cases ht : (k : Int) = torn
        · by_cases h0 : at' < 0
          · have := outl_dropb w kv ks torn at' k s l hs hl hk ht h0 hkl hkf
            rwa [mix_none] at this
          · have := outl_dropc w kv ks torn at' k s l hs hl hk ht (by omega) hkl hkf
            rwa [mix_none] at this
        · have := outl_dropa w kv ks torn at' k s l hs hl hk ht hkl hkf
          rwa [mix_none] at this
    · rw [if_neg (fun q => hkl q.1)]
      by_cases ht : (k : Int) = torn
      · by_cases h0 : at' < 0
        · have := outl_noneb w kv ks torn at' k s l hs hl hk ht h0 hkl
          rwa [mix_none] at this
        · have := outl_nonec w kv ks torn at' k s l hs hl hk ht (by omega) hkl
          rwa [mix_none] at this
      · have := outl_nonea w kv ks torn at' k s l hs hl hk ht hkl
        rwa [mix_none] at this
  by_cases hc : (k : Int) = torn ∧ 0 ≤ at' ∧ at' ≤ 128
  · rw [if_pos hc]
    exact outl_torn w kv ks torn at' k s l hs hl hk hc.1 hc.2.1 hc.2.2
  · rw [if_neg hc]
    exact rest hc

/-- Behind j of the dirty sectors. -/
theorem crash_round (c : Cr) (S : List Sec) (hok : ∀ s ∈ S, OkS s) {j i : Nat} (hj : j < (dl S).length) (hi : i = (dl S).getD j 0) :
    i < S.length ∧ ∃ s l, sec S i = (s, some l) ∧ sec (crashJ c S j) i = (s, some l) ∧ Pg s ∧ Pg l ∧ crashJ c S (j + 1) = (crashJ c S j).set i (outl c j s l, none) := by
  obtain ⟨h1, h2, h3⟩ := dl_get hj
  rw [← hi] at h1 h2 h3
  obtain ⟨l, hl⟩ : ∃ l, (sec S i).2 = some l := by
    unfold dirt at h2
    exact Option.isSome_iff_exists.1 h2
  have hs : sec S i = ((sec S i).1, some l) := by rw [← hl]
  have ho := ok_sec hok i
  refine ⟨h1, (sec S i).1, l, hs, ?_, ho.1, ho.2 l hl, ?_⟩
  · rw [sec_crashJ c S j (by omega) i h1, if_neg (by omega), ← hs]
  · show (crashJ c S j).set ((dl S).getD j 0) _ = _
    rw [← hi]
    congr 1
    unfold crash1
    rw [hl]
theorem ok_crashJ (c : Cr) (S : List Sec) (hok : ∀ s ∈ S, OkS s) (j : Nat) : ∀ s ∈ crashJ c S j, OkS s := by
  induction j with
  | zero => exact hok
  | succ j ih => exact ok_set ih (ok_crash1 (ok_sec hok _))

def crD (d : Dk) (c : Cr) : Dk := { S := crash c d.S, trip := 0, down := false, life := wrap64 (d.life + 1) }
theorem OwnI.shape {w : World} {base : Nat} {v : Value} {xs : List Int} (h : OwnI w base v xs) : ∃ ao cap, v = .slice ao xs.length cap ∧ ∀ j, j < xs.length → ∃ g, ao = some ⟨g, 0, none⟩ ∧ base ≤ g ∧ w.cell? ⟨g, j, none⟩ = some (.int .i64 (xs.getD j 0)) := by
  rcases h.2 with ⟨rfl, h0⟩ | ⟨g, cap, cur, rfl, hb, hh, h1, h2, h3, h4⟩
  · exact ⟨none, 0, by rw [h0], fun j hj => by omega⟩
  · refine ⟨_, cap, rfl, fun j hj => ⟨g, rfl, hb, ?_⟩⟩
    have e2 : (cur.toList.take (xs.length * 1))[j]? = (xs.map (Value.int .i64))[j]? := by rw [h4]
    rw [List.getElem?_take, if_pos (by omega)] at e2
    simp [World.cell?, hh, List.getD_eq_getElem?_getD, List.getElem?_eq_getElem hj] at e2 ⊢
    exact e2
theorem dlI_get {S : List Sec} {j : Nat} (hj : j < (dl S).length) : (dlI S).getD j 0 = (((dl S).getD j 0 : Nat) : Int) := by
  simp [dlI, List.getD, List.getElem?_eq_getElem hj]
end Go.Proofs.YtgjjjkokmgdmjaaDoor.Dk

/- Package disk's Crash. -/
namespace Go.Proofs.YtgjjjkokmgdmjaaDoor.Dk
open Go.RowKit Go.Maps Go.Sort Go.Shelf

section
variable {md : Region.Mode} {ops : Array Oper} {Q : Exit → Act → World → Prop} {S : World → Prop} {fuel : Nat} {listed : Array Bool} {a : Act} {w : World} {i : Nat} {o : Oper} {rs : List Nat}
theorem readyH_load_page (ho : ops[i]? = some o) (hg : o.guard = none) (x : Operand) (hop : o.op = .load 73 x) (g off : Nat) (l : List Int) (hx : a.eval x = .pointer (some ⟨g, off, none⟩)) (hl : l.length = 128) (hc : ∀ j v, (pc l)[j]? = some v → w.cell? ⟨g, off + j, none⟩ = some v) (hS : S w)
    (h : S w → wpAnyH Tryd.prog md ops Q S fuel (listed.setIfInBounds i true) (a.put o.dst (.agg (pa l))) w) (hs : AllReadyH Tryd.prog md ops Q S fuel listed a w rs) : AllReadyH Tryd.prog md ops Q S fuel listed a w (i :: rs) :=
  readyH_plain ho hg (fun _ hK => wp_load_page x hop hx hl hc (hK _ _ hS h)) hs
end

set_option maxHeartbeats 1000000 in
set_option maxRecDepth 100000 in
theorem crash_gen {w : World} {p g bm base : Nat} {d : Dk} (h : At w p g bm base d) (kv : Value) (ks : List Bool) (torn at' : Int) (hk : Ks w kv ks) (hno : 0 < ks.length → ∀ q, kv.ownBlock = some q → q ≠ g ∧ q ≠ bm) :
    Calls Tryd.prog 10 #[.pointer (some ⟨p, 0, none⟩), .agg #[kv, .int .i64 torn, .int .i64 at']] w fun e w' => e = .returned (.tuple #[]) ∧ At w' p g bm base (crD d ⟨ks, torn, at'⟩) ∧ Chg [p, g, bm] w w' := by
  obtain ⟨c, Hc⟩ : ∃ c : Cr, Hid (c = ⟨ks, torn, at'⟩) := ⟨_, ⟨rfl⟩⟩
  rw [← Hc.out]
  have hb0 : Below w.heap.size w (w.alloc (.cells #[kv, .int .i64 torn, .int .i64 at'] 37)) := (Below.refl _ w).alloc (Nat.le_refl _) _
  have f0 : (w.alloc (.cells #[kv, .int .i64 torn, .int .i64 at'] 37)).heap[w.heap.size]? = some (.cells #[kv, .int .i64 torn, .int .i64 at'] 37 (0, 0)) := heap_alloc_new w _
  have t1 := dirty_any (h.below hb0)
  have HA0 : Hid (At (w.alloc (.cells #[kv, .int .i64 torn, .int .i64 at'] 37)) p g bm base d) := ⟨h.below hb0⟩
  obtain ⟨l1, l2, l3⟩ := h.lt
  have HOK : Hid (∀ s ∈ d.S, OkS s) := ⟨by obtain ⟨_, _, _, _, h⟩ := h; exact h.ok⟩
  have hlen : d.S.length ≤ 4096 := by obtain ⟨_, _, _, _, h⟩ := h; exact h.len
  have hdl := dl_le d.S
  obtain ⟨N, hN⟩ : ∃ N, d.S.length = N := ⟨_, rfl⟩
  have HK : Hid (Ks w kv ks ∧ (0 < ks.length → ∀ q, kv.ownBlock = some q → q ≠ g ∧ q ≠ bm)) := ⟨hk, hno⟩
  obtain ⟨M, hM⟩ : ∃ M, (dl d.S).length = M := ⟨_, rfl⟩
  rw [hN] at hlen hdl
  rw [hM] at hdl
  clear h hk hno
  go_enter Tryd.func10, Tryd.ntmps10
  go_wp2_with (go_at_call 29; refine t1.mono ?_; rintro e w1 ⟨v, rfl, hv, hb1⟩; clear t1; obtain ⟨ao, cp, rfl, hcell⟩ := hv.shape; clear hv)
  have hdL : (dlI d.S).length = M := by rw [← hM]; simp [dlI]
  rw [hdL] at hcell ⊢
  have HC : Hid (∀ j, j < M → ∃ q, ao = some ⟨q, 0, none⟩ ∧ w.heap.size < q ∧ w1.cell? ⟨q, j, none⟩ = some (.int .i64 (((dl d.S).getD j 0 : Nat) : Int))) := ⟨fun j hj => by
    obtain ⟨q, e1, e2, e3⟩ := hcell j hj
    rw [dlI_get (by omega)] at e3
    exact ⟨q, e1, by simp at e2; omega, e3⟩⟩
  have HA1 : Hid (At w1 p g bm base (⟨crashJ c d.S 0, d.trip, d.down, d.life⟩ : Dk)) := ⟨HA0.out.below hb1⟩
  have HB1 : Hid (Below w.heap.size w w1) := ⟨hb0.trans (hb1.mono (by simp))⟩
  have HF1 : Hid (w1.heap[w.heap.size]? = some (.cells #[kv, .int .i64 torn, .int .i64 at'] 37 (0, 0))) := ⟨(hb1.block _ (by simp)).trans f0⟩
  clear hcell HA0 hb0 f0 hb1
  go_loopg [4, 5, 11] M (fun gg _ _ s11 wr => ∃ kk : Nat, kk ≤ M ∧ M - kk ≤ gg ∧ s11 = .int .i64 (kk : Int) ∧ Hid (At wr p g bm base (⟨crashJ c d.S kk, d.trip, d.down, d.life⟩ : Dk)) ∧ Hid (Chg [g, bm] w1 wr))
  case atStart => exact ⟨0, Nat.zero_le _, by omega, rfl, HA1, ⟨Chg.refl _ _⟩⟩
  case round =>
    clear HA1
    obtain ⟨kk, hkk, hgg, rfl, HA, HCh⟩ := hrel
    by_cases hlt : kk < M
    · have hltz : (kk : Int) < (M : Int) := by omega
      obtain ⟨q, rfl, hql, hq1⟩ := HC.out kk hlt
      obtain ⟨i, Hi⟩ : ∃ i, Hid (i = (dl d.S).getD kk 0) := ⟨_, ⟨rfl⟩⟩
      rw [← Hi.out] at hq1
      obtain ⟨hi, s, l, hsec, hsecJ, hPs, hPl, hnext⟩ := crash_round c d.S HOK.out (j := kk) (by omega) Hi.out
      have HX : Hid (∃ cap tc n D, AtX wr p g bm base cap tc n D (⟨crashJ c d.S kk, d.trip, d.down, d.life⟩ : Dk)) := ⟨HA.out⟩
      obtain ⟨cap, tc, n, D, hX⟩ := HX.out
      obtain ⟨c0, c1, _⟩ := hX.cells
      obtain ⟨n1, n2, n3⟩ := hX.ne
      have hcl : (crashJ c d.S kk).length = N := by rw [crashJ_length, hN]
      have hiz : (i : Int) < (N : Int) := by omega
      have hiJ : i < (crashJ c d.S kk).length := by omega
      have hlook := (hX.look hiJ).2
      have hrc := hX.rows.cells (i := i) (by simpa using hiJ)
      simp only at hlook hrc c0
      rw [map_fst_getD hiJ, hsecJ] at hrc
      rw [hsecJ] at hlook
      simp only [Option.getD_some] at hlook
      rw [hcl] at c0
      have hwl : w.heap.size < w1.heap.size := (Array.getElem?_eq_some_iff.1 HF1.out).1
      have hq : wr.cell? ⟨q, kk, none⟩ = some (.int .i64 (i : Int)) := (HCh.out.cell (World.block_lt_of_cell? _ _ hq1) (by simp; omega)).trans hq1
      have hfr : wr.heap[w.heap.size]? = some (.cells #[kv, .int .i64 torn, .int .i64 at'] 37 (0, 0)) := (HCh.out.block _ hwl (by simp; omega)).trans HF1.out
      have b0 : wr.cell? ⟨w.heap.size, 0, none⟩ = some kv := by rw [cell_of_row _ _ _ _ _ _ hfr]; rfl
      have b1 : wr.cell? ⟨w.heap.size, 1, none⟩ = some (.int .i64 torn) := by rw [cell_of_row _ _ _ _ _ _ hfr]; rfl
      have b2 : wr.cell? ⟨w.heap.size, 2, none⟩ = some (.int .i64 at') := by rw [cell_of_row _ _ _ _ _ _ hfr]; rfl
      have hkr : Ks wr.drew kv ks := by
        obtain ⟨⟨ao, cp, rfl, hkc⟩, hno⟩ := HK.out
        refine ⟨ao, cp, rfl, fun j hj => ?_⟩
        obtain ⟨zb, zo, e1, e2⟩ := hkc j hj
        have zl := World.block_lt_of_cell? _ _ e2
        have z1 := (HB1.out.cell zl).trans e2
        have hz := hno (by omega) zb (by rw [e1]; rfl)
        exact ⟨zb, zo, e1, (HCh.out.cell (World.block_lt_of_cell? _ _ z1) (by simp; exact hz)).trans z1⟩
      have t3 := outlived_any wr.drew kv ks torn at' kk s l hPs hPl hkr
      rw [← Hc.out] at t3
      have hPo : Pg (outl c kk s l) := pg_outl hPs hPl
      obtain ⟨ol, Hol⟩ : ∃ ol, Hid (ol = outl c kk s l) := ⟨_, ⟨rfl⟩⟩
      rw [← Hol.out] at t3 hPo
      have hpz : (pa ol).size = 128 := by rw [pa_size, hPo.1]
      have hS0 : wr.drew.cell? ⟨p, 0, none⟩ = some (.slice (some ⟨g, 0, none⟩) N cap) ∧ wr.drew.cell? ⟨p, 1, none⟩ = some (.map (some bm)) ∧ (wr.drew.cell? ⟨w.heap.size, 0, none⟩ = some kv ∧ wr.drew.cell? ⟨w.heap.size, 1, none⟩ = some (.int .i64 torn) ∧ wr.drew.cell? ⟨w.heap.size, 2, none⟩ = some (.int .i64 at')) ∧ (Instr.lookup 51 (.map (some bm)) (.int .i64 (i : Int)) false).run Tryd.prog wr.drew = .ok (.agg (pa l)) wr.drew := ⟨c0, c1, ⟨b0, b1, b2⟩, (hX.kept (w' := wr.drew) rfl rfl rfl).look hiJ |>.2 |> fun q => by rw [hsecJ] at q; exact q⟩
      go_wp2
      refine wp_region_held_drew (S := fun w' => w'.cell? ⟨p, 0, none⟩ = some (.slice (some ⟨g, 0, none⟩) N cap) ∧ w'.cell? ⟨p, 1, none⟩ = some (.map (some bm)) ∧ (w'.cell? ⟨w.heap.size, 0, none⟩ = some kv ∧ w'.cell? ⟨w.heap.size, 1, none⟩ = some (.int .i64 torn) ∧ w'.cell? ⟨w.heap.size, 2, none⟩ = some (.int .i64 at')) ∧ (Instr.lookup 51 (.map (some bm)) (.int .i64 (i : Int)) false).run Tryd.prog w' = .ok (.agg (pa l)) w') (by kernel_rfl) hS0 (fun hS => ?_)
      refine wpAnyH_take (i := 0) (v := .pointer (some ⟨p, 0, none⟩)) rfl (by kernel_rfl) (by kernel_rfl) (by kernel_rfl) (fun _ _ _ h => h) (Or.inl ⟨by kernel_rfl, fun _ _ => by kernel_rfl⟩) hS ?_
      refine wpAnyH_take (i := 1) (v := .pointer (some ⟨p, 0, none⟩)) rfl (by kernel_rfl) (by kernel_rfl) (by kernel_rfl) (fun _ _ _ h => h) (Or.inl ⟨by kernel_rfl, fun wx _ => by go_simp⟩) hS ?_
      refine wpAnyH_take (i := 2) (v := .pointer (some ⟨p, 0, none⟩)) rfl (by kernel_rfl) (by kernel_rfl) (by kernel_rfl) (fun _ _ _ h => h) (Or.inl ⟨by kernel_rfl, fun wx _ => by go_simp⟩) hS ?_
      refine wpAnyH_take (i := 3) (v := .slice (some ⟨g, 0, none⟩) N cap) rfl (by kernel_rfl) (by kernel_rfl) (by kernel_rfl) (fun _ _ _ h => h) (Or.inl ⟨by kernel_rfl, fun wx hx => by obtain ⟨hx0, hx1, ⟨hx2, hx3, hx4⟩, hx5⟩ := hx; go_simp⟩) hS ?_
      refine wpAnyH_take (i := 4) (v := .int .i64 (i : Int)) rfl (by kernel_rfl) (by kernel_rfl) (by kernel_rfl) (fun _ _ _ h => h) (Or.inl ⟨by kernel_rfl, fun _ _ => by kernel_rfl⟩) hS ?_
      refine wpAnyH_take (i := 5) (v := .agg #[kv, .int .i64 torn, .int .i64 at']) rfl (by kernel_rfl) (by kernel_rfl) (by kernel_rfl) (fun _ _ _ h => h) (Or.inl ⟨by kernel_rfl, fun wx hx => by obtain ⟨hx0, hx1, ⟨hx2, hx3, hx4⟩, hx5⟩ := hx; go_simp⟩) hS ?_
      refine wpAnyH_take (i := 6) (v := .int .i64 (kk : Int)) rfl (by kernel_rfl) (by kernel_rfl) (by kernel_rfl) (fun _ _ _ h => h) (Or.inl ⟨by kernel_rfl, fun _ _ => by kernel_rfl⟩) hS ?_
      refine wpAnyH_take (i := 7) (v := .pointer (some ⟨p, 0, none⟩)) rfl (by kernel_rfl) (by kernel_rfl) (by kernel_rfl) (fun _ _ _ h => h) (Or.inl ⟨by kernel_rfl, fun _ _ => by kernel_rfl⟩) hS ?_
      refine wpAnyH_take (i := 8) (v := .pointer (some ⟨p, 0, none⟩)) rfl (by kernel_rfl) (by kernel_rfl) (by kernel_rfl) (fun _ _ _ h => h) (Or.inl ⟨by kernel_rfl, fun wx _ => by go_simp⟩) hS ?_
      refine wpAnyH_take (i := 9) (v := .pointer (some ⟨p, 0, none⟩)) rfl (by kernel_rfl) (by kernel_rfl) (by kernel_rfl) (fun _ _ _ h => h) (Or.inl ⟨by kernel_rfl, fun wx _ => by go_simp⟩) hS ?_
      refine wpAnyH_take (i := 10) (v := .slice (some ⟨g, 0, none⟩) N cap) rfl (by kernel_rfl) (by kernel_rfl) (by kernel_rfl) (fun _ _ _ h => h) (Or.inl ⟨by kernel_rfl, fun wx hx => by obtain ⟨hx0, hx1, ⟨hx2, hx3, hx4⟩, hx5⟩ := hx; go_simp⟩) hS ?_
      refine wpAnyH_take (i := 11) (v := .int .i64 (i : Int)) rfl (by kernel_rfl) (by kernel_rfl) (by kernel_rfl) (fun _ _ _ h => h) (Or.inl ⟨by kernel_rfl, fun _ _ => by kernel_rfl⟩) hS ?_
      refine wpAnyH_take (i := 12) (v := .pointer (some ⟨g, i * 128, none⟩)) rfl (by kernel_rfl) (by kernel_rfl) (by kernel_rfl) (fun _ _ _ h => h) (Or.inl ⟨by kernel_rfl, fun wx _ => by go_simp⟩) hS ?_
      refine wpAnyH_take (i := 14) (v := .pointer (some ⟨p, 0, none⟩)) rfl (by kernel_rfl) (by kernel_rfl) (by kernel_rfl) (fun _ _ _ h => h) (Or.inl ⟨by kernel_rfl, fun _ _ => by kernel_rfl⟩) hS ?_
      refine wpAnyH_take (i := 15) (v := .pointer (some ⟨p, 0, none⟩)) rfl (by kernel_rfl) (by kernel_rfl) (by kernel_rfl) (fun _ _ _ h => h) (Or.inl ⟨by kernel_rfl, fun wx _ => by go_simp⟩) hS ?_
      refine wpAnyH_take (i := 16) (v := .pointer (some ⟨p, 1, none⟩)) rfl (by kernel_rfl) (by kernel_rfl) (by kernel_rfl) (fun _ _ _ h => h) (Or.inl ⟨by kernel_rfl, fun wx _ => by go_simp⟩) hS ?_
      refine wpAnyH_take (i := 17) (v := .map (some bm)) rfl (by kernel_rfl) (by kernel_rfl) (by kernel_rfl) (fun _ _ _ h => h) (Or.inl ⟨by kernel_rfl, fun wx hx => by obtain ⟨hx0, hx1, ⟨hx2, hx3, hx4⟩, hx5⟩ := hx; go_simp⟩) hS ?_
      refine wpAnyH_take (i := 18) (v := .int .i64 (i : Int)) rfl (by kernel_rfl) (by kernel_rfl) (by kernel_rfl) (fun _ _ _ h => h) (Or.inl ⟨by kernel_rfl, fun _ _ => by kernel_rfl⟩) hS ?_
      refine wpAnyH_take (i := 19) (v := .agg (pa l)) rfl (by kernel_rfl) (by kernel_rfl) (by kernel_rfl) (fun _ _ _ h => h) (Or.inl ⟨by kernel_rfl, fun wx hx => by obtain ⟨hx0, hx1, ⟨hx2, hx3, hx4⟩, hx5⟩ := hx; go_simp⟩) hS ?_
      refine wpAnyH_ready (rs := [13]) (by kernel_rfl) (by simp) (readyH_load_page (o := { dst := some 29, op := Op.load 73 (Operand.tmp 28), type := 73, pos := "disk.go:112", after := #[{ on := 12, ground := Ground.data }], guard := none }) (by kernel_rfl) rfl (.tmp 28) rfl g (i * 128) s (by kernel_rfl) hPs.1 hrc hS0 (fun hS => ?_) AllReadyH.nil)
      refine wpAnyH_ready (rs := [20]) (by kernel_rfl) (by simp) (AllReadyH.cons rfl (fun Kc hK => ?_) AllReadyH.nil)
      go_simp
      refine t3.mono ?_
      rintro e w2 ⟨rfl, hb2⟩
      have hX2 := (hX.kept (w' := wr.drew) rfl rfl rfl).below hb2
      have hlk : ∀ a u, wr.drew.cell? a = some u → w2.cell? a = some u := fun a u hu => (hb2.cell (World.block_lt_of_cell? _ _ hu)).trans hu
      have hS2 : w2.cell? ⟨p, 0, none⟩ = some (.slice (some ⟨g, 0, none⟩) N cap) ∧ w2.cell? ⟨p, 1, none⟩ = some (.map (some bm)) ∧ (w2.cell? ⟨w.heap.size, 0, none⟩ = some kv ∧ w2.cell? ⟨w.heap.size, 1, none⟩ = some (.int .i64 torn) ∧ w2.cell? ⟨w.heap.size, 2, none⟩ = some (.int .i64 at')) ∧ (Instr.lookup 51 (.map (some bm)) (.int .i64 (i : Int)) false).run Tryd.prog w2 = .ok (.agg (pa l)) w2 := ⟨hlk _ _ c0, hlk _ _ c1, ⟨hlk _ _ b0, hlk _ _ b1, hlk _ _ b2⟩, by have q := (hX2.look hiJ).2; simp only at q; rw [hsecJ] at q; exact q⟩
      have hc2 : Chg [g, bm] w1 w2 := (HCh.out.drew).trans (Chg.ofBelow hb2)
      obtain ⟨cur, hcur⟩ := hX2.cur
      obtain ⟨hle, hX3⟩ := hX2.page hiJ hPo hcur
      have hst := run_storeCells_page (P := Tryd.prog) (w := w2) hcur hle
      obtain ⟨v3, Hv3⟩ : ∃ v3, Hid (v3 = w2.setRow g (cur.toList.take (i * 128) ++ pc ol ++ cur.toList.drop (i * 128 + (pc ol).length)).toArray) := ⟨_, ⟨rfl⟩⟩
      rw [← Hv3.out] at hst hX3
      have hc3 : Chg [g, bm] w1 v3 := by rw [Hv3.out]; exact hc2.setRow (.inl (by simp)) _
      have hgn : g ≠ w.heap.size := by omega
      have hlk3 : ∀ a u, a.block ≠ g → w2.cell? a = some u → v3.cell? a = some u := fun a u ha hu => by
        rw [Hv3.out]
        exact (World.cell?_of_block (setRow_other _ _ _ _ ha)).trans hu
      have hS3 : v3.cell? ⟨p, 0, none⟩ = some (.slice (some ⟨g, 0, none⟩) N cap) ∧ v3.cell? ⟨p, 1, none⟩ = some (.map (some bm)) ∧ (v3.cell? ⟨w.heap.size, 0, none⟩ = some kv ∧ v3.cell? ⟨w.heap.size, 1, none⟩ = some (.int .i64 torn) ∧ v3.cell? ⟨w.heap.size, 2, none⟩ = some (.int .i64 at')) ∧ (Instr.lookup 51 (.map (some bm)) (.int .i64 (i : Int)) false).run Tryd.prog v3 = .ok (.agg (pa l)) v3 := ⟨hlk3 _ _ n1 hS2.1, hlk3 _ _ n1 hS2.2.1, ⟨hlk3 _ _ (Ne.symm hgn) hS2.2.2.1.1, hlk3 _ _ (Ne.symm hgn) hS2.2.2.1.2.1, hlk3 _ _ (Ne.symm hgn) hS2.2.2.1.2.2⟩, by
        have q := (hX3.look (i := i) (by simpa using hiJ)).2
        simp only at q
        rw [sec_set hiJ, if_pos rfl, hsecJ] at q
        exact q⟩
      obtain ⟨v4, hdel, hc4, n', D', hX4⟩ := hX3.delete (i := i) (by simpa using hiJ) 0
      have HR : Hid (At v4 p g bm base (⟨crashJ c d.S (kk + 1), d.trip, d.down, d.life⟩ : Dk) ∧ Chg [g, bm] w1 v4) := ⟨by
        refine ⟨?_, hc3.trans (hc4.mono (fun x hx => .inl (by simp at hx; simp [hx])))⟩
        have q := hX4.at
        simp only at q
        rw [sec_set hiJ, if_pos rfl, List.set_set] at q
        rw [hnext, ← Hol.out]
        exact q⟩
      have d1 := hS3.2.1
      refine hK.out _ _ hS2 (fun hS => ?_)
      clear hK t3 hX2 hX3 hX4 hX hc2 hc3 hc4 hb2 hcur hle hnext hsecJ hsec hlook hrc hkr hfr HA HCh HX hlk hlk3
      refine wpAnyH_take (i := 21) (v := .pointer (some ⟨g, i * 128, none⟩)) rfl (by kernel_rfl) (by kernel_rfl) (by kernel_rfl) (fun _ _ _ h => h) (Or.inl ⟨by kernel_rfl, fun wx _ => by go_simp⟩) hS ?_
      refine wpAnyH_ready (rs := [22]) (by kernel_rfl) (by simp) (AllReadyH.cons rfl (fun Kc hK => ?_) AllReadyH.nil)
      go_simp
      refine hK.out _ _ hS3 (fun hS => ?_)
      clear hK hS hst hS0 hS2 hS3
      refine wpAnyH_done (by kernel_rfl) ?_ _
      go_wp2
      go_roundg (M - (kk + 1))
      case measure => omega
      case rel => exact ⟨kk + 1, by omega, by omega, by go_num, ⟨HR.out.1⟩, ⟨HR.out.2⟩⟩
    · obtain rfl : kk = M := by omega
      obtain ⟨cap, tc, n, D, hX⟩ := HA.out
      obtain ⟨_, _, c2, c3, c4⟩ := hX.cells
      have f2 := hX.frozen 2
      have f3 := hX.frozen 3
      have f4 := hX.frozen 4
      simp only at c3 c4
      have HR : Hid (At (((wr.setCell ⟨p, 2, none⟩ (.int .i64 0)).setCell ⟨p, 3, none⟩ (.bool false)).setCell ⟨p, 4, none⟩ (.int .i64 (wrap64 (d.life + 1)))) p g bm base (crD d c) ∧ Chg [p, g, bm] w (((wr.setCell ⟨p, 2, none⟩ (.int .i64 0)).setCell ⟨p, 3, none⟩ (.bool false)).setCell ⟨p, 4, none⟩ (.int .i64 (wrap64 (d.life + 1))))) := ⟨by
        refine ⟨?_, ((((Chg.ofBelow HB1.out).trans (HCh.out.mono (fun x hx => .inl (by simp at hx; rcases hx with h | h <;> simp [h])))).setCell (.inl (by simp)) _).setCell (.inl (by simp)) _).setCell (.inl (by simp)) _⟩
        have q := (((hX.setTrip 0 0 (fun _ => rfl) ⟨by omega, by omega⟩).setDown false 0 (fun _ => rfl)).setLife (wrap64 (d.life + 1))).at
        simp only at q
        rw [← hM, crashJ_all] at q
        exact q⟩
      clear hX HA HCh
      go_wp2
      go_returns
      exact ⟨rfl, HR.out⟩
theorem crash_any {w : World} {p g bm base : Nat} {d : Dk} (h : At w p g bm base d) (kv : Value) (ks : List Bool) (torn at' : Int) (hk : Ks w kv ks) (hno : ∀ q, kv.ownBlock = some q → q ≠ g ∧ q ≠ bm) :
    Calls Tryd.prog 10 #[.pointer (some ⟨p, 0, none⟩), .agg #[kv, .int .i64 torn, .int .i64 at']] w fun e w' => e = .returned (.tuple #[]) ∧ At w' p g bm base (crD d ⟨ks, torn, at'⟩) ∧ Chg [p, g, bm] w w' := crash_gen h kv ks torn at' hk (fun _ => hno)
end Go.Proofs.YtgjjjkokmgdmjaaDoor.Dk

/- Package disk's New; slices.Clone of pages; Fork. -/
namespace Go.Proofs.YtgjjjkokmgdmjaaDoor.Dk
open Go.RowKit Go.Maps Go.Sort Go.Shelf

theorem info68b : (Tryd.prog.info? 73).map (fun i => (i.zero, i.size, i.bytes)) = some (some (.agg (pa zp)), 128, 128) := by
  rw [zp_arr]; kernel_rfl

theorem newdisk_bad (n : Int) (w : World) (h : n < 1 ∨ 4096 < n) : Calls Tryd.prog 6 #[.int .i64 n] w fun e w' => e = .returned (.tuple #[.pointer none, .int .i64 2]) ∧ w = w' := by
  go_enter Tryd.func6, Tryd.ntmps6
  by_cases h1 : n < 1
  · go_wp2
    go_ret2
    exact ⟨rfl, rfl⟩
  · have h2 : 4096 < n := by omega
    go_wp2
    go_ret2
    exact ⟨rfl, rfl⟩

def newD (n : Nat) : Dk := { S := List.replicate n (zp, none), trip := 0, down := false, life := 0 }
theorem fl_zeros (n : Nat) : fl (List.replicate n zp) = List.replicate (n * 128) (.int .u8 0) := by
  induction n with
  | zero => rfl
  | succ n ih =>
    rw [List.replicate_succ, fl_cons, ih, show (n + 1) * 128 = 128 + n * 128 by omega, ← List.replicate_append_replicate]
    congr 1
theorem dirt_new (n i : Nat) : dirt (List.replicate n (zp, none)) i = false := by
  unfold dirt sec
  rw [List.getD, List.getElem?_replicate]
  split <;> rfl
theorem dl_new (n : Nat) : dl (List.replicate n (zp, none)) = [] := dl_nil_of fun i _ => dirt_new n i

theorem made_zeros (m : Nat) : (madeCells (pa zp) m).toList = List.replicate m (.int .u8 0) := by
  rw [zp_arr]
  unfold madeCells
  apply List.ext_getElem?
  intro i
  by_cases hi : i < m
  · have hz : i % 128 < 128 := Nat.mod_lt _ (by omega)
    simp [hi, hz]
  · simp [hi]
theorem rows_of_owns {w : World} {base g n cap : Nat} {ps : List (List Int)} (h : w.ownsRow base 73 128 (.slice (some ⟨g, 0, none⟩) n cap) n (fl ps)) (hp : P128 ps) (hl : ps.length = n) : Rows w g cap 73 ps ∧ base ≤ g := by
  rcases h.2 with ⟨h', _⟩ | ⟨g', cap', cur, h', hb, hh, h1, h2, h3, h4⟩
  · simp at h'
  · simp only [Value.slice.injEq, Option.some.injEq, Addr.mk.injEq] at h'
    obtain ⟨⟨rfl, _, _⟩, _, rfl⟩ := h'
    refine ⟨⟨hp, cur, cur.toList.drop (n * 128), hh, ?_, h3, by omega, h2⟩, hb⟩
    rw [← h4, List.take_append_drop]

def NewDisk (w : World) (n : Nat) (e : Ending) (w' : World) : Prop := ∃ p g bm, e = .returned (.tuple #[.pointer (some ⟨p, 0, none⟩), .int .i64 0]) ∧ At w' p g bm w.heap.size (newD n) ∧ Below w.heap.size w w'
set_option maxHeartbeats 1000000 in
set_option maxRecDepth 100000 in
theorem newdisk_any (n : Nat) (w : World) (h0 : 1 ≤ n) (h1 : n ≤ 4096) : Calls Tryd.prog 6 #[.int .i64 (n : Int)] w (NewDisk w n) := by
  have a1 : ¬ (n : Int) < 1 := by omega
  have a2 : ¬ (4096 : Int) < (n : Int) := by omega
  obtain ⟨i0, hi, hz0, hz1, hz2⟩ := info_parts' info68b
  have hmk : ∀ W : World, (Instr.makeMap 51 none).run Tryd.prog W = .ok (.map (some W.heap.size)) (W.alloc (.map #[] 0)) := fun W => run_makeMap 51 W
  go_enter Tryd.func6, Tryd.ntmps6
  go_wp2_with (at_make; refine wpList_make_full w rfl (.tmp 10) (.tmp 10) 50 rfl w.heap.size 73 i0 (.agg (pa zp)) 128 Tryd.underlying50 hi hz0 hz1 .i64 .i64 _ _ n rfl rfl rfl rfl (by rw [hz2]; omega) (by unfold maxLen; omega) (Nat.le_refl _) ?_; intro w1 hown hgr)
  go_ret2
  have e1 : (madeCells (Value.agg (pa zp)).cells (n * 128)).toList = fl (List.replicate n zp) := by
    rw [fl_zeros]; exact made_zeros _
  rw [e1] at hown
  obtain ⟨hR, _⟩ := rows_of_owns hown (fun q hq => by rw [(List.mem_replicate.1 hq).2]; rfl) (by simp)
  have hs1 := hgr.size
  have hgl := hR.lt
  have hb1 : Below w.heap.size w w1 := ⟨hgr.os, hgr.tape, hgr.output, hgr.size, fun k hk => hgr.block k hk (by simp)⟩
  refine ⟨w1.heap.size + 1, w.heap.size, w1.heap.size, rfl, ⟨n, 0, 0, .map [], ?_, ?_, ?_, Dirt.empty (fun i _ => dirt_new n i), ?_, ?_, fun _ => rfl, by omega, by omega, Nat.le_refl _, hs1⟩, ?_⟩
  · have := heap_alloc_new (w1.alloc (.map #[] 0)) (.cells #[.slice (some ⟨w.heap.size, 0, none⟩) n n, .map (some w1.heap.size), .int .i64 0, .bool false, .int .i64 0] 53)
    rw [size_alloc] at this
    simpa [newD] using this
  · have e2 : (newD n).S.map (·.1) = List.replicate n zp := by simp [newD]
    rw [e2]
    exact hR.kept (by rw [heap_alloc_old _ _ _ (by simp; omega), heap_alloc_old _ _ _ hgl])
  · exact (World.ownsMap_made w1 Tryd.prog 3 self).alloc _
  · intro s hs
    simp only [newD] at hs
    rw [(List.mem_replicate.1 hs).2]; exact ok_zp
  · simpa [newD] using h1
  · exact (hb1.alloc hs1 _).alloc (by simp; omega) _
end Go.Proofs.YtgjjjkokmgdmjaaDoor.Dk
