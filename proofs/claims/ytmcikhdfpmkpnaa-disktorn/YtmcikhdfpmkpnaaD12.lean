/- Package disk's outlived. -/
import Derived.Test.YtmcikhdfpmkpnaaD11
namespace Go.Proofs.Ytmcikhdfpmkpnaa
open Go.RowKit Go.Maps Go.Sort Go.Shelf

/-- A slice of truths. -/
def Ks (w : World) (v : Value) (ks : List Bool) : Prop := ∃ ao cap, v = .slice ao ks.length cap ∧ ∀ j, j < ks.length → ∃ b o, ao = some ⟨b, o, none⟩ ∧ w.cell? ⟨b, o + j, none⟩ = some (.bool (ks.getD j false))
theorem Ks.below {w w' : World} {v : Value} {ks : List Bool} (h : Ks w v ks) (hb : Below w.heap.size w w') : Ks w' v ks := by
  obtain ⟨ao, cap, rfl, hc⟩ := h
  refine ⟨ao, cap, rfl, fun j hj => ?_⟩
  obtain ⟨b, o, h1, h2⟩ := hc j hj
  exact ⟨b, o, h1, (hb.cell (World.block_lt_of_cell? _ _ h2)).trans h2⟩

def mix (k : Nat) (s l : List Int) : List Int := l.take k ++ s.drop k
theorem mix_pa {k : Nat} {s l : List Int} (hl : l.length = 128) (hk : k ≤ 128) : ((pa s).toList.take 0 ++ pc (l.take k) ++ (pa s).toList.drop (0 + (pc (l.take k)).length)).toArray = pa (mix k s l) := by
  unfold pa mix
  congr 1
  rw [List.take_zero, List.nil_append, Nat.zero_add, pc_length, List.length_take, Nat.min_eq_left (by omega)]
  unfold pc
  rw [List.map_append, List.map_drop]
theorem pg_mix {k : Nat} {s l : List Int} (hs : Pg s) (hl : Pg l) : Pg (mix k s l) := by
  refine ⟨by have := hs.1; have := hl.1; simp [mix]; omega, fun x hx => ?_⟩
  rcases List.mem_append.1 hx with h | h
  · exact hl.2 x (List.mem_of_mem_take h)
  · exact hs.2 x (List.mem_of_mem_drop h)

/-- The four variables of outlived. -/
def Four (V w : World) (kv : Value) (torn at' : Int) (s l : List Int) : Prop := V = (((w.alloc (.cells #[kv, .int .i64 torn, .int .i64 at'] 40)).alloc (.cells (pa s) 68)).alloc (.cells (pa l) 68)).alloc (.cells Try.zeroCells68 68)
theorem four_below {V w : World} {kv : Value} {torn at' : Int} {s l : List Int} (h : Four V w kv torn at' s l) : Below w.heap.size w V := by
  rw [show V = _ from h]
  exact ((((Below.refl _ w).alloc (Nat.le_refl _) _).alloc (by simp) _).alloc (by simp; omega) _).alloc (by simp; omega) _
theorem four_heap {V w : World} {kv : Value} {torn at' : Int} {s l : List Int} (h : Four V w kv torn at' s l) : V.heap[w.heap.size]? = some (.cells #[kv, .int .i64 torn, .int .i64 at'] 40 (0, 0)) ∧ V.heap[w.heap.size + 1]? = some (.cells (pa s) 68 (0, 0)) ∧ V.heap[w.heap.size + 1 + 1]? = some (.cells (pa l) 68 (0, 0)) ∧ V.heap[w.heap.size + 1 + 1 + 1]? = some (.cells Try.zeroCells68 68 (0, 0)) := by
  rw [show V = _ from h]
  refine ⟨?_, ?_, ?_, ?_⟩
  · rw [heap_alloc_old _ _ _ (by simp; omega), heap_alloc_old _ _ _ (by simp; omega), heap_alloc_old _ _ _ (by simp)]; exact heap_alloc_new w _
  · rw [heap_alloc_old _ _ _ (by simp), heap_alloc_old _ _ _ (by simp)]
    have := heap_alloc_new (w.alloc (.cells #[kv, .int .i64 torn, .int .i64 at'] 40)) (.cells (pa s) 68)
    rwa [size_alloc] at this
  · rw [heap_alloc_old _ _ _ (by simp)]
    have := heap_alloc_new ((w.alloc (.cells #[kv, .int .i64 torn, .int .i64 at'] 40)).alloc (.cells (pa s) 68)) (.cells (pa l) 68)
    rwa [size_alloc, size_alloc] at this
  · have := heap_alloc_new (((w.alloc (.cells #[kv, .int .i64 torn, .int .i64 at'] 40)).alloc (.cells (pa s) 68)).alloc (.cells (pa l) 68)) (.cells Try.zeroCells68 68)
    rwa [size_alloc, size_alloc, size_alloc] at this

theorem wpl_allocZ {ops : Array Oper} {rest : List Oper} {o : Oper} {a : Act} {w V : World} {Q : Exit → Act → World → Prop} (hg : o.guard = none) (ho : o.op = .alloc 68) (hV : w.alloc (.cells Try.zeroCells68 68) = V) (h : wpList Try.prog ops Q rest (a.put o.dst (.pointer (some ⟨w.heap.size, 0, none⟩))) V) : wpList Try.prog ops Q (o :: rest) a w := by
  subst hV
  refine wpl_alloc68 hg ho ?_
  rw [← zc68]; exact h

/-- The copy of the first k bytes. -/
theorem four_copy {V w : World} {kv : Value} {torn at' : Int} {s l : List Int} (h : Four V w kv torn at' s l) (hs : Pg s) (hl : Pg l) (k : Nat) (hk : k ≤ 128) :
    (Builtin.copy_ #[37, 37] 3 #[.slice (some ⟨w.heap.size + 1, 0, none⟩) k 128, .slice (some ⟨w.heap.size + 1 + 1, 0, none⟩) k 128]).run Try.prog V.drew = .ok (goInt k) (V.drew.setRow (w.heap.size + 1) (pa (mix k s l))) := by
  obtain ⟨_, h1, h2, _⟩ := four_heap h
  have e : (pc (l.take k)).length = k := by rw [pc_length, List.length_take, hl.1]; omega
  have := run_copy_row (P := Try.prog) V.drew 37 37 3 5 (w.heap.size + 1) 0 k 128 ⟨w.heap.size + 1 + 1, 0, none⟩ k 128 (pa s) 68 (pc (l.take k)) Try.underlying37 info5 h1 (by rw [e]; exact (Nat.min_self k).symm) (fun j u hj => by
    rw [add_plain]
    refine var_cells (w := V.drew) h2 j u ?_
    rw [pc, List.map_take] at hj
    have hjk : j < k := by
      rcases Nat.lt_or_ge j k with q | q
      · exact q
      · rw [List.getElem?_eq_none (by simp; omega)] at hj; cases hj
    rw [List.getElem?_take, if_pos hjk] at hj
    exact hj) (by rw [e, pa_size, hs.1]; omega) (pc_one _)
  rw [mix_pa hl.1 hk, e] at this
  exact this

set_option maxHeartbeats 2000000 in
set_option maxRecDepth 100000 in
theorem outl_torn (w : World) (kv : Value) (ks : List Bool) (torn at' : Int) (k : Nat) (s l : List Int) (hs : Pg s) (hl : Pg l) (hk : Ks w kv ks) (ht : (k : Int) = torn) (h0 : 0 ≤ at') (h1 : at' ≤ 128) :
    Calls Try.prog 32 #[.agg #[kv, .int .i64 torn, .int .i64 at'], .int .i64 (k : Int), .agg (pa s), .agg (pa l)] w fun e w' => e = .returned (.agg (pa (mix at'.toNat s l))) ∧ Below w.heap.size w w' := by
  obtain ⟨V, hV⟩ : ∃ V, Four V w kv torn at' s l := ⟨_, rfl⟩
  have hk' := hk.below (four_below hV)
  obtain ⟨ao, cap, rfl, hcell⟩ := hk'
  obtain ⟨f0, f1, f2, f3⟩ := four_heap hV
  have hcp := four_copy hV hs hl at'.toNat (by omega)
  have hmx : Pg (mix at'.toNat s l) := pg_mix hs hl
  have hpl : (Try.prog.info? 68).map (·.size) = some (pa (mix at'.toNat s l)).size := by rw [pa_size, hmx.1]; exact info68
  obtain ⟨v1, Hv1⟩ : ∃ v1, Hid (v1 = V.drew.setRow (w.heap.size + 1) (pa (mix at'.toNat s l))) := ⟨_, ⟨rfl⟩⟩
  have g1 : v1.heap[w.heap.size + 1]? = some (.cells (pa (mix at'.toNat s l)) 68 (0, 0)) := by rw [Hv1.out]; exact setRow_heap _ _ _ _ 68 (0, 0) f1
  have g3 : v1.heap[w.heap.size + 1 + 1 + 1]? = some (.cells Try.zeroCells68 68 (0, 0)) := by rw [Hv1.out]; exact (setRow_other _ _ _ _ (by omega)).trans f3
  have HB : Hid (Below w.heap.size w v1) := ⟨by rw [Hv1.out]; exact below_setRow' (four_below hV).drew (by omega) _⟩
  rw [← Hv1.out] at hcp
  clear Hv1 hk
  have c0 : V.cell? ⟨w.heap.size, 0, none⟩ = some (.slice ao ks.length cap) := by rw [cell_of_row _ _ _ _ _ _ f0]; rfl
  have c1 : V.cell? ⟨w.heap.size, 1, none⟩ = some (.int .i64 torn) := by rw [cell_of_row _ _ _ _ _ _ f0]; rfl
  have c2 : V.cell? ⟨w.heap.size, 2, none⟩ = some (.int .i64 at') := by rw [cell_of_row _ _ _ _ _ _ f0]; rfl
  clear f0 f1 f2 f3
  obtain ⟨A, rfl⟩ : ∃ A : Nat, at' = A := ⟨at'.toNat, by omega⟩
  simp only [Int.toNat_natCast] at *
  generalize hmq : mix A s l = mx at hcp hmx hpl g1
  clear hmq
  have HV : Hid ((((w.alloc (.cells #[.slice ao ks.length cap, .int .i64 torn, .int .i64 (A : Int)] 40)).alloc (.cells (pa s) 68)).alloc (.cells (pa l) 68)).alloc (.cells Try.zeroCells68 68) = V) := ⟨hV.symm⟩
  clear hV
  go_enter Try.func32, Try.ntmps32
  go_wp2_with (refine wpl_allocZ rfl rfl HV.out ?_; clear HV)
  refine wp_region_any (by kernel_rfl) ?_
  change wpAny _ _ _ _ _ _ _ (World.drew _)
  refine wpAny_take (i := 0) (v := .int .i64 (A : Int)) rfl (by kernel_rfl) (by kernel_rfl) (by kernel_rfl) (fun _ _ _ h => h) (Or.inl ⟨by kernel_rfl, fun _ => by kernel_rfl⟩) ?_
  refine wpAny_take (i := 1) (v := .slice (some ⟨w.heap.size + 1, 0, none⟩) A 128) rfl (by kernel_rfl) (by kernel_rfl) (by kernel_rfl) (fun _ _ _ h => h) (Or.inl ⟨by kernel_rfl, fun wx => by go_simp⟩) ?_
  refine wpAny_take (i := 2) (v := .int .i64 (A : Int)) rfl (by kernel_rfl) (by kernel_rfl) (by kernel_rfl) (fun _ _ _ h => h) (Or.inl ⟨by kernel_rfl, fun _ => by kernel_rfl⟩) ?_
  refine wpAny_take (i := 3) (v := .slice (some ⟨w.heap.size + 1 + 1, 0, none⟩) A 128) rfl (by kernel_rfl) (by kernel_rfl) (by kernel_rfl) (fun _ _ _ h => h) (Or.inl ⟨by kernel_rfl, fun wx => by go_simp⟩) ?_
  refine wpAny_ready (rs := [4]) (by kernel_rfl) (by simp) (AllReady.cons rfl (fun Kc hK => ?_) AllReady.nil)
  go_simp
  refine hK _ _ ?_
  clear hK hcp
  refine wpAny_done (by kernel_rfl) ?_ _
  have tok : True := trivial
  go_wp2_with (first
    | (have _t := tok; refine wpList_load_row rfl 68 (.tmp 6) rfl (w.heap.size + 1) rfl 68 (pa mx) (0, 0) _ g1 Try.underlying68 rfl hpl ?_; clear tok)
    | (refine wpList_store_row rfl 68 (.tmp 8) (.tmp 45) rfl (w.heap.size + 1 + 1 + 1) (pa mx) rfl rfl 68 Try.zeroCells68 g3 hpl (by rw [zc68, pa_size, pa_size, hmx.1]; rfl) (pa_one _) ?_; refine wpList_nil ?_; rename_i hcont; refine hcont _ _ (wp_ret ?_); refine bodyPost_ret (v := .agg (pa mx)) (results_cell_row (p := 8) Try.results32 _ _ (w.heap.size + 1 + 1 + 1) 68 _ (0, 0) (.array 128 5) (by kernel_rfl) (setRow_heap v1 (w.heap.size + 1 + 1 + 1) _ (pa mx) 68 (0, 0) g3) Try.underlying68 rfl hpl) rfl ⟨rfl, below_setRow' HB.out (by omega) _⟩))

set_option maxHeartbeats 2000000 in
set_option maxRecDepth 100000 in
theorem outl_keepa (w : World) (kv : Value) (ks : List Bool) (torn at' : Int) (k : Nat) (s l : List Int) (hs : Pg s) (hl : Pg l) (hk : Ks w kv ks) (ht : ¬ (k : Int) = torn) (hkl : k < ks.length) (hkt : ks.getD k false = true) :
    Calls Try.prog 32 #[.agg #[kv, .int .i64 torn, .int .i64 at'], .int .i64 (k : Int), .agg (pa s), .agg (pa l)] w fun e w' => e = .returned (.agg (pa (mix 128 s l))) ∧ Below w.heap.size w w' := by
  obtain ⟨V, hV⟩ : ∃ V, Four V w kv torn at' s l := ⟨_, rfl⟩
  have hk' := hk.below (four_below hV)
  obtain ⟨ao, cap, rfl, hcell⟩ := hk'
  obtain ⟨f0, f1, f2, f3⟩ := four_heap hV
  have hcp := four_copy hV hs hl 128 (by omega)
  have hmx : Pg (mix 128 s l) := pg_mix hs hl
  have hpl : (Try.prog.info? 68).map (·.size) = some (pa (mix 128 s l)).size := by rw [pa_size, hmx.1]; exact info68
  obtain ⟨v1, Hv1⟩ : ∃ v1, Hid (v1 = V.drew.setRow (w.heap.size + 1) (pa (mix 128 s l))) := ⟨_, ⟨rfl⟩⟩
  have g1 : v1.heap[w.heap.size + 1]? = some (.cells (pa (mix 128 s l)) 68 (0, 0)) := by rw [Hv1.out]; exact setRow_heap _ _ _ _ 68 (0, 0) f1
  have g3 : v1.heap[w.heap.size + 1 + 1 + 1]? = some (.cells Try.zeroCells68 68 (0, 0)) := by rw [Hv1.out]; exact (setRow_other _ _ _ _ (by omega)).trans f3
  have HB : Hid (Below w.heap.size w v1) := ⟨by rw [Hv1.out]; exact below_setRow' (four_below hV).drew (by omega) _⟩
  rw [← Hv1.out] at hcp
  clear Hv1 hk
  have c0 : V.cell? ⟨w.heap.size, 0, none⟩ = some (.slice ao ks.length cap) := by rw [cell_of_row _ _ _ _ _ _ f0]; rfl
  have c1 : V.cell? ⟨w.heap.size, 1, none⟩ = some (.int .i64 torn) := by rw [cell_of_row _ _ _ _ _ _ f0]; rfl
  have c2 : V.cell? ⟨w.heap.size, 2, none⟩ = some (.int .i64 at') := by rw [cell_of_row _ _ _ _ _ _ f0]; rfl
  clear f0 f1 f2 f3
  obtain ⟨zb, zo, rfl, hz⟩ := hcell k hkl
  rw [hkt] at hz
  have hkz : (k : Int) < (ks.length : Int) := by omega
  have hn128 : ((128 : Nat) : Int) = 128 := rfl
  clear hcell
  generalize hmq : mix 128 s l = mx at hcp hmx hpl g1
  clear hmq
  have HV : Hid ((((w.alloc (.cells #[.slice (some ⟨zb, zo, none⟩) ks.length cap, .int .i64 torn, .int .i64 at'] 40)).alloc (.cells (pa s) 68)).alloc (.cells (pa l) 68)).alloc (.cells Try.zeroCells68 68) = V) := ⟨hV.symm⟩
  clear hV
  go_enter Try.func32, Try.ntmps32
  go_wp2_with (refine wpl_allocZ rfl rfl HV.out ?_; clear HV)
  refine wp_region_any (by kernel_rfl) ?_
  change wpAny _ _ _ _ _ _ _ (World.drew _)
  refine wpAny_take (i := 0) (v := .int .i64 128) rfl (by kernel_rfl) (by kernel_rfl) (by kernel_rfl) (fun _ _ _ h => h) (Or.inl ⟨by kernel_rfl, fun _ => by kernel_rfl⟩) ?_
  refine wpAny_take (i := 1) (v := .slice (some ⟨w.heap.size + 1, 0, none⟩) 128 128) rfl (by kernel_rfl) (by kernel_rfl) (by kernel_rfl) (fun _ _ _ h => h) (Or.inl ⟨by kernel_rfl, fun wx => by go_simp⟩) ?_
  refine wpAny_take (i := 2) (v := .int .i64 128) rfl (by kernel_rfl) (by kernel_rfl) (by kernel_rfl) (fun _ _ _ h => h) (Or.inl ⟨by kernel_rfl, fun _ => by kernel_rfl⟩) ?_
  refine wpAny_take (i := 3) (v := .slice (some ⟨w.heap.size + 1 + 1, 0, none⟩) 128 128) rfl (by kernel_rfl) (by kernel_rfl) (by kernel_rfl) (fun _ _ _ h => h) (Or.inl ⟨by kernel_rfl, fun wx => by go_simp⟩) ?_
  refine wpAny_ready (rs := [4]) (by kernel_rfl) (by simp) (AllReady.cons rfl (fun Kc hK => ?_) AllReady.nil)
  go_simp
  refine hK _ _ ?_
  clear hK hcp
  refine wpAny_done (by kernel_rfl) ?_ _
  have tok : True := trivial
  go_wp2_with (first
    | (have _t := tok; refine wpList_load_row rfl 68 (.tmp 6) rfl (w.heap.size + 1) rfl 68 (pa mx) (0, 0) _ g1 Try.underlying68 rfl hpl ?_; clear tok)
    | (refine wpList_store_row rfl 68 (.tmp 8) (.tmp 45) rfl (w.heap.size + 1 + 1 + 1) (pa mx) rfl rfl 68 Try.zeroCells68 g3 hpl (by rw [zc68, pa_size, pa_size, hmx.1]; rfl) (pa_one _) ?_; refine wpList_nil ?_; rename_i hcont; refine hcont _ _ (wp_ret ?_); refine bodyPost_ret (v := .agg (pa mx)) (results_cell_row (p := 8) Try.results32 _ _ (w.heap.size + 1 + 1 + 1) 68 _ (0, 0) (.array 128 5) (by kernel_rfl) (setRow_heap v1 (w.heap.size + 1 + 1 + 1) _ (pa mx) 68 (0, 0) g3) Try.underlying68 rfl hpl) rfl ⟨rfl, below_setRow' HB.out (by omega) _⟩))

set_option maxHeartbeats 2000000 in
set_option maxRecDepth 100000 in
theorem outl_dropa (w : World) (kv : Value) (ks : List Bool) (torn at' : Int) (k : Nat) (s l : List Int) (hs : Pg s) (hl : Pg l) (hk : Ks w kv ks) (ht : ¬ (k : Int) = torn) (hkl : k < ks.length) (hkt : ks.getD k false = false) :
    Calls Try.prog 32 #[.agg #[kv, .int .i64 torn, .int .i64 at'], .int .i64 (k : Int), .agg (pa s), .agg (pa l)] w fun e w' => e = .returned (.agg (pa (mix 0 s l))) ∧ Below w.heap.size w w' := by
  obtain ⟨V, hV⟩ : ∃ V, Four V w kv torn at' s l := ⟨_, rfl⟩
  have hk' := hk.below (four_below hV)
  obtain ⟨ao, cap, rfl, hcell⟩ := hk'
  obtain ⟨f0, f1, f2, f3⟩ := four_heap hV
  have hcp := four_copy hV hs hl 0 (by omega)
  have hmx : Pg (mix 0 s l) := pg_mix hs hl
  have hpl : (Try.prog.info? 68).map (·.size) = some (pa (mix 0 s l)).size := by rw [pa_size, hmx.1]; exact info68
  obtain ⟨v1, Hv1⟩ : ∃ v1, Hid (v1 = V.drew.setRow (w.heap.size + 1) (pa (mix 0 s l))) := ⟨_, ⟨rfl⟩⟩
  have g1 : v1.heap[w.heap.size + 1]? = some (.cells (pa (mix 0 s l)) 68 (0, 0)) := by rw [Hv1.out]; exact setRow_heap _ _ _ _ 68 (0, 0) f1
  have g3 : v1.heap[w.heap.size + 1 + 1 + 1]? = some (.cells Try.zeroCells68 68 (0, 0)) := by rw [Hv1.out]; exact (setRow_other _ _ _ _ (by omega)).trans f3
  have HB : Hid (Below w.heap.size w v1) := ⟨by rw [Hv1.out]; exact below_setRow' (four_below hV).drew (by omega) _⟩
  rw [← Hv1.out] at hcp
  clear Hv1 hk
  have c0 : V.cell? ⟨w.heap.size, 0, none⟩ = some (.slice ao ks.length cap) := by rw [cell_of_row _ _ _ _ _ _ f0]; rfl
  have c1 : V.cell? ⟨w.heap.size, 1, none⟩ = some (.int .i64 torn) := by rw [cell_of_row _ _ _ _ _ _ f0]; rfl
  have c2 : V.cell? ⟨w.heap.size, 2, none⟩ = some (.int .i64 at') := by rw [cell_of_row _ _ _ _ _ _ f0]; rfl
  clear f0 f1 f2 f3
  obtain ⟨zb, zo, rfl, hz⟩ := hcell k hkl
  rw [hkt] at hz
  have hkz : (k : Int) < (ks.length : Int) := by omega
  clear hcell
  generalize hmq : mix 0 s l = mx at hcp hmx hpl g1
  clear hmq
  have HV : Hid ((((w.alloc (.cells #[.slice (some ⟨zb, zo, none⟩) ks.length cap, .int .i64 torn, .int .i64 at'] 40)).alloc (.cells (pa s) 68)).alloc (.cells (pa l) 68)).alloc (.cells Try.zeroCells68 68) = V) := ⟨hV.symm⟩
  clear hV
  go_enter Try.func32, Try.ntmps32
  go_wp2_with (refine wpl_allocZ rfl rfl HV.out ?_; clear HV)
  refine wp_region_any (by kernel_rfl) ?_
  change wpAny _ _ _ _ _ _ _ (World.drew _)
  refine wpAny_take (i := 0) (v := .int .i64 0) rfl (by kernel_rfl) (by kernel_rfl) (by kernel_rfl) (fun _ _ _ h => h) (Or.inl ⟨by kernel_rfl, fun _ => by kernel_rfl⟩) ?_
  refine wpAny_take (i := 1) (v := .slice (some ⟨w.heap.size + 1, 0, none⟩) 0 128) rfl (by kernel_rfl) (by kernel_rfl) (by kernel_rfl) (fun _ _ _ h => h) (Or.inl ⟨by kernel_rfl, fun wx => by go_simp⟩) ?_
  refine wpAny_take (i := 2) (v := .int .i64 0) rfl (by kernel_rfl) (by kernel_rfl) (by kernel_rfl) (fun _ _ _ h => h) (Or.inl ⟨by kernel_rfl, fun _ => by kernel_rfl⟩) ?_
  refine wpAny_take (i := 3) (v := .slice (some ⟨w.heap.size + 1 + 1, 0, none⟩) 0 128) rfl (by kernel_rfl) (by kernel_rfl) (by kernel_rfl) (fun _ _ _ h => h) (Or.inl ⟨by kernel_rfl, fun wx => by go_simp⟩) ?_
  refine wpAny_ready (rs := [4]) (by kernel_rfl) (by simp) (AllReady.cons rfl (fun Kc hK => ?_) AllReady.nil)
  go_simp
  refine hK _ _ ?_
  clear hK hcp
  refine wpAny_done (by kernel_rfl) ?_ _
  have tok : True := trivial
  go_wp2_with (first
    | (have _t := tok; refine wpList_load_row rfl 68 (.tmp 6) rfl (w.heap.size + 1) rfl 68 (pa mx) (0, 0) _ g1 Try.underlying68 rfl hpl ?_; clear tok)
    | (refine wpList_store_row rfl 68 (.tmp 8) (.tmp 45) rfl (w.heap.size + 1 + 1 + 1) (pa mx) rfl rfl 68 Try.zeroCells68 g3 hpl (by rw [zc68, pa_size, pa_size, hmx.1]; rfl) (pa_one _) ?_; refine wpList_nil ?_; rename_i hcont; refine hcont _ _ (wp_ret ?_); refine bodyPost_ret (v := .agg (pa mx)) (results_cell_row (p := 8) Try.results32 _ _ (w.heap.size + 1 + 1 + 1) 68 _ (0, 0) (.array 128 5) (by kernel_rfl) (setRow_heap v1 (w.heap.size + 1 + 1 + 1) _ (pa mx) 68 (0, 0) g3) Try.underlying68 rfl hpl) rfl ⟨rfl, below_setRow' HB.out (by omega) _⟩))

set_option maxHeartbeats 2000000 in
set_option maxRecDepth 100000 in
theorem outl_nonea (w : World) (kv : Value) (ks : List Bool) (torn at' : Int) (k : Nat) (s l : List Int) (hs : Pg s) (hl : Pg l) (hk : Ks w kv ks) (ht : ¬ (k : Int) = torn) (hkl : ¬ k < ks.length) :
    Calls Try.prog 32 #[.agg #[kv, .int .i64 torn, .int .i64 at'], .int .i64 (k : Int), .agg (pa s), .agg (pa l)] w fun e w' => e = .returned (.agg (pa (mix 0 s l))) ∧ Below w.heap.size w w' := by
  obtain ⟨V, hV⟩ : ∃ V, Four V w kv torn at' s l := ⟨_, rfl⟩
  have hk' := hk.below (four_below hV)
  obtain ⟨ao, cap, rfl, hcell⟩ := hk'
  obtain ⟨f0, f1, f2, f3⟩ := four_heap hV
  have hcp := four_copy hV hs hl 0 (by omega)
  have hmx : Pg (mix 0 s l) := pg_mix hs hl
  have hpl : (Try.prog.info? 68).map (·.size) = some (pa (mix 0 s l)).size := by rw [pa_size, hmx.1]; exact info68
  obtain ⟨v1, Hv1⟩ : ∃ v1, Hid (v1 = V.drew.setRow (w.heap.size + 1) (pa (mix 0 s l))) := ⟨_, ⟨rfl⟩⟩
  have g1 : v1.heap[w.heap.size + 1]? = some (.cells (pa (mix 0 s l)) 68 (0, 0)) := by rw [Hv1.out]; exact setRow_heap _ _ _ _ 68 (0, 0) f1
  have g3 : v1.heap[w.heap.size + 1 + 1 + 1]? = some (.cells Try.zeroCells68 68 (0, 0)) := by rw [Hv1.out]; exact (setRow_other _ _ _ _ (by omega)).trans f3
  have HB : Hid (Below w.heap.size w v1) := ⟨by rw [Hv1.out]; exact below_setRow' (four_below hV).drew (by omega) _⟩
  rw [← Hv1.out] at hcp
  clear Hv1 hk
  have c0 : V.cell? ⟨w.heap.size, 0, none⟩ = some (.slice ao ks.length cap) := by rw [cell_of_row _ _ _ _ _ _ f0]; rfl
  have c1 : V.cell? ⟨w.heap.size, 1, none⟩ = some (.int .i64 torn) := by rw [cell_of_row _ _ _ _ _ _ f0]; rfl
  have c2 : V.cell? ⟨w.heap.size, 2, none⟩ = some (.int .i64 at') := by rw [cell_of_row _ _ _ _ _ _ f0]; rfl
  clear f0 f1 f2 f3
  have hkz : ¬ (k : Int) < (ks.length : Int) := by omega
  clear hcell
  generalize hmq : mix 0 s l = mx at hcp hmx hpl g1
  clear hmq
  have HV : Hid ((((w.alloc (.cells #[.slice ao ks.length cap, .int .i64 torn, .int .i64 at'] 40)).alloc (.cells (pa s) 68)).alloc (.cells (pa l) 68)).alloc (.cells Try.zeroCells68 68) = V) := ⟨hV.symm⟩
  clear hV
  go_enter Try.func32, Try.ntmps32
  go_wp2_with (refine wpl_allocZ rfl rfl HV.out ?_; clear HV)
  refine wp_region_any (by kernel_rfl) ?_
  change wpAny _ _ _ _ _ _ _ (World.drew _)
  refine wpAny_take (i := 0) (v := .int .i64 0) rfl (by kernel_rfl) (by kernel_rfl) (by kernel_rfl) (fun _ _ _ h => h) (Or.inl ⟨by kernel_rfl, fun _ => by kernel_rfl⟩) ?_
  refine wpAny_take (i := 1) (v := .slice (some ⟨w.heap.size + 1, 0, none⟩) 0 128) rfl (by kernel_rfl) (by kernel_rfl) (by kernel_rfl) (fun _ _ _ h => h) (Or.inl ⟨by kernel_rfl, fun wx => by go_simp⟩) ?_
  refine wpAny_take (i := 2) (v := .int .i64 0) rfl (by kernel_rfl) (by kernel_rfl) (by kernel_rfl) (fun _ _ _ h => h) (Or.inl ⟨by kernel_rfl, fun _ => by kernel_rfl⟩) ?_
  refine wpAny_take (i := 3) (v := .slice (some ⟨w.heap.size + 1 + 1, 0, none⟩) 0 128) rfl (by kernel_rfl) (by kernel_rfl) (by kernel_rfl) (fun _ _ _ h => h) (Or.inl ⟨by kernel_rfl, fun wx => by go_simp⟩) ?_
  refine wpAny_ready (rs := [4]) (by kernel_rfl) (by simp) (AllReady.cons rfl (fun Kc hK => ?_) AllReady.nil)
  go_simp
  refine hK _ _ ?_
  clear hK hcp
  refine wpAny_done (by kernel_rfl) ?_ _
  have tok : True := trivial
  go_wp2_with (first
    | (have _t := tok; refine wpList_load_row rfl 68 (.tmp 6) rfl (w.heap.size + 1) rfl 68 (pa mx) (0, 0) _ g1 Try.underlying68 rfl hpl ?_; clear tok)
    | (refine wpList_store_row rfl 68 (.tmp 8) (.tmp 45) rfl (w.heap.size + 1 + 1 + 1) (pa mx) rfl rfl 68 Try.zeroCells68 g3 hpl (by rw [zc68, pa_size, pa_size, hmx.1]; rfl) (pa_one _) ?_; refine wpList_nil ?_; rename_i hcont; refine hcont _ _ (wp_ret ?_); refine bodyPost_ret (v := .agg (pa mx)) (results_cell_row (p := 8) Try.results32 _ _ (w.heap.size + 1 + 1 + 1) 68 _ (0, 0) (.array 128 5) (by kernel_rfl) (setRow_heap v1 (w.heap.size + 1 + 1 + 1) _ (pa mx) 68 (0, 0) g3) Try.underlying68 rfl hpl) rfl ⟨rfl, below_setRow' HB.out (by omega) _⟩))

set_option maxHeartbeats 2000000 in
set_option maxRecDepth 100000 in
theorem outl_keepb (w : World) (kv : Value) (ks : List Bool) (torn at' : Int) (k : Nat) (s l : List Int) (hs : Pg s) (hl : Pg l) (hk : Ks w kv ks) (ht : (k : Int) = torn) (h0 : at' < 0) (hkl : k < ks.length) (hkt : ks.getD k false = true) :
    Calls Try.prog 32 #[.agg #[kv, .int .i64 torn, .int .i64 at'], .int .i64 (k : Int), .agg (pa s), .agg (pa l)] w fun e w' => e = .returned (.agg (pa (mix 128 s l))) ∧ Below w.heap.size w w' := by
  obtain ⟨V, hV⟩ : ∃ V, Four V w kv torn at' s l := ⟨_, rfl⟩
  have hk' := hk.below (four_below hV)
  obtain ⟨ao, cap, rfl, hcell⟩ := hk'
  obtain ⟨f0, f1, f2, f3⟩ := four_heap hV
  have hcp := four_copy hV hs hl 128 (by omega)
  have hmx : Pg (mix 128 s l) := pg_mix hs hl
  have hpl : (Try.prog.info? 68).map (·.size) = some (pa (mix 128 s l)).size := by rw [pa_size, hmx.1]; exact info68
  obtain ⟨v1, Hv1⟩ : ∃ v1, Hid (v1 = V.drew.setRow (w.heap.size + 1) (pa (mix 128 s l))) := ⟨_, ⟨rfl⟩⟩
  have g1 : v1.heap[w.heap.size + 1]? = some (.cells (pa (mix 128 s l)) 68 (0, 0)) := by rw [Hv1.out]; exact setRow_heap _ _ _ _ 68 (0, 0) f1
  have g3 : v1.heap[w.heap.size + 1 + 1 + 1]? = some (.cells Try.zeroCells68 68 (0, 0)) := by rw [Hv1.out]; exact (setRow_other _ _ _ _ (by omega)).trans f3
  have HB : Hid (Below w.heap.size w v1) := ⟨by rw [Hv1.out]; exact below_setRow' (four_below hV).drew (by omega) _⟩
  rw [← Hv1.out] at hcp
  clear Hv1 hk
  have c0 : V.cell? ⟨w.heap.size, 0, none⟩ = some (.slice ao ks.length cap) := by rw [cell_of_row _ _ _ _ _ _ f0]; rfl
  have c1 : V.cell? ⟨w.heap.size, 1, none⟩ = some (.int .i64 torn) := by rw [cell_of_row _ _ _ _ _ _ f0]; rfl
  have c2 : V.cell? ⟨w.heap.size, 2, none⟩ = some (.int .i64 at') := by rw [cell_of_row _ _ _ _ _ _ f0]; rfl
  clear f0 f1 f2 f3
  subst ht
  obtain ⟨zb, zo, rfl, hz⟩ := hcell k hkl
  rw [hkt] at hz
  have hkz : (k : Int) < (ks.length : Int) := by omega
  have hn128 : ((128 : Nat) : Int) = 128 := rfl
  clear hcell
  generalize hmq : mix 128 s l = mx at hcp hmx hpl g1
  clear hmq
  have HV : Hid ((((w.alloc (.cells #[.slice (some ⟨zb, zo, none⟩) ks.length cap, .int .i64 (k : Int), .int .i64 at'] 40)).alloc (.cells (pa s) 68)).alloc (.cells (pa l) 68)).alloc (.cells Try.zeroCells68 68) = V) := ⟨hV.symm⟩
  clear hV
  go_enter Try.func32, Try.ntmps32
  go_wp2_with (refine wpl_allocZ rfl rfl HV.out ?_; clear HV)
  refine wp_region_any (by kernel_rfl) ?_
  change wpAny _ _ _ _ _ _ _ (World.drew _)
  refine wpAny_take (i := 0) (v := .int .i64 128) rfl (by kernel_rfl) (by kernel_rfl) (by kernel_rfl) (fun _ _ _ h => h) (Or.inl ⟨by kernel_rfl, fun _ => by kernel_rfl⟩) ?_
  refine wpAny_take (i := 1) (v := .slice (some ⟨w.heap.size + 1, 0, none⟩) 128 128) rfl (by kernel_rfl) (by kernel_rfl) (by kernel_rfl) (fun _ _ _ h => h) (Or.inl ⟨by kernel_rfl, fun wx => by go_simp⟩) ?_
  refine wpAny_take (i := 2) (v := .int .i64 128) rfl (by kernel_rfl) (by kernel_rfl) (by kernel_rfl) (fun _ _ _ h => h) (Or.inl ⟨by kernel_rfl, fun _ => by kernel_rfl⟩) ?_
  refine wpAny_take (i := 3) (v := .slice (some ⟨w.heap.size + 1 + 1, 0, none⟩) 128 128) rfl (by kernel_rfl) (by kernel_rfl) (by kernel_rfl) (fun _ _ _ h => h) (Or.inl ⟨by kernel_rfl, fun wx => by go_simp⟩) ?_
  refine wpAny_ready (rs := [4]) (by kernel_rfl) (by simp) (AllReady.cons rfl (fun Kc hK => ?_) AllReady.nil)
  go_simp
  refine hK _ _ ?_
  clear hK hcp
  refine wpAny_done (by kernel_rfl) ?_ _
  have tok : True := trivial
  go_wp2_with (first
    | (have _t := tok; refine wpList_load_row rfl 68 (.tmp 6) rfl (w.heap.size + 1) rfl 68 (pa mx) (0, 0) _ g1 Try.underlying68 rfl hpl ?_; clear tok)
    | (refine wpList_store_row rfl 68 (.tmp 8) (.tmp 45) rfl (w.heap.size + 1 + 1 + 1) (pa mx) rfl rfl 68 Try.zeroCells68 g3 hpl (by rw [zc68, pa_size, pa_size, hmx.1]; rfl) (pa_one _) ?_; refine wpList_nil ?_; rename_i hcont; refine hcont _ _ (wp_ret ?_); refine bodyPost_ret (v := .agg (pa mx)) (results_cell_row (p := 8) Try.results32 _ _ (w.heap.size + 1 + 1 + 1) 68 _ (0, 0) (.array 128 5) (by kernel_rfl) (setRow_heap v1 (w.heap.size + 1 + 1 + 1) _ (pa mx) 68 (0, 0) g3) Try.underlying68 rfl hpl) rfl ⟨rfl, below_setRow' HB.out (by omega) _⟩))

set_option maxHeartbeats 2000000 in
set_option maxRecDepth 100000 in
theorem outl_dropb (w : World) (kv : Value) (ks : List Bool) (torn at' : Int) (k : Nat) (s l : List Int) (hs : Pg s) (hl : Pg l) (hk : Ks w kv ks) (ht : (k : Int) = torn) (h0 : at' < 0) (hkl : k < ks.length) (hkt : ks.getD k false = false) :
    Calls Try.prog 32 #[.agg #[kv, .int .i64 torn, .int .i64 at'], .int .i64 (k : Int), .agg (pa s), .agg (pa l)] w fun e w' => e = .returned (.agg (pa (mix 0 s l))) ∧ Below w.heap.size w w' := by
  obtain ⟨V, hV⟩ : ∃ V, Four V w kv torn at' s l := ⟨_, rfl⟩
  have hk' := hk.below (four_below hV)
  obtain ⟨ao, cap, rfl, hcell⟩ := hk'
  obtain ⟨f0, f1, f2, f3⟩ := four_heap hV
  have hcp := four_copy hV hs hl 0 (by omega)
  have hmx : Pg (mix 0 s l) := pg_mix hs hl
  have hpl : (Try.prog.info? 68).map (·.size) = some (pa (mix 0 s l)).size := by rw [pa_size, hmx.1]; exact info68
  obtain ⟨v1, Hv1⟩ : ∃ v1, Hid (v1 = V.drew.setRow (w.heap.size + 1) (pa (mix 0 s l))) := ⟨_, ⟨rfl⟩⟩
  have g1 : v1.heap[w.heap.size + 1]? = some (.cells (pa (mix 0 s l)) 68 (0, 0)) := by rw [Hv1.out]; exact setRow_heap _ _ _ _ 68 (0, 0) f1
  have g3 : v1.heap[w.heap.size + 1 + 1 + 1]? = some (.cells Try.zeroCells68 68 (0, 0)) := by rw [Hv1.out]; exact (setRow_other _ _ _ _ (by omega)).trans f3
  have HB : Hid (Below w.heap.size w v1) := ⟨by rw [Hv1.out]; exact below_setRow' (four_below hV).drew (by omega) _⟩
  rw [← Hv1.out] at hcp
  clear Hv1 hk
  have c0 : V.cell? ⟨w.heap.size, 0, none⟩ = some (.slice ao ks.length cap) := by rw [cell_of_row _ _ _ _ _ _ f0]; rfl
  have c1 : V.cell? ⟨w.heap.size, 1, none⟩ = some (.int .i64 torn) := by rw [cell_of_row _ _ _ _ _ _ f0]; rfl
  have c2 : V.cell? ⟨w.heap.size, 2, none⟩ = some (.int .i64 at') := by rw [cell_of_row _ _ _ _ _ _ f0]; rfl
  clear f0 f1 f2 f3
  subst ht
  obtain ⟨zb, zo, rfl, hz⟩ := hcell k hkl
  rw [hkt] at hz
  have hkz : (k : Int) < (ks.length : Int) := by omega
  clear hcell
  generalize hmq : mix 0 s l = mx at hcp hmx hpl g1
  clear hmq
  have HV : Hid ((((w.alloc (.cells #[.slice (some ⟨zb, zo, none⟩) ks.length cap, .int .i64 (k : Int), .int .i64 at'] 40)).alloc (.cells (pa s) 68)).alloc (.cells (pa l) 68)).alloc (.cells Try.zeroCells68 68) = V) := ⟨hV.symm⟩
  clear hV
  go_enter Try.func32, Try.ntmps32
  go_wp2_with (refine wpl_allocZ rfl rfl HV.out ?_; clear HV)
  refine wp_region_any (by kernel_rfl) ?_
  change wpAny _ _ _ _ _ _ _ (World.drew _)
  refine wpAny_take (i := 0) (v := .int .i64 0) rfl (by kernel_rfl) (by kernel_rfl) (by kernel_rfl) (fun _ _ _ h => h) (Or.inl ⟨by kernel_rfl, fun _ => by kernel_rfl⟩) ?_
  refine wpAny_take (i := 1) (v := .slice (some ⟨w.heap.size + 1, 0, none⟩) 0 128) rfl (by kernel_rfl) (by kernel_rfl) (by kernel_rfl) (fun _ _ _ h => h) (Or.inl ⟨by kernel_rfl, fun wx => by go_simp⟩) ?_
  refine wpAny_take (i := 2) (v := .int .i64 0) rfl (by kernel_rfl) (by kernel_rfl) (by kernel_rfl) (fun _ _ _ h => h) (Or.inl ⟨by kernel_rfl, fun _ => by kernel_rfl⟩) ?_
  refine wpAny_take (i := 3) (v := .slice (some ⟨w.heap.size + 1 + 1, 0, none⟩) 0 128) rfl (by kernel_rfl) (by kernel_rfl) (by kernel_rfl) (fun _ _ _ h => h) (Or.inl ⟨by kernel_rfl, fun wx => by go_simp⟩) ?_
  refine wpAny_ready (rs := [4]) (by kernel_rfl) (by simp) (AllReady.cons rfl (fun Kc hK => ?_) AllReady.nil)
  go_simp
  refine hK _ _ ?_
  clear hK hcp
  refine wpAny_done (by kernel_rfl) ?_ _
  have tok : True := trivial
  go_wp2_with (first
    | (have _t := tok; refine wpList_load_row rfl 68 (.tmp 6) rfl (w.heap.size + 1) rfl 68 (pa mx) (0, 0) _ g1 Try.underlying68 rfl hpl ?_; clear tok)
    | (refine wpList_store_row rfl 68 (.tmp 8) (.tmp 45) rfl (w.heap.size + 1 + 1 + 1) (pa mx) rfl rfl 68 Try.zeroCells68 g3 hpl (by rw [zc68, pa_size, pa_size, hmx.1]; rfl) (pa_one _) ?_; refine wpList_nil ?_; rename_i hcont; refine hcont _ _ (wp_ret ?_); refine bodyPost_ret (v := .agg (pa mx)) (results_cell_row (p := 8) Try.results32 _ _ (w.heap.size + 1 + 1 + 1) 68 _ (0, 0) (.array 128 5) (by kernel_rfl) (setRow_heap v1 (w.heap.size + 1 + 1 + 1) _ (pa mx) 68 (0, 0) g3) Try.underlying68 rfl hpl) rfl ⟨rfl, below_setRow' HB.out (by omega) _⟩))

set_option maxHeartbeats 2000000 in
set_option maxRecDepth 100000 in
theorem outl_noneb (w : World) (kv : Value) (ks : List Bool) (torn at' : Int) (k : Nat) (s l : List Int) (hs : Pg s) (hl : Pg l) (hk : Ks w kv ks) (ht : (k : Int) = torn) (h0 : at' < 0) (hkl : ¬ k < ks.length) :
    Calls Try.prog 32 #[.agg #[kv, .int .i64 torn, .int .i64 at'], .int .i64 (k : Int), .agg (pa s), .agg (pa l)] w fun e w' => e = .returned (.agg (pa (mix 0 s l))) ∧ Below w.heap.size w w' := by
  obtain ⟨V, hV⟩ : ∃ V, Four V w kv torn at' s l := ⟨_, rfl⟩
  have hk' := hk.below (four_below hV)
  obtain ⟨ao, cap, rfl, hcell⟩ := hk'
  obtain ⟨f0, f1, f2, f3⟩ := four_heap hV
  have hcp := four_copy hV hs hl 0 (by omega)
  have hmx : Pg (mix 0 s l) := pg_mix hs hl
  have hpl : (Try.prog.info? 68).map (·.size) = some (pa (mix 0 s l)).size := by rw [pa_size, hmx.1]; exact info68
  obtain ⟨v1, Hv1⟩ : ∃ v1, Hid (v1 = V.drew.setRow (w.heap.size + 1) (pa (mix 0 s l))) := ⟨_, ⟨rfl⟩⟩
  have g1 : v1.heap[w.heap.size + 1]? = some (.cells (pa (mix 0 s l)) 68 (0, 0)) := by rw [Hv1.out]; exact setRow_heap _ _ _ _ 68 (0, 0) f1
  have g3 : v1.heap[w.heap.size + 1 + 1 + 1]? = some (.cells Try.zeroCells68 68 (0, 0)) := by rw [Hv1.out]; exact (setRow_other _ _ _ _ (by omega)).trans f3
  have HB : Hid (Below w.heap.size w v1) := ⟨by rw [Hv1.out]; exact below_setRow' (four_below hV).drew (by omega) _⟩
  rw [← Hv1.out] at hcp
  clear Hv1 hk
  have c0 : V.cell? ⟨w.heap.size, 0, none⟩ = some (.slice ao ks.length cap) := by rw [cell_of_row _ _ _ _ _ _ f0]; rfl
  have c1 : V.cell? ⟨w.heap.size, 1, none⟩ = some (.int .i64 torn) := by rw [cell_of_row _ _ _ _ _ _ f0]; rfl
  have c2 : V.cell? ⟨w.heap.size, 2, none⟩ = some (.int .i64 at') := by rw [cell_of_row _ _ _ _ _ _ f0]; rfl
  clear f0 f1 f2 f3
  subst ht
  have hkz : ¬ (k : Int) < (ks.length : Int) := by omega
  clear hcell
  generalize hmq : mix 0 s l = mx at hcp hmx hpl g1
  clear hmq
  have HV : Hid ((((w.alloc (.cells #[.slice ao ks.length cap, .int .i64 (k : Int), .int .i64 at'] 40)).alloc (.cells (pa s) 68)).alloc (.cells (pa l) 68)).alloc (.cells Try.zeroCells68 68) = V) := ⟨hV.symm⟩
  clear hV
  go_enter Try.func32, Try.ntmps32
  go_wp2_with (refine wpl_allocZ rfl rfl HV.out ?_; clear HV)
  refine wp_region_any (by kernel_rfl) ?_
  change wpAny _ _ _ _ _ _ _ (World.drew _)
  refine wpAny_take (i := 0) (v := .int .i64 0) rfl (by kernel_rfl) (by kernel_rfl) (by kernel_rfl) (fun _ _ _ h => h) (Or.inl ⟨by kernel_rfl, fun _ => by kernel_rfl⟩) ?_
  refine wpAny_take (i := 1) (v := .slice (some ⟨w.heap.size + 1, 0, none⟩) 0 128) rfl (by kernel_rfl) (by kernel_rfl) (by kernel_rfl) (fun _ _ _ h => h) (Or.inl ⟨by kernel_rfl, fun wx => by go_simp⟩) ?_
  refine wpAny_take (i := 2) (v := .int .i64 0) rfl (by kernel_rfl) (by kernel_rfl) (by kernel_rfl) (fun _ _ _ h => h) (Or.inl ⟨by kernel_rfl, fun _ => by kernel_rfl⟩) ?_
  refine wpAny_take (i := 3) (v := .slice (some ⟨w.heap.size + 1 + 1, 0, none⟩) 0 128) rfl (by kernel_rfl) (by kernel_rfl) (by kernel_rfl) (fun _ _ _ h => h) (Or.inl ⟨by kernel_rfl, fun wx => by go_simp⟩) ?_
  refine wpAny_ready (rs := [4]) (by kernel_rfl) (by simp) (AllReady.cons rfl (fun Kc hK => ?_) AllReady.nil)
  go_simp
  refine hK _ _ ?_
  clear hK hcp
  refine wpAny_done (by kernel_rfl) ?_ _
  have tok : True := trivial
  go_wp2_with (first
    | (have _t := tok; refine wpList_load_row rfl 68 (.tmp 6) rfl (w.heap.size + 1) rfl 68 (pa mx) (0, 0) _ g1 Try.underlying68 rfl hpl ?_; clear tok)
    | (refine wpList_store_row rfl 68 (.tmp 8) (.tmp 45) rfl (w.heap.size + 1 + 1 + 1) (pa mx) rfl rfl 68 Try.zeroCells68 g3 hpl (by rw [zc68, pa_size, pa_size, hmx.1]; rfl) (pa_one _) ?_; refine wpList_nil ?_; rename_i hcont; refine hcont _ _ (wp_ret ?_); refine bodyPost_ret (v := .agg (pa mx)) (results_cell_row (p := 8) Try.results32 _ _ (w.heap.size + 1 + 1 + 1) 68 _ (0, 0) (.array 128 5) (by kernel_rfl) (setRow_heap v1 (w.heap.size + 1 + 1 + 1) _ (pa mx) 68 (0, 0) g3) Try.underlying68 rfl hpl) rfl ⟨rfl, below_setRow' HB.out (by omega) _⟩))

set_option maxHeartbeats 2000000 in
set_option maxRecDepth 100000 in
theorem outl_keepc (w : World) (kv : Value) (ks : List Bool) (torn at' : Int) (k : Nat) (s l : List Int) (hs : Pg s) (hl : Pg l) (hk : Ks w kv ks) (ht : (k : Int) = torn) (h0 : 128 < at') (hkl : k < ks.length) (hkt : ks.getD k false = true) :
    Calls Try.prog 32 #[.agg #[kv, .int .i64 torn, .int .i64 at'], .int .i64 (k : Int), .agg (pa s), .agg (pa l)] w fun e w' => e = .returned (.agg (pa (mix 128 s l))) ∧ Below w.heap.size w w' := by
  obtain ⟨V, hV⟩ : ∃ V, Four V w kv torn at' s l := ⟨_, rfl⟩
  have hk' := hk.below (four_below hV)
  obtain ⟨ao, cap, rfl, hcell⟩ := hk'
  obtain ⟨f0, f1, f2, f3⟩ := four_heap hV
  have hcp := four_copy hV hs hl 128 (by omega)
  have hmx : Pg (mix 128 s l) := pg_mix hs hl
  have hpl : (Try.prog.info? 68).map (·.size) = some (pa (mix 128 s l)).size := by rw [pa_size, hmx.1]; exact info68
  obtain ⟨v1, Hv1⟩ : ∃ v1, Hid (v1 = V.drew.setRow (w.heap.size + 1) (pa (mix 128 s l))) := ⟨_, ⟨rfl⟩⟩
  have g1 : v1.heap[w.heap.size + 1]? = some (.cells (pa (mix 128 s l)) 68 (0, 0)) := by rw [Hv1.out]; exact setRow_heap _ _ _ _ 68 (0, 0) f1
  have g3 : v1.heap[w.heap.size + 1 + 1 + 1]? = some (.cells Try.zeroCells68 68 (0, 0)) := by rw [Hv1.out]; exact (setRow_other _ _ _ _ (by omega)).trans f3
  have HB : Hid (Below w.heap.size w v1) := ⟨by rw [Hv1.out]; exact below_setRow' (four_below hV).drew (by omega) _⟩
  rw [← Hv1.out] at hcp
  clear Hv1 hk
  have c0 : V.cell? ⟨w.heap.size, 0, none⟩ = some (.slice ao ks.length cap) := by rw [cell_of_row _ _ _ _ _ _ f0]; rfl
  have c1 : V.cell? ⟨w.heap.size, 1, none⟩ = some (.int .i64 torn) := by rw [cell_of_row _ _ _ _ _ _ f0]; rfl
  have c2 : V.cell? ⟨w.heap.size, 2, none⟩ = some (.int .i64 at') := by rw [cell_of_row _ _ _ _ _ _ f0]; rfl
  clear f0 f1 f2 f3
  subst ht
  obtain ⟨zb, zo, rfl, hz⟩ := hcell k hkl
  rw [hkt] at hz
  have hkz : (k : Int) < (ks.length : Int) := by omega
  have hn128 : ((128 : Nat) : Int) = 128 := rfl
  clear hcell
  generalize hmq : mix 128 s l = mx at hcp hmx hpl g1
  clear hmq
  have HV : Hid ((((w.alloc (.cells #[.slice (some ⟨zb, zo, none⟩) ks.length cap, .int .i64 (k : Int), .int .i64 at'] 40)).alloc (.cells (pa s) 68)).alloc (.cells (pa l) 68)).alloc (.cells Try.zeroCells68 68) = V) := ⟨hV.symm⟩
  clear hV
  go_enter Try.func32, Try.ntmps32
  go_wp2_with (refine wpl_allocZ rfl rfl HV.out ?_; clear HV)
  refine wp_region_any (by kernel_rfl) ?_
  change wpAny _ _ _ _ _ _ _ (World.drew _)
  refine wpAny_take (i := 0) (v := .int .i64 128) rfl (by kernel_rfl) (by kernel_rfl) (by kernel_rfl) (fun _ _ _ h => h) (Or.inl ⟨by kernel_rfl, fun _ => by kernel_rfl⟩) ?_
  refine wpAny_take (i := 1) (v := .slice (some ⟨w.heap.size + 1, 0, none⟩) 128 128) rfl (by kernel_rfl) (by kernel_rfl) (by kernel_rfl) (fun _ _ _ h => h) (Or.inl ⟨by kernel_rfl, fun wx => by go_simp⟩) ?_
  refine wpAny_take (i := 2) (v := .int .i64 128) rfl (by kernel_rfl) (by kernel_rfl) (by kernel_rfl) (fun _ _ _ h => h) (Or.inl ⟨by kernel_rfl, fun _ => by kernel_rfl⟩) ?_
  refine wpAny_take (i := 3) (v := .slice (some ⟨w.heap.size + 1 + 1, 0, none⟩) 128 128) rfl (by kernel_rfl) (by kernel_rfl) (by kernel_rfl) (fun _ _ _ h => h) (Or.inl ⟨by kernel_rfl, fun wx => by go_simp⟩) ?_
  refine wpAny_ready (rs := [4]) (by kernel_rfl) (by simp) (AllReady.cons rfl (fun Kc hK => ?_) AllReady.nil)
  go_simp
  refine hK _ _ ?_
  clear hK hcp
  refine wpAny_done (by kernel_rfl) ?_ _
  have tok : True := trivial
  go_wp2_with (first
    | (have _t := tok; refine wpList_load_row rfl 68 (.tmp 6) rfl (w.heap.size + 1) rfl 68 (pa mx) (0, 0) _ g1 Try.underlying68 rfl hpl ?_; clear tok)
    | (refine wpList_store_row rfl 68 (.tmp 8) (.tmp 45) rfl (w.heap.size + 1 + 1 + 1) (pa mx) rfl rfl 68 Try.zeroCells68 g3 hpl (by rw [zc68, pa_size, pa_size, hmx.1]; rfl) (pa_one _) ?_; refine wpList_nil ?_; rename_i hcont; refine hcont _ _ (wp_ret ?_); refine bodyPost_ret (v := .agg (pa mx)) (results_cell_row (p := 8) Try.results32 _ _ (w.heap.size + 1 + 1 + 1) 68 _ (0, 0) (.array 128 5) (by kernel_rfl) (setRow_heap v1 (w.heap.size + 1 + 1 + 1) _ (pa mx) 68 (0, 0) g3) Try.underlying68 rfl hpl) rfl ⟨rfl, below_setRow' HB.out (by omega) _⟩))

set_option maxHeartbeats 2000000 in
set_option maxRecDepth 100000 in
theorem outl_dropc (w : World) (kv : Value) (ks : List Bool) (torn at' : Int) (k : Nat) (s l : List Int) (hs : Pg s) (hl : Pg l) (hk : Ks w kv ks) (ht : (k : Int) = torn) (h0 : 128 < at') (hkl : k < ks.length) (hkt : ks.getD k false = false) :
    Calls Try.prog 32 #[.agg #[kv, .int .i64 torn, .int .i64 at'], .int .i64 (k : Int), .agg (pa s), .agg (pa l)] w fun e w' => e = .returned (.agg (pa (mix 0 s l))) ∧ Below w.heap.size w w' := by
  obtain ⟨V, hV⟩ : ∃ V, Four V w kv torn at' s l := ⟨_, rfl⟩
  have hk' := hk.below (four_below hV)
  obtain ⟨ao, cap, rfl, hcell⟩ := hk'
  obtain ⟨f0, f1, f2, f3⟩ := four_heap hV
  have hcp := four_copy hV hs hl 0 (by omega)
  have hmx : Pg (mix 0 s l) := pg_mix hs hl
  have hpl : (Try.prog.info? 68).map (·.size) = some (pa (mix 0 s l)).size := by rw [pa_size, hmx.1]; exact info68
  obtain ⟨v1, Hv1⟩ : ∃ v1, Hid (v1 = V.drew.setRow (w.heap.size + 1) (pa (mix 0 s l))) := ⟨_, ⟨rfl⟩⟩
  have g1 : v1.heap[w.heap.size + 1]? = some (.cells (pa (mix 0 s l)) 68 (0, 0)) := by rw [Hv1.out]; exact setRow_heap _ _ _ _ 68 (0, 0) f1
  have g3 : v1.heap[w.heap.size + 1 + 1 + 1]? = some (.cells Try.zeroCells68 68 (0, 0)) := by rw [Hv1.out]; exact (setRow_other _ _ _ _ (by omega)).trans f3
  have HB : Hid (Below w.heap.size w v1) := ⟨by rw [Hv1.out]; exact below_setRow' (four_below hV).drew (by omega) _⟩
  rw [← Hv1.out] at hcp
  clear Hv1 hk
  have c0 : V.cell? ⟨w.heap.size, 0, none⟩ = some (.slice ao ks.length cap) := by rw [cell_of_row _ _ _ _ _ _ f0]; rfl
  have c1 : V.cell? ⟨w.heap.size, 1, none⟩ = some (.int .i64 torn) := by rw [cell_of_row _ _ _ _ _ _ f0]; rfl
  have c2 : V.cell? ⟨w.heap.size, 2, none⟩ = some (.int .i64 at') := by rw [cell_of_row _ _ _ _ _ _ f0]; rfl
  clear f0 f1 f2 f3
  subst ht
  obtain ⟨zb, zo, rfl, hz⟩ := hcell k hkl
  rw [hkt] at hz
  have hkz : (k : Int) < (ks.length : Int) := by omega
  clear hcell
  generalize hmq : mix 0 s l = mx at hcp hmx hpl g1
  clear hmq
  have HV : Hid ((((w.alloc (.cells #[.slice (some ⟨zb, zo, none⟩) ks.length cap, .int .i64 (k : Int), .int .i64 at'] 40)).alloc (.cells (pa s) 68)).alloc (.cells (pa l) 68)).alloc (.cells Try.zeroCells68 68) = V) := ⟨hV.symm⟩
  clear hV
  go_enter Try.func32, Try.ntmps32
  go_wp2_with (refine wpl_allocZ rfl rfl HV.out ?_; clear HV)
  refine wp_region_any (by kernel_rfl) ?_
  change wpAny _ _ _ _ _ _ _ (World.drew _)
  refine wpAny_take (i := 0) (v := .int .i64 0) rfl (by kernel_rfl) (by kernel_rfl) (by kernel_rfl) (fun _ _ _ h => h) (Or.inl ⟨by kernel_rfl, fun _ => by kernel_rfl⟩) ?_
  refine wpAny_take (i := 1) (v := .slice (some ⟨w.heap.size + 1, 0, none⟩) 0 128) rfl (by kernel_rfl) (by kernel_rfl) (by kernel_rfl) (fun _ _ _ h => h) (Or.inl ⟨by kernel_rfl, fun wx => by go_simp⟩) ?_
  refine wpAny_take (i := 2) (v := .int .i64 0) rfl (by kernel_rfl) (by kernel_rfl) (by kernel_rfl) (fun _ _ _ h => h) (Or.inl ⟨by kernel_rfl, fun _ => by kernel_rfl⟩) ?_
  refine wpAny_take (i := 3) (v := .slice (some ⟨w.heap.size + 1 + 1, 0, none⟩) 0 128) rfl (by kernel_rfl) (by kernel_rfl) (by kernel_rfl) (fun _ _ _ h => h) (Or.inl ⟨by kernel_rfl, fun wx => by go_simp⟩) ?_
  refine wpAny_ready (rs := [4]) (by kernel_rfl) (by simp) (AllReady.cons rfl (fun Kc hK => ?_) AllReady.nil)
  go_simp
  refine hK _ _ ?_
  clear hK hcp
  refine wpAny_done (by kernel_rfl) ?_ _
  have tok : True := trivial
  go_wp2_with (first
    | (have _t := tok; refine wpList_load_row rfl 68 (.tmp 6) rfl (w.heap.size + 1) rfl 68 (pa mx) (0, 0) _ g1 Try.underlying68 rfl hpl ?_; clear tok)
    | (refine wpList_store_row rfl 68 (.tmp 8) (.tmp 45) rfl (w.heap.size + 1 + 1 + 1) (pa mx) rfl rfl 68 Try.zeroCells68 g3 hpl (by rw [zc68, pa_size, pa_size, hmx.1]; rfl) (pa_one _) ?_; refine wpList_nil ?_; rename_i hcont; refine hcont _ _ (wp_ret ?_); refine bodyPost_ret (v := .agg (pa mx)) (results_cell_row (p := 8) Try.results32 _ _ (w.heap.size + 1 + 1 + 1) 68 _ (0, 0) (.array 128 5) (by kernel_rfl) (setRow_heap v1 (w.heap.size + 1 + 1 + 1) _ (pa mx) 68 (0, 0) g3) Try.underlying68 rfl hpl) rfl ⟨rfl, below_setRow' HB.out (by omega) _⟩))

set_option maxHeartbeats 2000000 in
set_option maxRecDepth 100000 in
theorem outl_nonec (w : World) (kv : Value) (ks : List Bool) (torn at' : Int) (k : Nat) (s l : List Int) (hs : Pg s) (hl : Pg l) (hk : Ks w kv ks) (ht : (k : Int) = torn) (h0 : 128 < at') (hkl : ¬ k < ks.length) :
    Calls Try.prog 32 #[.agg #[kv, .int .i64 torn, .int .i64 at'], .int .i64 (k : Int), .agg (pa s), .agg (pa l)] w fun e w' => e = .returned (.agg (pa (mix 0 s l))) ∧ Below w.heap.size w w' := by
  obtain ⟨V, hV⟩ : ∃ V, Four V w kv torn at' s l := ⟨_, rfl⟩
  have hk' := hk.below (four_below hV)
  obtain ⟨ao, cap, rfl, hcell⟩ := hk'
  obtain ⟨f0, f1, f2, f3⟩ := four_heap hV
  have hcp := four_copy hV hs hl 0 (by omega)
  have hmx : Pg (mix 0 s l) := pg_mix hs hl
  have hpl : (Try.prog.info? 68).map (·.size) = some (pa (mix 0 s l)).size := by rw [pa_size, hmx.1]; exact info68
  obtain ⟨v1, Hv1⟩ : ∃ v1, Hid (v1 = V.drew.setRow (w.heap.size + 1) (pa (mix 0 s l))) := ⟨_, ⟨rfl⟩⟩
  have g1 : v1.heap[w.heap.size + 1]? = some (.cells (pa (mix 0 s l)) 68 (0, 0)) := by rw [Hv1.out]; exact setRow_heap _ _ _ _ 68 (0, 0) f1
  have g3 : v1.heap[w.heap.size + 1 + 1 + 1]? = some (.cells Try.zeroCells68 68 (0, 0)) := by rw [Hv1.out]; exact (setRow_other _ _ _ _ (by omega)).trans f3
  have HB : Hid (Below w.heap.size w v1) := ⟨by rw [Hv1.out]; exact below_setRow' (four_below hV).drew (by omega) _⟩
  rw [← Hv1.out] at hcp
  clear Hv1 hk
  have c0 : V.cell? ⟨w.heap.size, 0, none⟩ = some (.slice ao ks.length cap) := by rw [cell_of_row _ _ _ _ _ _ f0]; rfl
  have c1 : V.cell? ⟨w.heap.size, 1, none⟩ = some (.int .i64 torn) := by rw [cell_of_row _ _ _ _ _ _ f0]; rfl
  have c2 : V.cell? ⟨w.heap.size, 2, none⟩ = some (.int .i64 at') := by rw [cell_of_row _ _ _ _ _ _ f0]; rfl
  clear f0 f1 f2 f3
  subst ht
  have hkz : ¬ (k : Int) < (ks.length : Int) := by omega
  clear hcell
  generalize hmq : mix 0 s l = mx at hcp hmx hpl g1
  clear hmq
  have HV : Hid ((((w.alloc (.cells #[.slice ao ks.length cap, .int .i64 (k : Int), .int .i64 at'] 40)).alloc (.cells (pa s) 68)).alloc (.cells (pa l) 68)).alloc (.cells Try.zeroCells68 68) = V) := ⟨hV.symm⟩
  clear hV
  go_enter Try.func32, Try.ntmps32
  go_wp2_with (refine wpl_allocZ rfl rfl HV.out ?_; clear HV)
  refine wp_region_any (by kernel_rfl) ?_
  change wpAny _ _ _ _ _ _ _ (World.drew _)
  refine wpAny_take (i := 0) (v := .int .i64 0) rfl (by kernel_rfl) (by kernel_rfl) (by kernel_rfl) (fun _ _ _ h => h) (Or.inl ⟨by kernel_rfl, fun _ => by kernel_rfl⟩) ?_
  refine wpAny_take (i := 1) (v := .slice (some ⟨w.heap.size + 1, 0, none⟩) 0 128) rfl (by kernel_rfl) (by kernel_rfl) (by kernel_rfl) (fun _ _ _ h => h) (Or.inl ⟨by kernel_rfl, fun wx => by go_simp⟩) ?_
  refine wpAny_take (i := 2) (v := .int .i64 0) rfl (by kernel_rfl) (by kernel_rfl) (by kernel_rfl) (fun _ _ _ h => h) (Or.inl ⟨by kernel_rfl, fun _ => by kernel_rfl⟩) ?_
  refine wpAny_take (i := 3) (v := .slice (some ⟨w.heap.size + 1 + 1, 0, none⟩) 0 128) rfl (by kernel_rfl) (by kernel_rfl) (by kernel_rfl) (fun _ _ _ h => h) (Or.inl ⟨by kernel_rfl, fun wx => by go_simp⟩) ?_
  refine wpAny_ready (rs := [4]) (by kernel_rfl) (by simp) (AllReady.cons rfl (fun Kc hK => ?_) AllReady.nil)
  go_simp
  refine hK _ _ ?_
  clear hK hcp
  refine wpAny_done (by kernel_rfl) ?_ _
  have tok : True := trivial
  go_wp2_with (first
    | (have _t := tok; refine wpList_load_row rfl 68 (.tmp 6) rfl (w.heap.size + 1) rfl 68 (pa mx) (0, 0) _ g1 Try.underlying68 rfl hpl ?_; clear tok)
    | (refine wpList_store_row rfl 68 (.tmp 8) (.tmp 45) rfl (w.heap.size + 1 + 1 + 1) (pa mx) rfl rfl 68 Try.zeroCells68 g3 hpl (by rw [zc68, pa_size, pa_size, hmx.1]; rfl) (pa_one _) ?_; refine wpList_nil ?_; rename_i hcont; refine hcont _ _ (wp_ret ?_); refine bodyPost_ret (v := .agg (pa mx)) (results_cell_row (p := 8) Try.results32 _ _ (w.heap.size + 1 + 1 + 1) 68 _ (0, 0) (.array 128 5) (by kernel_rfl) (setRow_heap v1 (w.heap.size + 1 + 1 + 1) _ (pa mx) 68 (0, 0) g3) Try.underlying68 rfl hpl) rfl ⟨rfl, below_setRow' HB.out (by omega) _⟩))

end Go.Proofs.Ytmcikhdfpmkpnaa
