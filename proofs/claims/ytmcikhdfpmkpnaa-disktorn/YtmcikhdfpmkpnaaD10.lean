/- Package disk's Read. -/
import Derived.Test.YtmcikhdfpmkpnaaD9
namespace Go.Proofs.Ytmcikhdfpmkpnaa
open Go.RowKit Go.Maps Go.Sort Go.Shelf

theorem own_nil (w : World) (base : Nat) : OwnB w base (.slice none 0 0) [] := World.ownsRow_nil _ _ _ _
theorem map_fst_getD {S : List Sec} {i : Nat} (hi : i < S.length) : (S.map (·.1)).getD i [] = (sec S i).1 := by simp [sec, List.getD, List.getElem?_eq_getElem hi]

section
variable {w : World} {p g bm base : Nat} {d : Dk}
set_option maxHeartbeats 2000000 in
set_option maxRecDepth 100000 in
theorem read_any (h : At w p g bm base d) (i : Int) :
    Calls Try.prog 21 #[.pointer (some ⟨p, 0, none⟩), .int .i64 i] w fun e w' => ∃ v, e = .returned (.tuple #[v, .int .i64 (rdE d i)]) ∧ OwnB w' w.heap.size v (rdB d i) ∧ Below w.heap.size w w' := by
  have t1 := ready_any h
  have t2 := has_any h i
  unfold rdE rdB
  cases hd : d.down with
  | true =>
    rw [hd] at t1
    clear h t2
    go_enter Try.func21, Try.ntmps21
    go_wp2_with (go_at_call 33; refine t1.mono ?_; rintro e w' ⟨rfl, rfl⟩)
    go_ret2
    exact ⟨_, rfl, own_nil _ _, Below.refl _ _⟩
  | false =>
    rw [hd] at t1
    simp only [Bool.false_eq_true, if_false]
    by_cases hi : 0 ≤ i ∧ i < (d.S.length : Int)
    · rw [decide_eq_true hi] at t2
      simp only [hi, and_self, if_true]
      obtain ⟨j, rfl⟩ : ∃ j : Nat, i = j := ⟨i.toNat, by omega⟩
      have hj : j < d.S.length := by omega
      obtain ⟨hi0, hi1⟩ := hi
      obtain ⟨cap, tc, n, D, h⟩ := h
      obtain ⟨c0, c1, _⟩ := h.cells
      have hlook := (h.look hj).1
      have hok := ok_sec h.ok j
      have hrc := h.rows.cells (i := j) (by simpa using hj)
      rw [map_fst_getD hj] at hrc
      have hgl := h.lt.2.1
      clear h
      have e1 : (j : Int).toNat = j := rfl
      rw [e1]
      generalize d.S.length = N at c0 hi1
      have hb1 : Below w.heap.size w (w.alloc (.cells Try.zeroCells68 68)) := (Below.refl _ w).alloc (Nat.le_refl _) _
      cases hs : (sec d.S j).2 with
      | some l =>
        have hPg := hok.2 l hs
        have hdt : dirt d.S j = true := by unfold dirt; rw [hs]; rfl
        have hnw : now (sec d.S j) = l := by unfold now; rw [hs]; rfl
        rw [hs, hdt] at hlook
        rw [hnw]
        simp only [Option.getD_some] at hlook
        have hpa : (Try.prog.info? 68).map (·.size) = some (pa l).size := by rw [pa_size, hPg.1]; exact info68
        obtain ⟨v1, Hv1⟩ : ∃ v1, Hid (v1 = (w.alloc (.cells Try.zeroCells68 68)).setRow w.heap.size (pa l)) := ⟨_, ⟨rfl⟩⟩
        have hvar : v1.heap[w.heap.size]? = some (.cells (pa l) 68 (0, 0)) := by rw [Hv1.out]; exact setRow_heap _ _ _ _ 68 (0, 0) (heap_alloc_new w _)
        have HB1 : Hid (Below w.heap.size w v1) := ⟨by rw [Hv1.out]; exact below_setRow' hb1 (Nat.le_refl _) _⟩
        have hbs := var_bs hvar hPg
        clear hrc hok
        go_enter Try.func21, Try.ntmps21
        go_wp2_with (first
          | (go_at_call 33; refine t1.mono ?_; rintro e w' ⟨rfl, rfl⟩; clear t1)
          | (go_at_call 39; refine t2.mono ?_; rintro e w' ⟨rfl, rfl⟩; clear t2)
          | (refine wpList_store_row rfl 68 (.tmp 7) (.tmp 25) rfl w.heap.size (pa l) rfl rfl 68 Try.zeroCells68 (heap_alloc_new w _) hpa (by rw [zc68, pa_size, pa_size, hPg.1]; rfl) (pa_one _) ?_; rw [← Hv1.out])
          | (at_builtin; refine wp_appS (base := w.heap.size) rfl (.const (.slice none 0 0)) (.tmp 36) rfl rfl (own_nil _ _) rfl hbs (by have := hPg.1; simp; omega) (by have := HB1.out.size; omega) ?_; intro v' w' hv' hb'))
        go_ret2
        exact ⟨v', rfl, by simpa using hv', HB1.out.trans hb'⟩
      | none =>
        have hPg := hok.1
        have hdt : dirt d.S j = false := by unfold dirt; rw [hs]; rfl
        have hnw : now (sec d.S j) = (sec d.S j).1 := by unfold now; rw [hs]; rfl
        rw [hs, hdt] at hlook
        rw [hnw]
        simp only [Option.getD_none] at hlook
        generalize (sec d.S j).1 = l at hrc hPg
        have hpa : (Try.prog.info? 68).map (·.size) = some (pa l).size := by rw [pa_size, hPg.1]; exact info68
        have hpz : (Try.prog.info? 68).map (·.size) = some (pa zp).size := by rw [pa_size]; exact info68
        obtain ⟨v0, Hv0⟩ : ∃ v0, Hid (v0 = (w.alloc (.cells Try.zeroCells68 68)).setRow w.heap.size (pa zp)) := ⟨_, ⟨rfl⟩⟩
        have hv0 : v0.heap[w.heap.size]? = some (.cells (pa zp) 68 (0, 0)) := by rw [Hv0.out]; exact setRow_heap _ _ _ _ 68 (0, 0) (heap_alloc_new w _)
        have HB0 : Hid (Below w.heap.size w v0) := ⟨by rw [Hv0.out]; exact below_setRow' hb1 (Nat.le_refl _) _⟩
        have hrc0 : ∀ k v, (pc l)[k]? = some v → v0.cell? ⟨g, j * 128 + k, none⟩ = some v := fun k v hv => (HB0.out.cell (p := ⟨g, j * 128 + k, none⟩) hgl).trans (hrc k v hv)
        have d0 : v0.cell? ⟨p, 0, none⟩ = some (.slice (some ⟨g, 0, none⟩) N cap) := (HB0.out.cell (World.block_lt_of_cell? _ _ c0)).trans c0
        obtain ⟨v1, Hv1⟩ : ∃ v1, Hid (v1 = v0.setRow w.heap.size (pa l)) := ⟨_, ⟨rfl⟩⟩
        have hvar : v1.heap[w.heap.size]? = some (.cells (pa l) 68 (0, 0)) := by rw [Hv1.out]; exact setRow_heap _ _ _ _ 68 (0, 0) hv0
        have HB1 : Hid (Below w.heap.size w v1) := ⟨by rw [Hv1.out]; exact below_setRow' HB0.out (Nat.le_refl _) _⟩
        have hbs := var_bs hvar hPg
        clear hrc hok
        go_enter Try.func21, Try.ntmps21
        go_wp2_with (first
          | (go_at_call 33; refine t1.mono ?_; rintro e w' ⟨rfl, rfl⟩; clear t1)
          | (go_at_call 39; refine t2.mono ?_; rintro e w' ⟨rfl, rfl⟩; clear t2)
          | (refine wpList_store_row rfl 68 (.tmp 7) (.tmp 25) rfl w.heap.size (pa zp) rfl rfl 68 Try.zeroCells68 (heap_alloc_new w _) hpz (by rw [zc68]) (pa_one _) ?_; rw [← Hv0.out])
          | (refine wpList_load_page rfl 68 (.tmp 34) rfl g (j * 128) rfl l _ hrc0 Try.underlying68 rfl (by rw [hPg.1]; exact info68) ?_)
          | (refine wpList_store_row rfl 68 (.tmp 7) (.tmp 35) rfl w.heap.size (pa l) rfl rfl 68 (pa zp) hv0 hpa (by rw [pa_size, pa_size, hPg.1]; rfl) (pa_one _) ?_; rw [← Hv1.out])
          | (at_builtin; refine wp_appS (base := w.heap.size) rfl (.const (.slice none 0 0)) (.tmp 36) rfl rfl (own_nil _ _) rfl hbs (by have := hPg.1; simp; omega) (by have := HB1.out.size; omega) ?_; intro v' w' hv' hb'))
        go_ret2
        exact ⟨v', rfl, by simpa using hv', HB1.out.trans hb'⟩
    · rw [decide_eq_false hi] at t2
      simp only [hi, if_false]
      clear h
      go_enter Try.func21, Try.ntmps21
      go_wp2_with (first
        | (go_at_call 33; refine t1.mono ?_; rintro e w' ⟨rfl, rfl⟩; clear t1)
        | (go_at_call 39; refine t2.mono ?_; rintro e w' ⟨rfl, rfl⟩; clear t2))
      go_ret2
      exact ⟨_, rfl, own_nil _ _, Below.refl _ _⟩
end
end Go.Proofs.Ytmcikhdfpmkpnaa
