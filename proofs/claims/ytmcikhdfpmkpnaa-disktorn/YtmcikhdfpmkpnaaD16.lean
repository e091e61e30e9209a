/- slices.Clone of pages; package disk's Fork. -/
import Derived.Test.YtmcikhdfpmkpnaaD15
import Derived.Lib.SliceRun
namespace Go.Proofs.Ytmcikhdfpmkpnaa
open Go.RowKit Go.Maps Go.Sort Go.Shelf

theorem Rows.all {w : World} {g cap : Nat} {ps : List (List Int)} (h : Rows w g cap 68 ps) : ∀ j u, (fl ps)[j]? = some u → w.cell? ((⟨g, 0, none⟩ : Addr).add j) = some u := by
  intro j u hu
  obtain ⟨hp, cur, rest, hg, hc, _⟩ := h
  have hj : j < (fl ps).length := by
    rcases Nat.lt_or_ge j (fl ps).length with q | q
    · exact q
    · rw [List.getElem?_eq_none q] at hu; cases hu
  rw [add_plain, Nat.zero_add, cell_of_row w g j cur 68 (0, 0) hg, ← Array.getElem?_toList, hc, List.getElem?_append_left hj]
  exact hu
def Cloned (w : World) (ps : List (List Int)) (e : Ending) (w' : World) : Prop := ∃ g' cap', e = .returned (.slice (some ⟨g', 0, none⟩) ps.length cap') ∧ Rows w' g' cap' 68 ps ∧ w.heap.size ≤ g' ∧ Below w.heap.size w w'

set_option maxHeartbeats 1000000 in
set_option maxRecDepth 100000 in
theorem clonep_any {w : World} {g cap : Nat} {ps : List (List Int)} (h : Rows w g cap 68 ps) (hn : 1 ≤ ps.length) (hm : ps.length ≤ 4096) :
    Calls Try.prog 40 #[.slice (some ⟨g, 0, none⟩) ps.length cap] w (Cloned w ps) := by
  obtain ⟨i0, hi, hz0, hz1, hz2⟩ := info_parts' info68b
  have hb0 : Below w.heap.size w (w.alloc (.cells #[] 68)) := (Below.refl _ w).alloc (Nat.le_refl _) _
  have hown0 : (w.alloc (.cells #[] 68)).ownsRow w.heap.size 68 128 (.slice (some ⟨w.heap.size, 0, none⟩) 0 0) 0 [] := ⟨rfl, .inr ⟨w.heap.size, 0, #[], rfl, Nat.le_refl _, heap_alloc_new w _, Nat.le_refl _, by decide, rfl, rfl⟩⟩
  have hcell := (h.kept (w' := w.alloc (.cells #[] 68)) (heap_alloc_old _ _ _ h.lt)).all
  have hfl := fl_length h.1
  have HP : Hid (P128 ps) := ⟨h.1⟩
  have hone := fl_one ps
  obtain ⟨F, HF⟩ : ∃ F, Hid (F = fl ps) := ⟨_, ⟨rfl⟩⟩
  rw [← HF.out] at hcell hfl hone
  have HFL : Hid (F.length = ps.length * 128) := ⟨hfl⟩
  have HCL : Hid (∀ j u, F[j]? = some u → (w.alloc (.cells #[] 68)).cell? ((⟨g, 0, none⟩ : Addr).add j) = some u) := ⟨hcell⟩
  have HON : Hid (∀ u ∈ F, u.oneCell' = true) := ⟨hone⟩
  obtain ⟨n, Hn⟩ : ∃ n, Hid (ps.length = n) := ⟨_, ⟨rfl⟩⟩
  rw [Hn.out] at hn hm HFL ⊢
  have hq : ∀ W, (binOp .eql 60 (.slice (some ⟨g, 0, none⟩) n cap) (.slice none 0 0)).run Try.prog W = .ok (.bool false) W := fun W => by rw [Lib.run_eql_slice_nil W 60 68 _ _ _ _ _ Try.underlying60]; rfl
  clear h hcell hfl hone
  go_enter Try.func40, Try.ntmps40
  go_wp2_with (at_builtin; refine wpList_append_own _ rfl (.tmp 5) (.tmp 6) 60 rfl w.heap.size 68 i0 (.agg (pa zp)) 128 128 Try.underlying60 hi hz0 hz1 hz2 (by rw [show (Value.agg (pa zp)).cells = pa zp from rfl, pa_size]; rfl) (by decide) (.slice (some ⟨w.heap.size, 0, none⟩) 0 0) 0 [] rfl hown0 ⟨g, 0, none⟩ n cap F rfl HFL.out HCL.out HON.out (by unfold maxLen; omega) (by omega) (by simp) ?_; intro v' w' h1 h2 h3)
  go_ret
  have hbel : Below w.heap.size w w' := (hb0.trans ⟨h2.os, h2.tape, h2.output, h2.size, fun k hk => h2.block k (by simp; omega) (fun e => by simp only [Value.ownBlock, Option.some.injEq] at e; omega)⟩)
  rw [Nat.zero_add, List.nil_append] at h1
  rcases h1.2 with ⟨_, e0⟩ | ⟨g', cap', cur, rfl, hb', hh, r⟩
  · omega
  · rw [HF.out] at h1
    obtain ⟨hR, hgg⟩ := rows_of_owns h1 HP.out Hn.out
    exact ⟨g', cap', by rw [Hn.out]; rfl, hR, hgg, hbel⟩

/-- What a Fork leaves. -/
def Forked (w : World) (base : Nat) (d : Dk) (e : Ending) (w' : World) : Prop := ∃ p' g' bm', e = .returned (.pointer (some ⟨p', 0, none⟩)) ∧ At w' p' g' bm' base d ∧ w.heap.size ≤ p' ∧ w.heap.size ≤ g' ∧ w.heap.size ≤ bm' ∧ Below w.heap.size w w'

set_option maxHeartbeats 1000000 in
set_option maxRecDepth 100000 in
theorem fork_any {w : World} {p g bm base : Nat} {d : Dk} (h : At w p g bm base d) (hbs : base ≤ w.heap.size) (hn : 1 ≤ d.S.length) :
    Calls Try.prog 23 #[.pointer (some ⟨p, 0, none⟩)] w (Forked w base d) := by
  obtain ⟨cap, tc, n, D, h⟩ := h
  obtain ⟨c0, c1, c2, c3, c4⟩ := h.cells
  have HX : Hid (AtX w p g bm base cap tc n D d) := ⟨h⟩
  have hl1 := h.lt.1
  clear h
  have hb0 : Below w.heap.size w (w.alloc (.cells #[.slice (some ⟨g, 0, none⟩) d.S.length cap, .map (some bm), .int .i64 tc, .bool d.down, .int .i64 d.life] 63)) := (Below.refl _ w).alloc (Nat.le_refl _) _
  have hf0 : (w.alloc (.cells #[.slice (some ⟨g, 0, none⟩) d.S.length cap, .map (some bm), .int .i64 tc, .bool d.down, .int .i64 d.life] 63)).heap[w.heap.size]? = some (.cells #[.slice (some ⟨g, 0, none⟩) d.S.length cap, .map (some bm), .int .i64 tc, .bool d.down, .int .i64 d.life] 63 (0, 0)) := heap_alloc_new w _
  have hX0 := HX.out.below hb0
  have t1 := clonep_any hX0.rows (by simpa using hn) (by simpa using HX.out.len)
  rw [List.length_map] at t1
  have HL : Hid (w.heap.size < (w.alloc (.cells #[.slice (some ⟨g, 0, none⟩) d.S.length cap, .map (some bm), .int .i64 tc, .bool d.down, .int .i64 d.life] 63)).heap.size) := ⟨by simp⟩
  obtain ⟨W0, HW0⟩ : ∃ W0, Hid (W0 = w.alloc (.cells #[.slice (some ⟨g, 0, none⟩) d.S.length cap, .map (some bm), .int .i64 tc, .bool d.down, .int .i64 d.life] 63)) := ⟨_, ⟨rfl⟩⟩
  have HF : Hid (Below w.heap.size w W0 ∧ W0.heap[w.heap.size]? = some (.cells #[.slice (some ⟨g, 0, none⟩) d.S.length cap, .map (some bm), .int .i64 tc, .bool d.down, .int .i64 d.life] 63 (0, 0)) ∧ AtX W0 p g bm base cap tc n D d ∧ w.heap.size < W0.heap.size) := ⟨by rw [HW0.out]; exact ⟨hb0, hf0, hX0, HL.out⟩⟩
  clear hb0 hf0 hX0 HL
  rw [← HW0.out] at t1
  obtain ⟨N, hN⟩ : ∃ N, d.S.length = N := ⟨_, rfl⟩
  rw [hN] at c0 t1 HF HW0
  have next : ∀ w1 g' cap', Rows w1 g' cap' 68 (d.S.map (·.1)) → W0.heap.size ≤ g' → Below W0.heap.size W0 w1 → w1.cell? ⟨p, 1, none⟩ = some (.map (some bm)) ∧ w1.cell? ⟨w.heap.size, 0, none⟩ = some (.slice (some ⟨g, 0, none⟩) N cap) ∧ w1.frozen? ⟨w.heap.size, 0, none⟩ = false ∧ (w1.setCell ⟨w.heap.size, 0, none⟩ (.slice (some ⟨g', 0, none⟩) N cap')).cell? ⟨p, 1, none⟩ = some (.map (some bm)) ∧
      Calls Try.prog 41 #[.map (some bm)] (w1.setCell ⟨w.heap.size, 0, none⟩ (.slice (some ⟨g', 0, none⟩) N cap')) fun e w' => ∃ b', e = .returned (.map (some b')) ∧ w'.cell? ⟨w.heap.size, 1, none⟩ = some (.map (some bm)) ∧ w'.frozen? ⟨w.heap.size, 1, none⟩ = false ∧ At (w'.setCell ⟨w.heap.size, 1, none⟩ (.map (some b'))) w.heap.size g' b' base d ∧ w.heap.size ≤ b' ∧ Below w.heap.size w (w'.setCell ⟨w.heap.size, 1, none⟩ (.map (some b'))) := by
    intro w1 g' cap' hR hgg hb1
    obtain ⟨hb0, hf0, hX0, hls⟩ := HF.out
    have hX1 := hX0.below hb1
    have hf1 := (hb1.block _ hls).trans hf0
    have hps : p ≠ w.heap.size := by omega
    have hs1 := hb1.size
    have hX2 : AtX (w1.setCell ⟨w.heap.size, 0, none⟩ (.slice (some ⟨g', 0, none⟩) N cap')) p g bm base cap tc n D d := hX1.kept (heap_setCell_other _ _ _ _ hps) (heap_setCell_other _ _ _ _ (by show _ ≠ w.heap.size; have := HX.out.lt.2.1; omega)) (heap_setCell_other _ _ _ _ (by show _ ≠ w.heap.size; have := HX.out.lt.2.2; omega))
    have hf2 := heap_setCell_same w1 w.heap.size 0 _ 63 (.slice (some ⟨g', 0, none⟩) N cap') hf1
    have hR2 : Rows (w1.setCell ⟨w.heap.size, 0, none⟩ (.slice (some ⟨g', 0, none⟩) N cap')) g' cap' 68 (d.S.map (·.1)) := hR.kept (heap_setCell_other _ _ _ _ (by show _ ≠ w.heap.size; omega))
    refine ⟨hX1.cells.2.1, ?_, frozen_of_row _ _ _ _ 63 hf1, hX2.cells.2.1, ?_⟩
    · rw [cell_of_row _ _ _ _ _ _ hf1]; rfl
    refine (clone_any bm n D _ hX2.map).mono ?_
    rintro e w' ⟨rfl, hm', hb'⟩
    have hsz : (w1.setCell ⟨w.heap.size, 0, none⟩ (.slice (some ⟨g', 0, none⟩) N cap')).heap.size = w1.heap.size := by simp
    have hf3 := (hb'.block w.heap.size (by rw [hsz]; omega)).trans hf2
    have hR3 := hR2.kept (hb'.block g' hR2.lt)
    refine ⟨_, rfl, ?_, frozen_of_row _ _ _ _ 63 hf3, ⟨cap', tc, n, D, ?_, ?_, ?_, HX.out.drt, HX.out.ok, HX.out.len, HX.out.trip, HX.out.rng, hbs, by omega, by rw [hsz]; omega⟩, by rw [hsz]; omega, ?_⟩
    · rw [cell_of_row _ _ _ _ _ _ hf3]; rfl
    · rw [hN]; exact heap_setCell_same w' w.heap.size 1 _ 63 _ hf3
    · exact hR3.kept (heap_setCell_other _ _ _ _ (by show _ ≠ w.heap.size; omega))
    · obtain ⟨es, clock, hb, r⟩ := hm'
      exact ⟨es, clock, (heap_setCell_other _ _ _ _ (by rw [hsz]; show _ ≠ w.heap.size; omega)).trans hb, r⟩
    · have q : Below w.heap.size w (w1.setCell ⟨w.heap.size, 0, none⟩ (.slice (some ⟨g', 0, none⟩) N cap')) := (hb0.trans (hb1.mono (by omega))).setCell (Nat.le_refl _) _
      exact (q.trans (hb'.mono (by rw [hsz]; omega))).setCell (Nat.le_refl _) _
  have HN : Hid _ := ⟨next⟩
  have HG : Hid (w.heap.size < W0.heap.size) := ⟨HF.out.2.2.2⟩
  clear next HF
  go_enter Try.func23, Try.ntmps23
  go_wp2_with (first
    | (go_at_call 40; rw [← HW0.out]; refine t1.mono ?_; rintro e w1 hC; obtain ⟨g', cap', e1, hR, hgg, hb1⟩ := hC; rw [List.length_map, hN] at e1; subst e1; clear t1; have hq := HN.out w1 g' cap' hR hgg hb1; clear HN hR hb1; obtain ⟨d1, d2, d3, d4, t2⟩ := hq)
    | (go_at_call 41; refine t2.mono ?_; rintro e w2 ⟨b', rfl, k1, k2, hA, hb', hB⟩; have HA : Hid (At (w2.setCell ⟨w.heap.size, 1, none⟩ (.map (some b'))) w.heap.size g' b' base d ∧ w.heap.size ≤ b' ∧ Below w.heap.size w (w2.setCell ⟨w.heap.size, 1, none⟩ (.map (some b')))) := ⟨hA, hb', hB⟩; clear hA hB t2))
  go_ret
  exact ⟨w.heap.size, g', b', rfl, HA.out.1, Nat.le_refl _, by have := HG.out; omega, HA.out.2.1, HA.out.2.2⟩
end Go.Proofs.Ytmcikhdfpmkpnaa
