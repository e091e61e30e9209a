/- Package extent's cut, of a map with one free span. -/
import Derived.Test.YtcmibcmndiplbabX10
import Derived.BigRegion
import Derived.Deep.RegionHeld3
namespace Go.Proofs.Ytcmibcmndiplbab
open Go.RowKit Go.Lib Go.Shelf

theorem own_row {w : World} {base b n cap : Nat} {e : TypeId} {l : List (Int × Int)} (h : Own2 w base e (.slice (some ⟨b, 0, none⟩) n cap) l) : ∃ cs, w.heap[b]? = some (.cells cs e (0, 0)) ∧ cs.size = cap * 2 ∧ cs.toList.take (l.length * 2) = flat2 l ∧ base ≤ b ∧ l.length ≤ cap := by
  rcases h.2 with ⟨h', _⟩ | ⟨g', cap', cur, h', hb, hh, h1, h2, h3, h4⟩
  · simp at h'
  · simp only [Value.slice.injEq, Option.some.injEq, Addr.mk.injEq] at h'
    obtain ⟨⟨rfl, _, _⟩, rfl, rfl⟩ := h'
    exact ⟨cur, hh, h3, h4, hb, h1⟩
theorem row_one {w : World} {base b : Nat} {x : Int × Int} (h : Own2 w base 57 (.slice (some ⟨b, 0, none⟩) 1 1) [x]) : Row w b #[.int .i64 x.1, .int .i64 x.2] := by
  obtain ⟨cs, h1, h2, h3, _, _⟩ := own_row h
  have e : cs = #[.int .i64 x.1, .int .i64 x.2] := by
    apply Array.toList_inj.1
    rw [← List.take_of_length_le (l := cs.toList) (i := [x].length * 2) (by simp [h2]), h3]
    rfl
  unfold Row; rw [h1, e]
theorem cells_set3 {w : World} {p : Nat} {c0 c1 c2 v : Value} {t : TypeId} (h : w.heap[p]? = some (.cells #[c0, c1, c2] t (0, 0))) : (w.setCell ⟨p, 2, none⟩ v).heap[p]? = some (.cells #[c0, c1, v] t (0, 0)) := heap_setCell_same w p 2 _ t v h

set_option maxHeartbeats 4000000 in
set_option maxRecDepth 100000 in
theorem cut_en (A B x y c : Int) (hd : (y == c) = false) (p b base : Nat) (w : World) (hM : MapAt w p A B base b 1 [(x, c)]) (hbs : base ≤ w.heap.size) :
    Calls Try.prog 30 #[.pointer (some ⟨p, 0, none⟩), .int .i64 0, .agg #[.int .i64 x, .int .i64 y]] w fun e w' => e = .returned (.tuple #[]) ∧ MapAt w' p A B base b 1 [(y, c)] ∧ Below base w w' := by
  obtain ⟨c0, c1, c2⟩ := cells_row hM.row
  have h : Row w b #[.int .i64 x, .int .i64 c] := row_one hM.own
  have k0 : w.cell? ⟨b, 0, none⟩ = some (.int .i64 x) := h.cell 0
  have k1 : w.cell? ⟨b, 1, none⟩ = some (.int .i64 c) := h.cell 1
  have hpl : p < w.heap.size := (Array.getElem?_eq_some_iff.1 hM.row).1
  have hbl := h.lt
  have np : p ≠ w.heap.size := by omega
  have nb : b ≠ w.heap.size := by omega
  have np1 : p ≠ w.heap.size + 1 := by omega
  have hpb := hM.ne
  have HM : Hid (MapAt w p A B base b 1 [(x, c)]) := ⟨hM⟩
  have HH : Hid (Row w b #[.int .i64 x, .int .i64 c]) := ⟨h⟩
  have hsz : (w.alloc (.cells #[.int .i64 x, .int .i64 y] 57)).heap.size = w.heap.size + 1 := by simp
  have hrow : Row (((w.alloc (.cells #[.int .i64 x, .int .i64 y] 57)).alloc (.cells #[.int .i64 x, .int .i64 x, .int .i64 y, .int .i64 c] 57)).drew.drew) (w.heap.size + 1) #[.int .i64 x, .int .i64 x, .int .i64 y, .int .i64 c] := by
    have := heap_alloc_new (w.alloc (.cells #[.int .i64 x, .int .i64 y] 57)) (.cells #[.int .i64 x, .int .i64 x, .int .i64 y, .int .i64 c] 57)
    rw [hsz] at this
    exact this
  have HB : Hid (Below w.heap.size w (((w.alloc (.cells #[.int .i64 x, .int .i64 y] 57)).alloc (.cells #[.int .i64 x, .int .i64 x, .int .i64 y, .int .i64 c] 57)).drew.drew)) := ⟨((((Below.refl _ w).alloc (Nat.le_refl _) _).alloc (by simp) _).drew).drew⟩
  have hcon := del_en x y c hd (w.heap.size + 1) _ hrow
  clear hrow hsz h hM
  go_enter Try.func30, Try.ntmps30
  go_wp2
  go_region
  go_wp2
  refine wp_region_held_drew (S := fun w' => w'.cell? ⟨p, 2, none⟩ = some (.slice (some ⟨b, 0, none⟩) 1 1)) (by kernel_rfl) ((HB.out.cell (p := ⟨p, 2, none⟩) hpl).trans c2) (fun hS => ?_)
  refine wpAnyH_take (i := 0) (v := .pointer (some ⟨p, 0, none⟩)) rfl (by kernel_rfl) (by kernel_rfl) (by kernel_rfl) (fun _ _ _ h => h) (Or.inl ⟨by kernel_rfl, fun _ _ => by kernel_rfl⟩) hS ?_
  refine wpAnyH_take (i := 1) (v := .pointer (some ⟨p, 0, none⟩)) rfl (by kernel_rfl) (by kernel_rfl) (by kernel_rfl) (fun _ _ _ h => h) (Or.inl ⟨by kernel_rfl, fun _ _ => by kernel_rfl⟩) hS ?_
  refine wpAnyH_take (i := 2) (v := .pointer (some ⟨p, 0, none⟩)) rfl (by kernel_rfl) (by kernel_rfl) (by kernel_rfl) (fun _ _ _ h => h) (Or.inl ⟨by kernel_rfl, fun wx hx => by go_simp⟩) hS ?_
  refine wpAnyH_take (i := 3) (v := .pointer (some ⟨p, 2, none⟩)) rfl (by kernel_rfl) (by kernel_rfl) (by kernel_rfl) (fun _ _ _ h => h) (Or.inl ⟨by kernel_rfl, fun wx hx => by go_simp⟩) hS ?_
  refine wpAnyH_take (i := 4) (v := .slice (some ⟨b, 0, none⟩) 1 1) rfl (by kernel_rfl) (by kernel_rfl) (by kernel_rfl) (fun _ _ _ h => h) (Or.inl ⟨by kernel_rfl, fun wx hx => by have hx1 := hx; go_simp⟩) hS ?_
  refine wpAnyH_take (i := 5) (v := .int .i64 0) rfl (by kernel_rfl) (by kernel_rfl) (by kernel_rfl) (fun _ _ _ h => h) (Or.inl ⟨by kernel_rfl, fun _ _ => by kernel_rfl⟩) hS ?_
  refine wpAnyH_take (i := 6) (v := .int .i64 0) rfl (by kernel_rfl) (by kernel_rfl) (by kernel_rfl) (fun _ _ _ h => h) (Or.inl ⟨by kernel_rfl, fun _ _ => by kernel_rfl⟩) hS ?_
  refine wpAnyH_take (i := 7) (v := .int .i64 1) rfl (by kernel_rfl) (by kernel_rfl) (by kernel_rfl) (fun _ _ _ h => h) (Or.inl ⟨by kernel_rfl, fun wx _ => by go_simp; rfl⟩) hS ?_
  refine wpAnyH_take (i := 8) (v := .slice (some ⟨w.heap.size + 1, 0, none⟩) 2 2) rfl (by kernel_rfl) (by kernel_rfl) (by kernel_rfl) (fun _ _ _ h => h) (Or.inl ⟨by kernel_rfl, fun _ _ => by kernel_rfl⟩) hS ?_
  refine wpAnyH_ready (rs := [9]) (by kernel_rfl) (by simp) (AllReadyH.cons rfl (fun K hK => ?_) AllReadyH.nil)
  go_simp
  refine hcon.mono ?_
  rintro e w2 ⟨rfl, hr2, hg2⟩
  have hb2 : Below w.heap.size w w2 := below_of_grown HB.out hg2 (by omega) (Nat.le_refl _)
  have s2 : w2.cell? ⟨p, 2, none⟩ = some (.slice (some ⟨b, 0, none⟩) 1 1) := (hb2.cell (p := ⟨p, 2, none⟩) hpl).trans c2
  have hR2 : Row w2 b #[.int .i64 x, .int .i64 c] := HH.out.below hb2
  have hcon2 := replace_1 x c y c b (w.heap.size + 1) _ _ w2 hR2 hr2 (by omega)
  refine hK.out _ _ s2 (fun hS => ?_)
  clear hK
  refine wpAnyH_ready (rs := [10]) (by kernel_rfl) (by simp) (AllReadyH.cons rfl (fun K hK => ?_) AllReadyH.nil)
  go_simp
  refine hcon2.mono ?_
  rintro e w3 ⟨rfl, hr3, hg3⟩
  have s3 : w3.cell? ⟨p, 2, none⟩ = some (.slice (some ⟨b, 0, none⟩) 1 1) := hg3.cell s2 (by simp; omega)
  have hp3 : w3.heap[p]? = some (.cells #[.int .i64 A, .int .i64 B, .slice (some ⟨b, 0, none⟩) 1 1] 62 (0, 0)) := by
    have e1 := hg3.block p (Nat.lt_of_lt_of_le hpl hb2.size) (by simp; omega)
    rw [e1, hb2.block p hpl]
    exact HM.out.row
  have f3 : w3.frozen? ⟨p, 2, none⟩ = false := frozen_of_row w3 p 2 _ 62 hp3
  have HP3 : Hid (w3.heap[p]? = some (.cells #[.int .i64 A, .int .i64 B, .slice (some ⟨b, 0, none⟩) 1 1] 62 (0, 0))) := ⟨hp3⟩
  have HR3 : Hid (Row w3 b #[.int .i64 y, .int .i64 c]) := ⟨hr3⟩
  have hob := (own_row HM.out.own)
  obtain ⟨_, _, _, _, hbb, _⟩ := hob
  have hB3 : Hid (Below base w w3) := ⟨below_of_grown (hb2.mono hbs) hg3 hbb hbs⟩
  refine hK.out _ _ s3 (fun hS => ?_)
  clear hK hp3 hr3 hg3 hcon hcon2 hg2 hr2
  refine wpAnyH_take (i := 11) (v := .pointer (some ⟨p, 0, none⟩)) rfl (by kernel_rfl) (by kernel_rfl) (by kernel_rfl) (fun _ _ _ h => h) (Or.inl ⟨by kernel_rfl, fun wx _ => by go_simp⟩) hS ?_
  refine wpAnyH_take (i := 12) (v := .pointer (some ⟨p, 2, none⟩)) rfl (by kernel_rfl) (by kernel_rfl) (by kernel_rfl) (fun _ _ _ h => h) (Or.inl ⟨by kernel_rfl, fun wx _ => by go_simp⟩) hS ?_
  refine wpAnyH_ready (rs := [13]) (by kernel_rfl) (by simp) (AllReadyH.cons rfl (fun K hK => ?_) AllReadyH.nil)
  go_simp
  refine hK.out _ _ ?_ (fun hS => ?_)
  · exact (cells_row (cells_set3 HP3.out)).2.2
  clear hK
  refine wpAnyH_done (by kernel_rfl) ?_ _
  go_wp2
  go_returns
  refine ⟨rfl, ⟨cells_set3 HP3.out, ?_, by simp, HM.out.pb, HM.out.ne⟩, hB3.out.setCell HM.out.pb _⟩
  exact Row.own ((heap_setCell_other w3 ⟨p, 2, none⟩ b _ (Ne.symm HM.out.ne)).trans HR3.out) hbb rfl (Nat.le_refl _) (by decide) rfl

set_option maxHeartbeats 4000000 in
set_option maxRecDepth 100000 in
theorem cut_ne (A B a c x : Int) (ha : (a == x) = false) (p b base : Nat) (w : World) (hM : MapAt w p A B base b 1 [(a, c)]) (hbs : base ≤ w.heap.size) :
    Calls Try.prog 30 #[.pointer (some ⟨p, 0, none⟩), .int .i64 0, .agg #[.int .i64 x, .int .i64 c]] w fun e w' => e = .returned (.tuple #[]) ∧ MapAt w' p A B base b 1 [(a, x)] ∧ Below base w w' := by
  obtain ⟨c0, c1, c2⟩ := cells_row hM.row
  have h : Row w b #[.int .i64 a, .int .i64 c] := row_one hM.own
  have k0 : w.cell? ⟨b, 0, none⟩ = some (.int .i64 a) := h.cell 0
  have k1 : w.cell? ⟨b, 1, none⟩ = some (.int .i64 c) := h.cell 1
  have hpl : p < w.heap.size := (Array.getElem?_eq_some_iff.1 hM.row).1
  have hbl := h.lt
  have np : p ≠ w.heap.size := by omega
  have nb : b ≠ w.heap.size := by omega
  have np1 : p ≠ w.heap.size + 1 := by omega
  have hpb := hM.ne
  have HM : Hid (MapAt w p A B base b 1 [(a, c)]) := ⟨hM⟩
  have HH : Hid (Row w b #[.int .i64 a, .int .i64 c]) := ⟨h⟩
  have hsz : (w.alloc (.cells #[.int .i64 x, .int .i64 c] 57)).heap.size = w.heap.size + 1 := by simp
  have hrow : Row (((w.alloc (.cells #[.int .i64 x, .int .i64 c] 57)).alloc (.cells #[.int .i64 a, .int .i64 x, .int .i64 c, .int .i64 c] 57)).drew.drew) (w.heap.size + 1) #[.int .i64 a, .int .i64 x, .int .i64 c, .int .i64 c] := by
    have := heap_alloc_new (w.alloc (.cells #[.int .i64 x, .int .i64 c] 57)) (.cells #[.int .i64 a, .int .i64 x, .int .i64 c, .int .i64 c] 57)
    rw [hsz] at this
    exact this
  have HB : Hid (Below w.heap.size w (((w.alloc (.cells #[.int .i64 x, .int .i64 c] 57)).alloc (.cells #[.int .i64 a, .int .i64 x, .int .i64 c, .int .i64 c] 57)).drew.drew)) := ⟨((((Below.refl _ w).alloc (Nat.le_refl _) _).alloc (by simp) _).drew).drew⟩
  have hcon := del_ne a x c ha (w.heap.size + 1) _ hrow
  clear hrow hsz h hM
  go_enter Try.func30, Try.ntmps30
  go_wp2
  go_region
  go_wp2
  refine wp_region_held_drew (S := fun w' => w'.cell? ⟨p, 2, none⟩ = some (.slice (some ⟨b, 0, none⟩) 1 1)) (by kernel_rfl) ((HB.out.cell (p := ⟨p, 2, none⟩) hpl).trans c2) (fun hS => ?_)
  refine wpAnyH_take (i := 0) (v := .pointer (some ⟨p, 0, none⟩)) rfl (by kernel_rfl) (by kernel_rfl) (by kernel_rfl) (fun _ _ _ h => h) (Or.inl ⟨by kernel_rfl, fun _ _ => by kernel_rfl⟩) hS ?_
  refine wpAnyH_take (i := 1) (v := .pointer (some ⟨p, 0, none⟩)) rfl (by kernel_rfl) (by kernel_rfl) (by kernel_rfl) (fun _ _ _ h => h) (Or.inl ⟨by kernel_rfl, fun _ _ => by kernel_rfl⟩) hS ?_
  refine wpAnyH_take (i := 2) (v := .pointer (some ⟨p, 0, none⟩)) rfl (by kernel_rfl) (by kernel_rfl) (by kernel_rfl) (fun _ _ _ h => h) (Or.inl ⟨by kernel_rfl, fun wx hx => by go_simp⟩) hS ?_
  refine wpAnyH_take (i := 3) (v := .pointer (some ⟨p, 2, none⟩)) rfl (by kernel_rfl) (by kernel_rfl) (by kernel_rfl) (fun _ _ _ h => h) (Or.inl ⟨by kernel_rfl, fun wx hx => by go_simp⟩) hS ?_
  refine wpAnyH_take (i := 4) (v := .slice (some ⟨b, 0, none⟩) 1 1) rfl (by kernel_rfl) (by kernel_rfl) (by kernel_rfl) (fun _ _ _ h => h) (Or.inl ⟨by kernel_rfl, fun wx hx => by have hx1 := hx; go_simp⟩) hS ?_
  refine wpAnyH_take (i := 5) (v := .int .i64 0) rfl (by kernel_rfl) (by kernel_rfl) (by kernel_rfl) (fun _ _ _ h => h) (Or.inl ⟨by kernel_rfl, fun _ _ => by kernel_rfl⟩) hS ?_
  refine wpAnyH_take (i := 6) (v := .int .i64 0) rfl (by kernel_rfl) (by kernel_rfl) (by kernel_rfl) (fun _ _ _ h => h) (Or.inl ⟨by kernel_rfl, fun _ _ => by kernel_rfl⟩) hS ?_
  refine wpAnyH_take (i := 7) (v := .int .i64 1) rfl (by kernel_rfl) (by kernel_rfl) (by kernel_rfl) (fun _ _ _ h => h) (Or.inl ⟨by kernel_rfl, fun wx _ => by go_simp; rfl⟩) hS ?_
  refine wpAnyH_take (i := 8) (v := .slice (some ⟨w.heap.size + 1, 0, none⟩) 2 2) rfl (by kernel_rfl) (by kernel_rfl) (by kernel_rfl) (fun _ _ _ h => h) (Or.inl ⟨by kernel_rfl, fun _ _ => by kernel_rfl⟩) hS ?_
  refine wpAnyH_ready (rs := [9]) (by kernel_rfl) (by simp) (AllReadyH.cons rfl (fun K hK => ?_) AllReadyH.nil)
  go_simp
  refine hcon.mono ?_
  rintro e w2 ⟨rfl, hr2, hg2⟩
  have hb2 : Below w.heap.size w w2 := below_of_grown HB.out hg2 (by omega) (Nat.le_refl _)
  have s2 : w2.cell? ⟨p, 2, none⟩ = some (.slice (some ⟨b, 0, none⟩) 1 1) := (hb2.cell (p := ⟨p, 2, none⟩) hpl).trans c2
  have hR2 : Row w2 b #[.int .i64 a, .int .i64 c] := HH.out.below hb2
  have hcon2 := replace_1 a c a x b (w.heap.size + 1) _ _ w2 hR2 hr2 (by omega)
  refine hK.out _ _ s2 (fun hS => ?_)
  clear hK
  refine wpAnyH_ready (rs := [10]) (by kernel_rfl) (by simp) (AllReadyH.cons rfl (fun K hK => ?_) AllReadyH.nil)
  go_simp
  refine hcon2.mono ?_
  rintro e w3 ⟨rfl, hr3, hg3⟩
  have s3 : w3.cell? ⟨p, 2, none⟩ = some (.slice (some ⟨b, 0, none⟩) 1 1) := hg3.cell s2 (by simp; omega)
  have hp3 : w3.heap[p]? = some (.cells #[.int .i64 A, .int .i64 B, .slice (some ⟨b, 0, none⟩) 1 1] 62 (0, 0)) := by
    have e1 := hg3.block p (Nat.lt_of_lt_of_le hpl hb2.size) (by simp; omega)
    rw [e1, hb2.block p hpl]
    exact HM.out.row
  have f3 : w3.frozen? ⟨p, 2, none⟩ = false := frozen_of_row w3 p 2 _ 62 hp3
  have HP3 : Hid (w3.heap[p]? = some (.cells #[.int .i64 A, .int .i64 B, .slice (some ⟨b, 0, none⟩) 1 1] 62 (0, 0))) := ⟨hp3⟩
  have HR3 : Hid (Row w3 b #[.int .i64 a, .int .i64 x]) := ⟨hr3⟩
  have hob := (own_row HM.out.own)
  obtain ⟨_, _, _, _, hbb, _⟩ := hob
  have hB3 : Hid (Below base w w3) := ⟨below_of_grown (hb2.mono hbs) hg3 hbb hbs⟩
  refine hK.out _ _ s3 (fun hS => ?_)
  clear hK hp3 hr3 hg3 hcon hcon2 hg2 hr2
  refine wpAnyH_take (i := 11) (v := .pointer (some ⟨p, 0, none⟩)) rfl (by kernel_rfl) (by kernel_rfl) (by kernel_rfl) (fun _ _ _ h => h) (Or.inl ⟨by kernel_rfl, fun wx _ => by go_simp⟩) hS ?_
  refine wpAnyH_take (i := 12) (v := .pointer (some ⟨p, 2, none⟩)) rfl (by kernel_rfl) (by kernel_rfl) (by kernel_rfl) (fun _ _ _ h => h) (Or.inl ⟨by kernel_rfl, fun wx _ => by go_simp⟩) hS ?_
  refine wpAnyH_ready (rs := [13]) (by kernel_rfl) (by simp) (AllReadyH.cons rfl (fun K hK => ?_) AllReadyH.nil)
  go_simp
  refine hK.out _ _ ?_ (fun hS => ?_)
  · exact (cells_row (cells_set3 HP3.out)).2.2
  clear hK
  refine wpAnyH_done (by kernel_rfl) ?_ _
  go_wp2
  go_returns
  refine ⟨rfl, ⟨cells_set3 HP3.out, ?_, by simp, HM.out.pb, HM.out.ne⟩, hB3.out.setCell HM.out.pb _⟩
  exact Row.own ((heap_setCell_other w3 ⟨p, 2, none⟩ b _ (Ne.symm HM.out.ne)).trans HR3.out) hbb rfl (Nat.le_refl _) (by decide) rfl
end Go.Proofs.Ytcmibcmndiplbab
