/- Package extent's cut, whole. -/
import Derived.Test.YtcmibcmndiplbabY10
import Derived.Test.YtcmibcmndiplbabX11
namespace Go.Proofs.Ytcmibcmndiplbab
open Go.RowKit Go.Lib Go.Shelf

theorem Own2.rowOf {w : World} {base b n cap : Nat} {l : List (Int × Int)} (h : Own2 w base 57 (.slice (some ⟨b, 0, none⟩) n cap) l) (h5 : l.length ≤ 100000) : base ≤ b ∧ ∃ C, RowOf w b l.length cap C l := by
  rcases h.2 with ⟨h', _⟩ | ⟨g', cap', cur, h', hb, hh, h1, h2, h3, h4⟩
  · simp at h'
  · simp only [Value.slice.injEq, Option.some.injEq, Addr.mk.injEq] at h'
    obtain ⟨⟨rfl, _, _⟩, rfl, rfl⟩ := h'
    exact ⟨hb, cur, hh, h3, h4, rfl, h1, h2, h5⟩
theorem RowOf.own {w : World} {base g n cap : Nat} {C : Array Value} {l : List (Int × Int)} (h : RowOf w g n cap C l) (hb : base ≤ g) : Own2 w base 57 (.slice (some ⟨g, 0, none⟩) l.length cap) l := by
  have := h.len
  subst this
  exact ⟨flat2_length l, .inr ⟨g, cap, C, rfl, hb, h.row, h.room, h.big, h.size, h.take⟩⟩
theorem RowOf.below {w w' : World} {g n cap : Nat} {C : Array Value} {l : List (Int × Int)} (h : RowOf w g n cap C l) (hb : Below w.heap.size w w') : RowOf w' g n cap C l := ⟨h.row.below hb, h.size, h.take, h.len, h.room, h.big, h.n5⟩

/-- What a call on a map leaves: it holds l', whichever row that lies in; nothing else that lay below base has turned. -/
def Maps (w : World) (p : Nat) (A B : Int) (base b : Nat) (l : List (Int × Int)) (w' : World) : Prop :=
  (∃ b' cap', MapAt w' p A B base b' cap' l ∧ (b' = b ∨ w.heap.size ≤ b')) ∧ Below base w w' ∧ ∀ k, k < w.heap.size → k ≠ p → k ≠ b → w'.heap[k]? = w.heap[k]?

set_option maxHeartbeats 4000000 in
set_option maxRecDepth 100000 in
theorem cut_any (A B x y : Int) (p b cap base i : Nat) (l : List (Int × Int)) (w : World) (hM : MapAt w p A B base b cap l) (hbs : base ≤ w.heap.size) (hi : i < l.length) (h5 : l.length ≤ 99000) :
    Calls Try.prog 30 #[.pointer (some ⟨p, 0, none⟩), .int .i64 i, .agg #[.int .i64 x, .int .i64 y]] w fun e w' => e = .returned (.tuple #[]) ∧ Maps w p A B base b (l.take i ++ ne2 ((l.getD i default).1, x) (y, (l.getD i default).2) ++ l.drop (i + 1)) w' := by
  obtain ⟨c0, c1, c2⟩ := cells_row hM.row
  have hsp := hM.spAt.2.2.2 i hi
  obtain ⟨hbb, C, hR⟩ := Own2.rowOf hM.own hM.caps
  have hpl : p < w.heap.size := (Array.getElem?_eq_some_iff.1 hM.row).1
  have hbl : b < w.heap.size := hR.row.lt
  obtain ⟨a, c, hac⟩ : ∃ a c, l.getD i default = (a, c) := ⟨_, _, rfl⟩
  rw [hac] at hsp
  have k0 := hsp.1
  have k1 := hsp.2
  simp only at k0 k1
  have np : p ≠ w.heap.size := by omega
  have nb : b ≠ w.heap.size := by omega
  have hpb := hM.ne
  have HM : Hid (MapAt w p A B base b cap l) := ⟨hM⟩
  have HR : Hid (RowOf w b l.length cap C l) := ⟨hR⟩
  obtain ⟨L', HL'⟩ : ∃ L', Hid (L' = l.take i ++ ne2 (a, x) (y, c) ++ l.drop (i + 1)) := ⟨_, ⟨rfl⟩⟩
  rw [hac]
  show Calls Try.prog 30 _ w fun e w' => e = .returned (.tuple #[]) ∧ Maps w p A B base b (l.take i ++ ne2 (a, x) (y, c) ++ l.drop (i + 1)) w'
  rw [← HL'.out]
  have hroom := hR.room
  have hn5 := hR.n5
  have hbig := hR.big
  unfold maxLen at hbig
  obtain ⟨n, hn⟩ : ∃ n, l.length = n := ⟨_, rfl⟩
  rw [hn] at c2 hi hroom hn5 h5
  have hsz : (w.alloc (.cells #[.int .i64 x, .int .i64 y] 57)).heap.size = w.heap.size + 1 := by simp
  have hrow : Row (((w.alloc (.cells #[.int .i64 x, .int .i64 y] 57)).alloc (.cells #[.int .i64 a, .int .i64 x, .int .i64 y, .int .i64 c] 57)).drew.drew) (w.heap.size + 1) #[.int .i64 a, .int .i64 x, .int .i64 y, .int .i64 c] := by
    have := heap_alloc_new (w.alloc (.cells #[.int .i64 x, .int .i64 y] 57)) (.cells #[.int .i64 a, .int .i64 x, .int .i64 y, .int .i64 c] 57)
    rw [hsz] at this
    exact this
  have HB : Hid (Below w.heap.size w (((w.alloc (.cells #[.int .i64 x, .int .i64 y] 57)).alloc (.cells #[.int .i64 a, .int .i64 x, .int .i64 y, .int .i64 c] 57)).drew.drew)) := ⟨((((Below.refl _ w).alloc (Nat.le_refl _) _).alloc (by simp) _).drew).drew⟩
  have hcon := del2_any (a, x) (y, c) (w.heap.size + 1) _ hrow
  have HN : Hid ((ne2 (a, x) (y, c)).length ≤ 2) := ⟨by unfold ne2; exact List.length_filter_le _ _⟩
  generalize hvs : ne2 (a, x) (y, c) = vs at hcon HL' HN
  have hii : (i : Int) < (n : Int) := by omega
  clear hrow hsz hsp hM hR hac c0 c1 hvs
  go_enter Try.func30, Try.ntmps30
  go_wp2
  go_region
  go_wp2
  refine wp_region_any (by kernel_rfl) ?_
  change wpAny _ _ _ _ _ _ _ (World.drew _)
  refine wpAny_take (i := 0) (v := .pointer (some ⟨p, 0, none⟩)) rfl (by kernel_rfl) (by kernel_rfl) (by kernel_rfl) (fun _ _ _ h => h) (Or.inl ⟨by kernel_rfl, fun _ => by kernel_rfl⟩) ?_
  refine wpAny_take (i := 1) (v := .pointer (some ⟨p, 0, none⟩)) rfl (by kernel_rfl) (by kernel_rfl) (by kernel_rfl) (fun _ _ _ h => h) (Or.inl ⟨by kernel_rfl, fun _ => by kernel_rfl⟩) ?_
  refine wpAny_take (i := 2) (v := .pointer (some ⟨p, 0, none⟩)) rfl (by kernel_rfl) (by kernel_rfl) (by kernel_rfl) (fun _ _ _ h => h) (Or.inl ⟨by kernel_rfl, fun wx => by go_simp⟩) ?_
  refine wpAny_take (i := 3) (v := .pointer (some ⟨p, 2, none⟩)) rfl (by kernel_rfl) (by kernel_rfl) (by kernel_rfl) (fun _ _ _ h => h) (Or.inl ⟨by kernel_rfl, fun wx => by go_simp⟩) ?_
  refine wpAny_take (i := 5) (v := .int .i64 (i : Int)) rfl (by kernel_rfl) (by kernel_rfl) (by kernel_rfl) (fun _ _ _ h => h) (Or.inl ⟨by kernel_rfl, fun _ => by kernel_rfl⟩) ?_
  refine wpAny_take (i := 6) (v := .int .i64 (i : Int)) rfl (by kernel_rfl) (by kernel_rfl) (by kernel_rfl) (fun _ _ _ h => h) (Or.inl ⟨by kernel_rfl, fun _ => by kernel_rfl⟩) ?_
  refine wpAny_take (i := 7) (v := .int .i64 ((i : Int) + 1)) rfl (by kernel_rfl) (by kernel_rfl) (by kernel_rfl) (fun _ _ _ h => h) (Or.inl ⟨by kernel_rfl, fun wx => by go_simp; rw [IntKind.wrap_i64]; omega⟩) ?_
  refine wpAny_take (i := 8) (v := .slice (some ⟨w.heap.size + 1, 0, none⟩) 2 2) rfl (by kernel_rfl) (by kernel_rfl) (by kernel_rfl) (fun _ _ _ h => h) (Or.inl ⟨by kernel_rfl, fun _ => by kernel_rfl⟩) ?_
  have d2 : (((w.alloc (.cells #[.int .i64 x, .int .i64 y] 57)).alloc (.cells #[.int .i64 a, .int .i64 x, .int .i64 y, .int .i64 c] 57)).drew.drew).cell? ⟨p, 2, none⟩ = some (.slice (some ⟨b, 0, none⟩) n cap) := (HB.out.cell (p := ⟨p, 2, none⟩) hpl).trans c2
  refine wpAny_ready (rs := [4, 9]) (by kernel_rfl) (by simp) (AllReady.cons rfl (fun K hK => ?_) (AllReady.cons rfl (fun K hK => ?_) AllReady.nil))
  · go_simp
    refine hK _ _ ?_
    clear hK
    refine wpAny_ready (rs := [9]) (by kernel_rfl) (by simp) (AllReady.cons rfl (fun K hK => ?_) AllReady.nil)
    go_simp
    refine hcon.mono ?_
    rintro e w2 ⟨Cv, rfl, hr2, hvs2, hsp2, hg2⟩
    have hb2 : Below w.heap.size w w2 := below_of_grown HB.out hg2 (by omega) (Nat.le_refl _)
    have s2 : w2.cell? ⟨p, 2, none⟩ = some (.slice (some ⟨b, 0, none⟩) n cap) := (hb2.cell (p := ⟨p, 2, none⟩) hpl).trans c2
    have hR2 : RowOf w2 b n cap C l := by have := HR.out.below hb2; rwa [hn] at this
    have hcon2 := replace_any b n cap (w.heap.size + 1) 2 i (i + 1) C l vs w2 hR2 Cv hsp2 hr2 hvs2 (by omega) (by omega) (by omega) (.inl (by omega)) (by have := HN.out; omega)
    rw [← HL'.out] at hcon2
    refine hK _ _ ?_
    clear hK
    refine wpAny_ready (rs := [10]) (by kernel_rfl) (by simp) (AllReady.cons rfl (fun K hK => ?_) AllReady.nil)
    go_simp
    refine hcon2.mono ?_
    rintro e w3 ⟨g', cap', C', rfl, hF3, hg3, hd3⟩
    have hpl2 : p < w2.heap.size := Nat.lt_of_lt_of_le hpl hb2.size
    have s3 : w3.cell? ⟨p, 2, none⟩ = some (.slice (some ⟨b, 0, none⟩) n cap) := hg3.cell s2 (by simp; omega)
    have hp3 : w3.heap[p]? = some (.cells #[.int .i64 A, .int .i64 B, .slice (some ⟨b, 0, none⟩) n cap] 62 (0, 0)) := by
      have e1 := hg3.block p hpl2 (by simp; omega)
      rw [e1, hb2.block p hpl, ← hn]
      exact HM.out.row
    have f3 : w3.frozen? ⟨p, 2, none⟩ = false := frozen_of_row w3 p 2 _ 62 hp3
    have HP3 : Hid (w3.heap[p]? = some (.cells #[.int .i64 A, .int .i64 B, .slice (some ⟨b, 0, none⟩) n cap] 62 (0, 0))) := ⟨hp3⟩
    have HF3 : Hid (RowOf w3 g' L'.length cap' C' L') := ⟨hF3⟩
    have hpg : p ≠ g' := by
      rcases hd3 with h | h
      · omega
      · omega
    have hbg : base ≤ g' := by
      rcases hd3 with h | h
      · omega
      · have := hb2.size; omega
    have HD3 : Hid (g' = b ∨ w.heap.size ≤ g') := ⟨by
      rcases hd3 with h | h
      · exact .inl h
      · exact .inr (Nat.le_trans hb2.size h)⟩
    have HK3 : Hid (∀ k, k < w.heap.size → k ≠ b → w3.heap[k]? = w.heap[k]?) := ⟨fun k hk hkb => (hg3.block k (Nat.lt_of_lt_of_le hk hb2.size) (by simpa using hkb)).trans (hb2.block k hk)⟩
    have hB3 : Hid (Below base w w3) := ⟨below_of_grown (hb2.mono hbs) hg3 hbb hbs⟩
    refine hK _ _ ?_
    clear hK hp3 hF3 hg3 hcon hcon2 hg2 hr2 hsp2 hR2
    refine wpAny_take (i := 11) (v := .pointer (some ⟨p, 0, none⟩)) rfl (by kernel_rfl) (by kernel_rfl) (by kernel_rfl) (fun _ _ _ h => h) (Or.inl ⟨by kernel_rfl, fun wx => by go_simp⟩) ?_
    refine wpAny_take (i := 12) (v := .pointer (some ⟨p, 2, none⟩)) rfl (by kernel_rfl) (by kernel_rfl) (by kernel_rfl) (fun _ _ _ h => h) (Or.inl ⟨by kernel_rfl, fun wx => by go_simp⟩) ?_
    refine wpAny_ready (rs := [13]) (by kernel_rfl) (by simp) (AllReady.cons rfl (fun K hK => ?_) AllReady.nil)
    go_simp
    refine hK _ _ ?_
    clear hK
    refine wpAny_done (by kernel_rfl) ?_ _
    go_wp2
    go_returns
    refine ⟨rfl, ⟨g', cap', ⟨cells_set3 HP3.out, ?_, HF3.out.n5, HM.out.pb, hpg⟩, HD3.out⟩, hB3.out.setCell HM.out.pb _, fun k hk hkp hkb => (heap_setCell_other w3 ⟨p, 2, none⟩ k _ hkp).trans (HK3.out k hk hkb)⟩
    have hF4 : RowOf (w3.setCell ⟨p, 2, none⟩ (.slice (some ⟨g', 0, none⟩) L'.length cap')) g' L'.length cap' C' L' := ⟨(heap_setCell_other w3 ⟨p, 2, none⟩ g' _ (Ne.symm hpg)).trans HF3.out.row, HF3.out.size, HF3.out.take, HF3.out.len, HF3.out.room, HF3.out.big, HF3.out.n5⟩
    exact hF4.own hbg
  · go_simp
    refine hcon.mono ?_
    rintro e w2 ⟨Cv, rfl, hr2, hvs2, hsp2, hg2⟩
    have hb2 : Below w.heap.size w w2 := below_of_grown HB.out hg2 (by omega) (Nat.le_refl _)
    have s2 : w2.cell? ⟨p, 2, none⟩ = some (.slice (some ⟨b, 0, none⟩) n cap) := (hb2.cell (p := ⟨p, 2, none⟩) hpl).trans c2
    have hR2 : RowOf w2 b n cap C l := by have := HR.out.below hb2; rwa [hn] at this
    have hcon2 := replace_any b n cap (w.heap.size + 1) 2 i (i + 1) C l vs w2 hR2 Cv hsp2 hr2 hvs2 (by omega) (by omega) (by omega) (.inl (by omega)) (by have := HN.out; omega)
    rw [← HL'.out] at hcon2
    refine hK _ _ ?_
    clear hK
    refine wpAny_ready (rs := [4]) (by kernel_rfl) (by simp) (AllReady.cons rfl (fun K hK => ?_) AllReady.nil)
    go_simp
    refine hK _ _ ?_
    clear hK
    refine wpAny_ready (rs := [10]) (by kernel_rfl) (by simp) (AllReady.cons rfl (fun K hK => ?_) AllReady.nil)
    go_simp
    refine hcon2.mono ?_
    rintro e w3 ⟨g', cap', C', rfl, hF3, hg3, hd3⟩
    have hpl2 : p < w2.heap.size := Nat.lt_of_lt_of_le hpl hb2.size
    have s3 : w3.cell? ⟨p, 2, none⟩ = some (.slice (some ⟨b, 0, none⟩) n cap) := hg3.cell s2 (by simp; omega)
    have hp3 : w3.heap[p]? = some (.cells #[.int .i64 A, .int .i64 B, .slice (some ⟨b, 0, none⟩) n cap] 62 (0, 0)) := by
      have e1 := hg3.block p hpl2 (by simp; omega)
      rw [e1, hb2.block p hpl, ← hn]
      exact HM.out.row
    have f3 : w3.frozen? ⟨p, 2, none⟩ = false := frozen_of_row w3 p 2 _ 62 hp3
    have HP3 : Hid (w3.heap[p]? = some (.cells #[.int .i64 A, .int .i64 B, .slice (some ⟨b, 0, none⟩) n cap] 62 (0, 0))) := ⟨hp3⟩
    have HF3 : Hid (RowOf w3 g' L'.length cap' C' L') := ⟨hF3⟩
    have hpg : p ≠ g' := by
      rcases hd3 with h | h
      · omega
      · omega
    have hbg : base ≤ g' := by
      rcases hd3 with h | h
      · omega
      · have := hb2.size; omega
    have HD3 : Hid (g' = b ∨ w.heap.size ≤ g') := ⟨by
      rcases hd3 with h | h
      · exact .inl h
      · exact .inr (Nat.le_trans hb2.size h)⟩
    have HK3 : Hid (∀ k, k < w.heap.size → k ≠ b → w3.heap[k]? = w.heap[k]?) := ⟨fun k hk hkb => (hg3.block k (Nat.lt_of_lt_of_le hk hb2.size) (by simpa using hkb)).trans (hb2.block k hk)⟩
    have hB3 : Hid (Below base w w3) := ⟨below_of_grown (hb2.mono hbs) hg3 hbb hbs⟩
    refine hK _ _ ?_
    clear hK hp3 hF3 hg3 hcon hcon2 hg2 hr2 hsp2 hR2
    refine wpAny_take (i := 11) (v := .pointer (some ⟨p, 0, none⟩)) rfl (by kernel_rfl) (by kernel_rfl) (by kernel_rfl) (fun _ _ _ h => h) (Or.inl ⟨by kernel_rfl, fun wx => by go_simp⟩) ?_
    refine wpAny_take (i := 12) (v := .pointer (some ⟨p, 2, none⟩)) rfl (by kernel_rfl) (by kernel_rfl) (by kernel_rfl) (fun _ _ _ h => h) (Or.inl ⟨by kernel_rfl, fun wx => by go_simp⟩) ?_
    refine wpAny_ready (rs := [13]) (by kernel_rfl) (by simp) (AllReady.cons rfl (fun K hK => ?_) AllReady.nil)
    go_simp
    refine hK _ _ ?_
    clear hK
    refine wpAny_done (by kernel_rfl) ?_ _
    go_wp2
    go_returns
    refine ⟨rfl, ⟨g', cap', ⟨cells_set3 HP3.out, ?_, HF3.out.n5, HM.out.pb, hpg⟩, HD3.out⟩, hB3.out.setCell HM.out.pb _, fun k hk hkp hkb => (heap_setCell_other w3 ⟨p, 2, none⟩ k _ hkp).trans (HK3.out k hk hkb)⟩
    have hF4 : RowOf (w3.setCell ⟨p, 2, none⟩ (.slice (some ⟨g', 0, none⟩) L'.length cap')) g' L'.length cap' C' L' := ⟨(heap_setCell_other w3 ⟨p, 2, none⟩ g' _ (Ne.symm hpg)).trans HF3.out.row, HF3.out.size, HF3.out.take, HF3.out.len, HF3.out.room, HF3.out.big, HF3.out.n5⟩
    exact hF4.own hbg
end Go.Proofs.Ytcmibcmndiplbab
