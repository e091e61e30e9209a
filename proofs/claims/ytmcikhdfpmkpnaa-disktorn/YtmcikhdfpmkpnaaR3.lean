/- The document's set. -/
import Derived.Test.YtmcikhdfpmkpnaaR2
namespace Go.Proofs.Ytmcikhdfpmkpnaa
open Go.RowKit Go.Maps Go.Sort Go.Shelf

theorem OwnP.slice {w : World} {base : Nat} {v : Value} {S : List Sec} (h : OwnP w base v S) (hn : 1 ≤ S.length) : ∃ g cap, v = .slice (some ⟨g, 0, none⟩) S.length cap ∧ base ≤ g ∧ g < w.heap.size := by
  rcases h.2 with ⟨_, h0⟩ | ⟨g, cap, cur, rfl, hb, hh, _⟩
  · omega
  · exact ⟨g, cap, rfl, hb, (Array.getElem?_eq_some_iff.1 hh).1⟩
theorem ownp_none (w : World) : OwnP (w.alloc (.cells #[] 54)) w.heap.size (.slice (some ⟨w.heap.size, 0, none⟩) 0 0) [] := ⟨rfl, .inr ⟨w.heap.size, 0, #[], rfl, Nat.le_refl _, heap_alloc_new w _, Nat.le_refl _, by decide, rfl, rfl⟩⟩
theorem OwnP.below {w w' : World} {base : Nat} {v : Value} {S : List Sec} (h : OwnP w base v S) (hb : Below w.heap.size w w') : OwnP w' base v S := owns_kept h (fun g hg => hb.block g (h.lt g hg).2)
theorem OwnP.mono {w : World} {base base' : Nat} {v : Value} {S : List Sec} (h : OwnP w base v S) (hb : base' ≤ base) : OwnP w base' v S := by
  refine ⟨h.1, ?_⟩
  rcases h.2 with hn | ⟨g, cap, cur, rfl, hb', r⟩
  · exact .inl hn
  · exact .inr ⟨g, cap, cur, rfl, by omega, r⟩

set_option maxHeartbeats 2000000 in
theorem set_any {w : World} {q base : Nat} {d : Dk} (h : Rf w q base d) (hbs : base ≤ w.heap.size) {i : Nat} (hi : i < d.S.length) (s : Sec) (hs : OkS s) :
    Calls Try.prog 53 #[.pointer (some ⟨q, 0, none⟩), .int .i64 (i : Int), .agg #[.string (strOfNums s.1), .string (strOfNums (s.2.getD [])), .bool s.2.isSome]] w fun e w' => e = .returned (.tuple #[]) ∧ Rf w' q base { d with S := d.S.set i s } ∧ Chg [q] w w' := by
  obtain ⟨v, ar, h⟩ := h
  obtain ⟨x1, Hx1⟩ : ∃ x1, Hid (strOfNums s.1 = x1) := ⟨_, ⟨rfl⟩⟩
  obtain ⟨x2, Hx2⟩ : ∃ x2, Hid (strOfNums (s.2.getD []) = x2) := ⟨_, ⟨rfl⟩⟩
  obtain ⟨x3, Hx3⟩ : ∃ x3, Hid (s.2.isSome = x3) := ⟨_, ⟨rfl⟩⟩
  rw [Hx1.out, Hx2.out, Hx3.out]
  have hb1 : Below w.heap.size w (w.alloc (.cells #[.string x1, .string x2, .bool x3] 54)) := (Below.refl _ w).alloc (Nat.le_refl _) _
  have hb2 : Below w.heap.size w ((w.alloc (.cells #[.string x1, .string x2, .bool x3] 54)).alloc (.cells #[] 54)) := hb1.alloc (by simp) _
  have hO := h.own.below hb2
  have HX : Hid (RfX w q base v ar d) := ⟨h⟩
  have hnone := ownp_none (w.alloc (.cells #[.string x1, .string x2, .bool x3] 54))
  rw [size_alloc] at hnone
  have hN := h.len
  have hql := h.lt
  obtain ⟨N, HN⟩ : ∃ N, Hid (d.S.length = N) := ⟨_, ⟨rfl⟩⟩
  have hiz : (i : Int) < (N : Int) := by have := HN.out; omega
  have hi0 : (0 : Int) ≤ (i : Int) := by omega
  obtain ⟨c0, _⟩ := (h.below hb2).cells
  have hnb : w.heap.size + 1 ≤ ((w.alloc (.cells #[.string x1, .string x2, .bool x3] 54)).alloc (.cells #[] 54)).heap.size := by simp
  have kp : ((w.alloc (.cells #[.string x1, .string x2, .bool x3] 54)).alloc (.cells #[] 54)).heap[w.heap.size]? = some (.cells #[.string x1, .string x2, .bool x3] 54 (0, 0)) := by
    rw [heap_alloc_old _ _ _ (by simp)]; exact heap_alloc_new w _
  have HK : Hid (∀ w', Below (w.heap.size + 1) ((w.alloc (.cells #[.string x1, .string x2, .bool x3] 54)).alloc (.cells #[] 54)) w' → Below w.heap.size w w' ∧ w'.heap[w.heap.size]? = some (.cells #[.string x1, .string x2, .bool x3] 54 (0, 0))) := ⟨fun w' hb => ⟨hb2.trans (hb.mono (by omega)), (hb.block _ (by omega)).trans kp⟩⟩
  obtain ⟨ao, cap, rfl, _⟩ := h.own.shape
  clear h kp hb1 hb2
  have next : ∀ w1 v', OwnP w1 (w.heap.size + 1) v' ([] ++ d.S) → Below w.heap.size w w1 → w1.heap[w.heap.size]? = some (.cells #[.string x1, .string x2, .bool x3] 54 (0, 0)) → ∃ g' cap' y0 y1 y2, v' = .slice (some ⟨g', 0, none⟩) N cap' ∧ w1.cell? ⟨w.heap.size, 0, none⟩ = some (.string x1) ∧ w1.cell? ⟨w.heap.size, 1, none⟩ = some (.string x2) ∧ w1.cell? ⟨w.heap.size, 2, none⟩ = some (.bool x3) ∧
      w1.cell? ⟨g', i * 3, none⟩ = some y0 ∧ w1.cell? ⟨g', i * 3 + 1, none⟩ = some y1 ∧ w1.cell? ⟨g', i * 3 + 2, none⟩ = some y2 ∧ w1.frozen? ⟨g', i * 3, none⟩ = false ∧ w1.frozen? ⟨g', i * 3 + 1, none⟩ = false ∧ w1.frozen? ⟨g', i * 3 + 2, none⟩ = false ∧ q ≠ g' ∧
      (((w1.setCell ⟨g', i * 3, none⟩ (.string x1)).setCell ⟨g', i * 3 + 1, none⟩ (.string x2)).setCell ⟨g', i * 3 + 2, none⟩ (.bool x3)).cell? ⟨q, 0, none⟩ = some (.slice ao N cap) ∧ (((w1.setCell ⟨g', i * 3, none⟩ (.string x1)).setCell ⟨g', i * 3 + 1, none⟩ (.string x2)).setCell ⟨g', i * 3 + 2, none⟩ (.bool x3)).frozen? ⟨q, 0, none⟩ = false ∧
      Hid (Rf ((((w1.setCell ⟨g', i * 3, none⟩ (.string x1)).setCell ⟨g', i * 3 + 1, none⟩ (.string x2)).setCell ⟨g', i * 3 + 2, none⟩ (.bool x3)).setCell ⟨q, 0, none⟩ (.slice (some ⟨g', 0, none⟩) N cap')) q base { d with S := d.S.set i s } ∧ Chg [q] w ((((w1.setCell ⟨g', i * 3, none⟩ (.string x1)).setCell ⟨g', i * 3 + 1, none⟩ (.string x2)).setCell ⟨g', i * 3 + 2, none⟩ (.bool x3)).setCell ⟨q, 0, none⟩ (.slice (some ⟨g', 0, none⟩) N cap'))) := by
    intro w1 v' hv' hbw hk1
    rw [List.nil_append] at hv'
    obtain ⟨g', cap', rfl, hg1, hg2⟩ := hv'.slice (by omega)
    obtain ⟨hst, hex, hfz⟩ := hv'.stored hi s
    rw [HN.out, Hx1.out, Hx2.out, Hx3.out] at hst
    obtain ⟨y0, e0⟩ := Option.isSome_iff_exists.1 (hex 0 (by omega))
    obtain ⟨y1, e1⟩ := Option.isSome_iff_exists.1 (hex 1 (by omega))
    obtain ⟨y2, e2⟩ := Option.isSome_iff_exists.1 (hex 2 (by omega))
    have hqg : q ≠ g' := by omega
    have hX1 := HX.out.below hbw
    have hX3 : RfX (((w1.setCell ⟨g', i * 3, none⟩ (.string x1)).setCell ⟨g', i * 3 + 1, none⟩ (.string x2)).setCell ⟨g', i * 3 + 2, none⟩ (.bool x3)) q base (.slice ao d.S.length cap) ar d := by
      have hv : ∀ z, (Value.slice ao d.S.length cap).ownBlock = some z → z ≠ g' := fun z hz => by have := (HX.out.vlt hz).2; omega
      exact ((hX1.kept (heap_setCell_other _ _ _ _ hqg) (fun z hz => heap_setCell_other _ _ _ _ (hv z hz))).kept (heap_setCell_other _ _ _ _ hqg) (fun z hz => heap_setCell_other _ _ _ _ (hv z hz))).kept (heap_setCell_other _ _ _ _ hqg) (fun z hz => heap_setCell_other _ _ _ _ (hv z hz))
    refine ⟨g', cap', y0, y1, y2, by rw [HN.out], ?_, ?_, ?_, by simpa using e0, e1, e2, hfz _, hfz _, hfz _, hqg, by have := hX3.cells.1; rw [HN.out] at this; exact this, hX3.frozen 0, ⟨?_, ?_⟩⟩
    · rw [cell_of_row _ _ _ _ _ _ hk1]; rfl
    · rw [cell_of_row _ _ _ _ _ _ hk1]; rfl
    · rw [cell_of_row _ _ _ _ _ _ hk1]; rfl
    · exact (hX3.setS (hst.mono (by omega)) (fun z hz => by simp [Value.ownBlock] at hz; omega) (ok_set HX.out.ok hs) (by simpa using hN)).rf
    · have hc : Chg [q] w w1 := Chg.ofBelow hbw
      exact (((hc.setCell (.inr (by show _ ≤ g'; omega)) _).setCell (.inr (by show _ ≤ g'; omega)) _).setCell (.inr (by show _ ≤ g'; omega)) _).setCell (.inl (by simp)) _
  have HNX : Hid _ := ⟨next⟩
  clear next
  go_enter Try.func53, Try.ntmps53
  go_wp2_with (at_builtin; refine wp_appSP rfl (.tmp 7) (.tmp 11) rfl rfl hnone rfl hO (by simp; omega) hnb ?_; intro v' w1 hv' hb'; obtain ⟨hbw, hk1⟩ := HK.out w1 hb'; clear HK hO hnone; have hnx := HNX.out w1 v' hv' hbw hk1; clear HNX hv' hbw hk1 hb'; obtain ⟨g', cap', y0, y1, y2, rfl, b0, b1, b2, e0, e1, e2, f0, f1, f2, hqg, d0, d1, HR⟩ := hnx)
  go_returns
  exact ⟨rfl, HR.out⟩
end Go.Proofs.Ytmcikhdfpmkpnaa
