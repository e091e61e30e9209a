/- One byte of one shard is changed. -/
import Derived.Test.YtbdmbhpmbklaiaaY1
namespace Go.Proofs.Ytbdmbhpmbklaiaa
open Go.RowKit Go.Lib Go.Shelf Gf

/-- A shard's cells behind the change of one of them. -/
theorem rdG_stored {w : World} {g o n c : Nat} {l : List G} (h : RdG w (.slice (some ⟨g, o, none⟩) n c) l) {p : Nat} (hp : p < l.length) {cs : Array Value} (hg : w.heap[g]? = some (.cells cs 5 (0, 0))) (y : G) : RdG (w.setCell ⟨g, o + p, none⟩ (.int .u8 (gi y))) (.slice (some ⟨g, o, none⟩) n c) (l.set p y) := by
  have hcell := (h.at hp)
  obtain ⟨a, cap, e, h1, h2, h3, h4⟩ := h
  simp only [Value.slice.injEq] at e
  obtain ⟨rfl, rfl, rfl⟩ := e
  rw [yv_len, List.length_map] at h1 h4
  refine ⟨some ⟨g, o, none⟩, c, by rw [yv_len, yv_len, List.length_map, List.length_map, List.length_set], by rw [yv_len, List.length_map, List.length_set]; exact h1, h2, h3, fun x hx i hi => ?_⟩
  cases hx
  rw [yv_len, List.length_map, List.length_set] at hi
  have h5 := h4 _ rfl i hi
  rw [add_add] at h5 ⊢
  by_cases ei : p = i
  · subst ei
    have hs := heap_setCell_same w g (o + p) cs 5 (.int .u8 (gi y)) hg
    rw [cell_of_row _ _ _ _ _ _ hs]
    have hsz : o + p < cs.size := by
      have := h5
      rw [cell_of_row _ _ _ _ _ _ hg] at this
      have h6 : cs[o + p]? = some ((yv (l.map gi))[p]'(by rw [yv_len, List.length_map]; exact hp)) := by rw [this, List.getElem?_eq_getElem]
      exact (Array.getElem?_eq_some_iff.1 h6).1
    simp [yv, hsz, hi]
  · have hs := heap_setCell_same w g (o + p) cs 5 (.int .u8 (gi y)) hg
    rw [cell_of_row _ _ _ _ _ _ hs]
    rw [cell_of_row _ _ _ _ _ _ hg] at h5
    rw [Array.getElem?_setIfInBounds_ne (by omega), h5]
    simp [yv, List.getElem?_set_ne ei]
theorem OwnA.at {w : World} {lo hi base : Nat} {v : Value} {L : List Sd} (h : OwnA w lo hi base v L) {i : Nat} (hi' : i < L.length) (h0 : 0 < (sl (L.getD i none)).length) :
    ∃ gr c g o cs cn, v = .slice (some ⟨gr, 0, none⟩) L.length c ∧ w.cell? ⟨gr, i, none⟩ = some (.slice (some ⟨g, o, none⟩) (sl (L.getD i none)).length cn) ∧ w.heap[g]? = some (.cells cs 5 (0, 0)) ∧ lo ≤ g ∧
      (∀ j, j < (sl (L.getD i none)).length → w.cell? ⟨g, o + j, none⟩ = some (.int .u8 (gi ((sl (L.getD i none)).getD j 0)))) ∧
      ∀ (p : Nat) (y : G), p < (sl (L.getD i none)).length → RdR (w.setCell ⟨g, o + p, none⟩ (.int .u8 (gi y))) (0, 5) v (L.set i (some ((sl (L.getD i none)).set p y))) := by
  obtain ⟨vs, h1, h2, h3⟩ := h
  obtain ⟨u, hu, hs⟩ := h2.2 i hi'
  obtain ⟨g, o, cn, e, hcap, hat⟩ := hs.rd.at h0
  have hgu : g ∈ ob u := by rw [e]; simp [ob, Value.ownBlock]
  have hty : Ty w 5 g := by
    rcases hs.inn h0 g hgu with h | h
    · exact absurd h (Nat.not_lt_zero _)
    · exact h
  obtain ⟨cs, hcs⟩ := hty
  obtain ⟨a, c, ev, hc1, hc2, hc3, hcell⟩ := own_rd h1
  have hl := h2.1
  cases a with
  | none =>
    have := hc3 rfl
    rw [hl] at hc1
    omega
  | some ad =>
    have hgr : ∃ gr, ad = ⟨gr, 0, none⟩ := by
      rcases h1.2 with ⟨rfl, hn⟩ | ⟨gr, cap, cur, e2, _⟩
      · cases ev
      · rw [ev] at e2
        simp only [Value.slice.injEq, Option.some.injEq] at e2
        exact ⟨gr, e2.1⟩
    obtain ⟨gr, rfl⟩ := hgr
    have hci := hcell _ rfl i (by rw [hl]; exact hi')
    rw [add_add, Nat.zero_add, hu] at hci
    have hgne : gr ≠ g := fun e2 => by
      subst e2
      have h6 : Ty w 33 gr := own_ty h1 (by rw [ev]; rfl)
      exact (Ty.ne (⟨cs, hcs⟩ : Ty w 5 gr) h6 (by decide)) rfl
    refine ⟨gr, c, g, o, cs, cn, by rw [ev, hl], by rw [hci, e], hcs, (h3.2 u (List.mem_of_getElem? hu) g hgu).1, hat, fun p y hp => ?_⟩
    have hch := (Chg.refl [g] w).setCell (a := ⟨g, o + p, none⟩) (.inl (by simp)) (.int .u8 (gi y))
    refine ⟨vs, (own_rd h1).far hch (fun _ k hk => by rw [ev] at hk; simp [Value.ownBlock] at hk; simp; omega), by rw [List.length_set]; exact hl, fun j hj => ?_⟩
    rw [List.length_set] at hj
    by_cases eij : i = j
    · subst eij
      refine ⟨u, hu, ?_⟩
      rw [set_self hi']
      have hr := hs.rd
      rw [e] at hr
      have hst := rdG_stored hr hp hcs y
      obtain ⟨z, hz⟩ : ∃ z, w.heap[g]? = some z := ⟨_, hcs⟩
      refine ⟨⟨_, _, _, e, by simp⟩, by rw [e]; exact hst, fun _ k hk => .inr ?_⟩
      have hk2 : k = g := by rw [e] at hk; simp [ob, Value.ownBlock] at hk; exact hk
      subst hk2
      exact ⟨_, heap_setCell_same w k (o + p) cs 5 (.int .u8 (gi y)) hcs⟩
    · obtain ⟨u', hu', hs'⟩ := h2.2 j hj
      refine ⟨u', hu', ?_⟩
      rw [set_get eij]
      have hng : g ∉ ob u' := fun hm => by
        rcases Nat.lt_or_gt_of_ne eij with hlt | hlt
        · exact h3.1 i j u u' hlt hu hu' g hgu hm
        · exact h3.1 j i u' u hlt hu' hu g hm hgu
      refine ⟨hs'.sh, hs'.rd.far hch (fun _ k hk hm => by simp at hm; subst hm; exact hng hk), fun h0' k hk => (hs'.inn h0' k hk).imp id (fun ht => ht.chg hch (fun hm => by simp at hm; subst hm; exact hng hk))⟩
end Go.Proofs.Ytbdmbhpmbklaiaa
