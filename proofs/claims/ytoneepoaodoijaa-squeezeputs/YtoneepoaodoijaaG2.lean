/- The rows of a map of places: each has all former places of its key, in order; no two share a block. -/
import Derived.Test.YtoneepoaodoijaaG1
namespace Go.Proofs.Ytoneepoaodoijaa
open Go.RowKit Go.Lib

theorem Frm.other {p : List Int} {a : Nat} {K : List Int} {F : List Nat} (h : Frm p a K F) (hK : fo p a ≠ K) : Frm p (a + 1) K F :=
  ⟨h.rise, fun j => (h.mem j).trans ⟨fun ⟨h1, h2⟩ => ⟨by omega, h2⟩, fun ⟨h1, h2⟩ => ⟨by
    by_cases e : j = a
    · subst e; exact absurd h2 hK
    · omega, h2⟩⟩⟩
theorem Frm.snoc {p : List Int} {a : Nat} {F : List Nat} (h : Frm p a (fo p a) F) : Frm p (a + 1) (fo p a) (F ++ [a]) := by
  have hl : ∀ i, i < F.length → (F ++ [a]).getD i 0 = F.getD i 0 := fun i hi => by simp [List.getD, List.getElem?_append_left hi]
  have he : (F ++ [a]).getD F.length 0 = a := by simp [List.getD]
  have hL : (F ++ [a]).length = F.length + 1 := by simp
  refine ⟨fun i j hij hj => ?_, fun j => ⟨fun ⟨i, hi, e⟩ => ?_, fun ⟨h1, h2⟩ => ?_⟩⟩
  · rw [hL] at hj
    by_cases e : j = F.length
    · subst e
      rw [he, hl i hij]
      exact h.lt hij
    · rw [hl i (by omega), hl j (by omega)]
      exact h.rise i j hij (by omega)
  · rw [hL] at hi
    by_cases e2 : i = F.length
    · subst e2
      rw [he] at e
      subst e
      exact ⟨by omega, rfl⟩
    · rw [hl i (by omega)] at e
      have := (h.mem j).1 ⟨i, by omega, e⟩
      exact ⟨by omega, this.2⟩
  · by_cases e : j = a
    · subst e
      exact ⟨F.length, by rw [hL]; omega, he⟩
    · obtain ⟨i, hi, e2⟩ := (h.mem j).2 ⟨by omega, h2⟩
      exact ⟨i, by rw [hL]; omega, by rw [hl i hi]; exact e2⟩
theorem Frm.nil {p : List Int} {a : Nat} {K : List Int} (h : ∀ j, j < a → fo p j ≠ K) : Frm p a K [] :=
  ⟨fun i j _ hj => by simp at hj, fun j => ⟨fun ⟨i, hi, _⟩ => by simp at hi, fun ⟨h1, h2⟩ => absurd h2 (h j h1)⟩⟩
/-- All former places, by their four bytes. -/
structure StI (w : World) (base : Nat) (p : List Int) (a : Nat) (L : List Gr) : Prop where
  row : ∀ x ∈ L, OwnI w base x.2.2 (x.2.1.map Int.ofNat) ∧ Frm p a x.1 x.2.1 ∧ x.2.1.length ≤ a
  apart : ∀ (i j : Nat) (x y : Gr), i ≠ j → L[i]? = some x → L[j]? = some y → ∀ g ∈ ob x.2.2, g ∉ ob y.2.2
  dist : ∀ (i j : Nat) (x y : Gr), i ≠ j → L[i]? = some x → L[j]? = some y → x.1 ≠ y.1
  all : ∀ j, j < a → ∃ x ∈ L, x.1 = fo p j
theorem StI.none (w : World) (base : Nat) (p : List Int) : StI w base p 0 [] := ⟨fun x hx => by simp at hx, fun i j x y _ hx => by simp at hx, fun i j x y _ hx => by simp at hx, fun j hj => by omega⟩
theorem StI.stay {w w' : World} {base : Nat} {p : List Int} {a : Nat} {L : List Gr} (h : StI w base p a L) (hk : ∀ x ∈ L, ∀ g ∈ ob x.2.2, ∀ o, w.heap[g]? = some o → hard o = true → w'.heap[g]? = some o) : StI w' base p a L :=
  ⟨fun x hx => ⟨own_stay (h.row x hx).1 (fun g hg o ho => by
    obtain ⟨cs, hc⟩ := own_ty (h.row x hx).1 (mem_ob.1 hg)
    rw [hc] at ho
    cases ho
    exact hk x hx g hg _ hc rfl), (h.row x hx).2⟩, h.apart, h.dist, h.all⟩
theorem StI.lt {w : World} {base : Nat} {p : List Int} {a : Nat} {L : List Gr} (h : StI w base p a L) : ∀ x ∈ L, ∀ g ∈ ob x.2.2, base ≤ g ∧ g < w.heap.size := fun x hx g hg => (h.row x hx).1.lt g (mem_ob.1 hg)
theorem StI.look {w : World} {base : Nat} {p : List Int} {a : Nat} {L : List Gr} (h : StI w base p a L) : ∃ F, OwnI w base (((fndI L (fo p a) 0).map (·.2)).getD (.slice Option.none 0 0)) (F.map Int.ofNat) ∧ Frm p a (fo p a) F ∧ F.length ≤ a := by
  cases hq : fndI L (fo p a) 0 with
  | none =>
    refine ⟨[], by simpa using owni_nil w base, Frm.nil (fun j hj he => ?_), Nat.zero_le _⟩
    obtain ⟨x, hx, e⟩ := h.all j hj
    exact fndI_none hq x hx (e.trans he)
  | some r =>
    obtain ⟨j, v⟩ := r
    obtain ⟨k, x, _, h2, h3, h4⟩ := fndI_some hq
    have := h.row x (List.mem_of_getElem? h2)
    subst h4
    rw [h3] at this
    exact ⟨x.2.1, by simpa using this.1, this.2⟩
theorem StI.entry {w : World} {base : Nat} {p : List Int} {a : Nat} {L : List Gr} (h : StI w base p a L) (hn : ∀ y ∈ L, y.1 ≠ fo p a) : StI w base p a (L ++ [(fo p a, [], .slice Option.none 0 0)]) := by
  have get : ∀ i x, (L ++ [((fo p a, [], .slice Option.none 0 0) : Gr)])[i]? = some x → (L[i]? = some x) ∨ (i = L.length ∧ x = (fo p a, [], .slice Option.none 0 0)) := fun i x hx => by
    rcases Nat.lt_trichotomy i L.length with hi | hi | hi
    · rw [List.getElem?_append_left hi] at hx
      exact .inl hx
    · subst hi
      simp at hx
      exact .inr ⟨rfl, hx.symm⟩
    · rw [List.getElem?_eq_none (by simp; omega)] at hx
      cases hx
  refine ⟨fun x hx => ?_, fun i j x y hij hx hy g hg => ?_, fun i j x y hij hx hy => ?_, fun j hj => ?_⟩
  · rcases List.mem_append.1 hx with hx | hx
    · exact h.row x hx
    · simp only [List.mem_singleton] at hx
      subst hx
      refine ⟨owni_nil w base, Frm.nil (fun j hj he => ?_), Nat.zero_le _⟩
      obtain ⟨y, hy, e⟩ := h.all j hj
      exact hn y hy (e.trans he)
  · rcases get i x hx with hx | ⟨hi, rfl⟩
    · rcases get j y hy with hy | ⟨hj, rfl⟩
      · exact h.apart i j x y hij hx hy g hg
      · simp [ob, Value.ownBlock]
    · simp [ob, Value.ownBlock] at hg
  · rcases get i x hx with hx | ⟨hi, rfl⟩
    · rcases get j y hy with hy | ⟨hj, rfl⟩
      · exact h.dist i j x y hij hx hy
      · exact hn x (List.mem_of_getElem? hx)
    · rcases get j y hy with hy | ⟨hj, rfl⟩
      · exact fun e => hn y (List.mem_of_getElem? hy) e.symm
      · omega
  · obtain ⟨x, hx, e⟩ := h.all j hj
    exact ⟨x, List.mem_append_left _ hx, e⟩
theorem StI.put {w w' : World} {base : Nat} {p : List Int} {a : Nat} {L : List Gr} (h : StI w base p a L) {j : Nat} {x : Gr} {v : Value} (hx : L[j]? = some x) (hK : x.1 = fo p a) (ho : OwnI w' base v ((x.2.1 ++ [a]).map Int.ofNat)) (hc : Chg (ob x.2.2) w w') (hv : v.ownBlock = x.2.2.ownBlock ∨ ∃ g, v.ownBlock = some g ∧ w.heap.size ≤ g) :
    StI w' base p (a + 1) (L.set j (x.1, x.2.1 ++ [a], v)) := by
  have hj : j < L.length := (List.getElem?_eq_some_iff.1 hx).1
  have hxm := List.mem_of_getElem? hx
  have get : ∀ i y, (L.set j (x.1, x.2.1 ++ [a], v))[i]? = some y → (i ≠ j ∧ L[i]? = some y) ∨ (i = j ∧ y = (x.1, x.2.1 ++ [a], v)) := fun i y hy => by
    rw [List.getElem?_set] at hy
    by_cases e : j = i
    · subst e
      rw [if_pos rfl, if_pos hj] at hy
      cases hy
      exact .inr ⟨rfl, rfl⟩
    · rw [if_neg e] at hy
      exact .inl ⟨fun e' => e e'.symm, hy⟩
  refine ⟨fun y hy => ?_, fun i k y z hik hy hz g hg => ?_, fun i k y z hik hy hz => ?_, fun i hi => ?_⟩
  · obtain ⟨i, hi⟩ := List.mem_iff_getElem?.1 hy
    rcases get i y hi with ⟨hij, hi⟩ | ⟨_, rfl⟩
    · have hr := h.row y (List.mem_of_getElem? hi)
      exact ⟨own_far hr.1 hc (fun g hg => h.apart i j y x hij hi hx g (mem_ob.2 hg)), hr.2.1.other (by rw [← hK]; exact h.dist j i x y (fun e => hij e.symm) hx hi), by omega⟩
    · have hr := h.row x hxm
      refine ⟨ho, ?_, by simp; omega⟩
      rw [hK] at hr ⊢
      exact hr.2.1.snoc
  · rcases get i y hy with ⟨hij, hy⟩ | ⟨hi, rfl⟩
    · rcases get k z hz with ⟨hkj, hz⟩ | ⟨hk, rfl⟩
      · exact h.apart i k y z hik hy hz g hg
      · intro hm
        rcases hv with hv | ⟨g', hv, hg'⟩
        · exact h.apart i j y x hij hy hx g hg (mem_ob.2 (hv.symm.trans (mem_ob.1 hm)))
        · have := mem_ob.1 hm
          simp only at this
          rw [hv] at this
          cases this
          have := (h.lt y (List.mem_of_getElem? hy) _ hg).2
          omega
    · rcases get k z hz with ⟨hkj, hz⟩ | ⟨hk, rfl⟩
      · rcases hv with hv | ⟨g', hv, hg'⟩
        · exact h.apart j k x z (fun e => hkj e.symm) hx hz g (mem_ob.2 (hv.symm.trans (mem_ob.1 hg)))
        · intro hm
          have := mem_ob.1 hg
          simp only at this
          rw [hv] at this
          cases this
          have := (h.lt z (List.mem_of_getElem? hz) _ hm).2
          omega
      · omega
  · rcases get i y hy with ⟨hij, hy⟩ | ⟨hi, rfl⟩
    · rcases get k z hz with ⟨hkj, hz⟩ | ⟨hk, rfl⟩
      · exact h.dist i k y z hik hy hz
      · exact h.dist i j y x hij hy hx
    · rcases get k z hz with ⟨hkj, hz⟩ | ⟨hk, rfl⟩
      · exact h.dist j k x z (fun e => hkj e.symm) hx hz
      · omega
  · by_cases e : i = a
    · subst e
      exact ⟨(x.1, x.2.1 ++ [i], v), List.mem_of_getElem? (by rw [List.getElem?_set, if_pos rfl, if_pos hj] : (L.set j (x.1, x.2.1 ++ [i], v))[j]? = some (x.1, x.2.1 ++ [i], v)), hK⟩
    · obtain ⟨y, hy, e2⟩ := h.all i (by omega)
      obtain ⟨k, hk⟩ := List.mem_iff_getElem?.1 hy
      by_cases ek : j = k
      · subst ek
        rw [hx] at hk
        cases hk
        exact ⟨(x.1, x.2.1 ++ [a], v), List.mem_of_getElem? (by rw [List.getElem?_set, if_pos rfl, if_pos hj] : (L.set j (x.1, x.2.1 ++ [a], v))[j]? = some (x.1, x.2.1 ++ [a], v)), e2⟩
      · exact ⟨y, List.mem_of_getElem? (by rw [List.getElem?_set, if_neg ek]; exact hk : (L.set j (x.1, x.2.1 ++ [a], v))[k]? = some y), e2⟩
end Go.Proofs.Ytoneepoaodoijaa
