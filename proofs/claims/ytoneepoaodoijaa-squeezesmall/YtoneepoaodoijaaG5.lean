/- Bytes that are told as they are, to who hears pieces. -/
import Derived.Test.YtoneepoaodoijaaG4
import Derived.Test.YtoneepoaodoijaaZ5
namespace Go.Proofs.Ytoneepoaodoijaa
open Go.RowKit Go.Lib Go.Shelf Oct

/-- A piece, as it comes: where its bytes lie, how far, how many. -/
abbrev Yp := (Option Addr × Nat × Nat) × Nat × Nat
def encp (x : Yp) : Array Value := #[pcv x.1.1 x.1.2.1 x.1.2.2 x.2.1 x.2.2]
/-- The piece k of Put, as it comes. -/
def IsP (A : World) (p : List Int) (k : Nat) (x : Yp) : Prop := ∃ y, (pl0 p)[k]? = some y ∧ RdY A (.slice x.1.1 x.1.2.1 x.1.2.2) y.pl ∧ x.1.2.1 = y.pl.length ∧ x.2.1 = y.far ∧ x.2.2 = y.n
theorem Kg.putNew {keep : Nat → Obj → Prop} {A B : World} (h : Kg keep A B) {k : Nat} (hk : A.heap.size ≤ k) (o : Obj) : Kg keep A (B.putObj k o) := ⟨by simpa using h.1, fun i y hi hy => by
  have := (Array.getElem?_eq_some_iff.1 hi).1
  exact (World.putObj_heap_other (by omega)).trans (h.2 i y hi hy), h.same.1, h.same.2.1, h.same.2.2⟩
theorem Kg.chgNew {keep : Nat → Obj → Prop} {A B C : World} {X : List Nat} (h : Kg keep A B) (hc : Chg X B C) (hX : ∀ k ∈ X, A.heap.size ≤ k) : Kg keep A C := ⟨Nat.le_trans h.1 hc.size, fun i y hi hy => by
  have h1 := (Array.getElem?_eq_some_iff.1 hi).1
  have h2 := h.2 i y hi hy
  exact (hc.block i (Array.getElem?_eq_some_iff.1 h2).1 (fun hm => by have := hX i hm; omega)).trans h2, hc.os.trans h.same.1, hc.tape.trans h.same.2.1, hc.output.trans h.same.2.2⟩
/-- What the hearer may change of what is there now. -/
def Xw (N : Nat) (X : List Nat) (A : World) : List Nat := X ++ (List.range A.heap.size).filter (fun k => decide (N ≤ k) && !((A.heap[k]?).map hard).getD false)
theorem not_Xw {N : Nat} {X : List Nat} {A : World} {k : Nat} {o : Obj} (h : k ∉ Xw N X A) (ho : A.heap[k]? = some o) : k ∉ X ∧ (k < N ∨ hard o = true) := by
  unfold Xw at h
  rw [List.mem_append, not_or] at h
  refine ⟨h.1, ?_⟩
  have h2 := h.2
  rw [List.mem_filter] at h2
  rcases Nat.lt_or_ge k N with hn | hn
  · exact .inl hn
  · right
    cases hh : hard o with
    | true => rfl
    | false =>
      exfalso
      apply h2
      refine ⟨List.mem_range.2 (Array.getElem?_eq_some_iff.1 ho).1, ?_⟩
      rw [ho]
      simp [hn, hh]
theorem mem_Xw {N : Nat} {X : List Nat} {A : World} {k : Nat} (h : k ∈ Xw N X A) : k ∈ X ∨ (k < A.heap.size ∧ N ≤ k) := by
  unfold Xw at h
  rcases List.mem_append.1 h with h | h
  · exact .inl h
  · rw [List.mem_filter] at h
    refine .inr ⟨List.mem_range.1 h.1, ?_⟩
    have := h.2
    simp only [Bool.and_eq_true, decide_eq_true_eq] at this
    exact this.1
theorem tell_use (p : List Int) (l m b0 N : Nat) (X : List Nat) (J : List Yp → World → Prop) (hX : ∀ k ∈ X, k < b0) (hm : m ≤ b0)
    (hJb : ∀ pre A C, J pre A → Kc b0 A C → J pre C)
    (hY : ∀ pre x A, J pre A → IsP A p pre.length x → YieldAt Fence.wide 8 Try.prog l (encp x) A fun e C => e = .returned (.bool true) ∧ J (pre ++ [x]) C ∧ Kz m N X A C)
    (v : Value) (b : List Int) (xs : List Yp) (A0 : World) (hA0 : b0 ≤ A0.heap.size) (hJ : J xs A0) (hb : b.length ≤ 8192) (hv : RdY A0 v b) (hvN : 0 < b.length → ∀ k ∈ ob v, k < N ∧ k ∉ X)
    (hpl : ∀ i, i < cnk b.length → (pl0 p)[xs.length + i]? = some ⟨chk b i, 0, 0⟩) :
    CallsIn Fence.wide 10 Try.prog 25 #[v, .func (.yield l) #[] #[]] A0 fun e C => e = .returned (.bool true) ∧ ∃ ys, ys.length = xs.length + cnk b.length ∧ J ys C ∧ Kz m N X A0 C := by
  refine (tell25 v b l (A0.heap.size + 4) (Xw N X A0) (fun ys A => J (xs ++ ys.map (fun c => ((c, 0, 0) : Yp))) A ∧ Kz m N X A0 A) A0 hb hv ?_ ?_ rfl ?_ ?_ ?_ ?_ ?_).mono ?_
  · intro h0 k hk hm'
    have h1 := hvN h0 k hk
    rcases mem_Xw hm' with h | h
    · exact h1.2 h
    · omega
  · intro k hk
    rcases mem_Xw hk with h | h
    · have := hX k h; omega
    · exact h.1
  · rintro pre A C ⟨h1, h2⟩ hbl
    exact ⟨hJb _ _ _ h1 (Kg.below hbl), h2.trans (Kg.below hbl)⟩
  · rintro pre A k o ⟨h1, h2⟩ hk hx
    exact ⟨hJb _ _ _ h1 (Kc.putNon (by omega) hx), h2.putNew hk o⟩
  · rintro pre A C ⟨h1, h2⟩ ⟨cs, hcs⟩ hc
    refine ⟨hJb _ _ _ h1 (Kg.chg hc (fun k o ho hk hm' => ?_)), h2.chgNew hc (fun k hk => by simp at hk; omega)⟩
    simp at hm'
    subst hm'
    rw [hcs] at ho
    cases ho
    rcases hk with hk | hk
    · omega
    · cases hk
  · rintro pre x A ⟨h1, h2⟩ ⟨c1, c2, c3, c4, c5, c6⟩
    have hlen : (xs ++ pre.map (fun c => ((c, 0, 0) : Yp))).length = xs.length + pre.length := by simp
    have hI : IsP A p (xs ++ pre.map (fun c => ((c, 0, 0) : Yp))).length (x, 0, 0) := ⟨⟨chk b pre.length, 0, 0⟩, by rw [hlen]; exact hpl _ c3, c4, c5, rfl, rfl⟩
    obtain ⟨fn, tmps, assign, body, hy, hR⟩ := hY _ (x, 0, 0) A h1 hI
    refine ⟨fn, tmps, assign, body, hy, (roundIn_lev hR).mono ?_⟩
    rintro e C ⟨rfl, hJ2, hk2⟩
    refine ⟨rfl, ⟨?_, h2.trans hk2⟩, ⟨hk2.1, fun k hkN hkX => ?_⟩, hk2.from (by omega)⟩
    · rw [List.map_append, ← List.append_assoc]
      exact hJ2
    · rcases Nat.lt_or_ge k A0.heap.size with hlt | hge
      · have h0 : A0.heap[k]? = some A0.heap[k] := Array.getElem?_eq_getElem hlt
        have hA : A.heap[k]? = some A0.heap[k] := (c2.2 k hlt hkX).trans h0
        rw [hA]
        exact hk2.2 k _ hA (.inl (not_Xw hkX h0))
      · obtain ⟨o, ho, hh⟩ := c6 k hge hkN
        rw [ho]
        refine hk2.2 k o ho (.inl ⟨fun hm' => by have := hX k hm'; omega, .inr hh⟩)
  · intro A hbl _
    exact ⟨by simpa using hJb _ _ _ hJ (Kg.below hbl), Kg.below hbl⟩
  · rintro e C ⟨rfl, ys, hys, h1, h2⟩
    exact ⟨rfl, _, by simp [hys], h1, h2⟩
end Go.Proofs.Ytoneepoaodoijaa
