/- Parts of rows; rows that rise are one. -/
import Derived.Test.YthohpbppfihoiaaMulti
namespace Go.Proofs.Ythohpbppfihoiaa
open Go.RowKit

variable {α : Type} {f : α → List Value} {k : Nat} {d : α} {w : World}
theorem RdE.take' {a : Option Addr} {n cap : Nat} {L : List α} (h : RdE f k d w (.slice a n cap) L) (hn : L.length = n) {j : Nat} (hj : j ≤ n) : RdE f k d w (.slice a j cap) (L.take j) := by
  obtain ⟨⟨a', c', e, h1, h2, h3⟩, hat, he⟩ := h
  cases e
  have hl : (L.take j).length = j := by rw [List.length_take]; omega
  refine ⟨⟨_, _, by rw [hl], by omega, h2, h3⟩, fun i hi => ?_, fun x hx => he x (List.mem_of_mem_take hx)⟩
  rw [hl] at hi
  obtain ⟨b, off, cp, e, hc⟩ := hat i (by omega)
  cases e
  refine ⟨b, off, _, by rw [hl], fun m hm => ?_⟩
  rw [hc m hm]
  simp [List.getD, hi]
theorem RdE.none' {a : Option Addr} {cap : Nat} (hc : cap ≤ maxLen) (ha : a = none → cap = 0) : RdE f k d w (.slice a 0 cap) [] := ⟨⟨_, _, rfl, Nat.zero_le _, hc, ha⟩, fun i hi => by simp at hi, by simp⟩
theorem RdE.drop' {b off n cap : Nat} {L : List α} (h : RdE f k d w (.slice (some ⟨b, off, none⟩) n cap) L) (hn : L.length = n) {j : Nat} (hj : j ≤ n) : RdE f k d w (.slice (some ⟨b, off + j * k, none⟩) (n - j) (cap - j)) (L.drop j) := by
  obtain ⟨⟨a', c', e, h1, h2, h3⟩, hat, he⟩ := h
  simp at e
  obtain ⟨rfl, _, rfl⟩ := e
  have hl : (L.drop j).length = n - j := by rw [List.length_drop]; omega
  refine ⟨⟨_, _, by rw [hl], by omega, by omega, by simp⟩, fun i hi => ?_, fun x hx => he x (List.mem_of_mem_drop hx)⟩
  rw [hl] at hi
  obtain ⟨b', off', cp, e, hc⟩ := hat (j + i) (by omega)
  simp at e
  obtain ⟨⟨rfl, rfl⟩, _, rfl⟩ := e
  refine ⟨b, _, _, by rw [hl], fun m hm => ?_⟩
  have := hc m hm
  rw [show off + (j + i) * k + m = off + j * k + i * k + m by rw [Nat.add_mul]; omega] at this
  rw [this]
  simp [List.getD, List.getElem?_drop]
/-- Two lists that rise by an order that is irreflexive and transitive, with the same members, are one. -/
theorem rise_one {r : α → α → Prop} (hi : ∀ x, ¬ r x x) (ht : ∀ x y z, r x y → r y z → r x z) : ∀ (A B : List α), A.Pairwise r → B.Pairwise r → (∀ x, x ∈ A ↔ x ∈ B) → A = B
  | [], [], _, _, _ => rfl
  | [], y :: B, _, _, h => by have := (h y).2 (by simp); simp at this
  | x :: A, [], _, _, h => by have := (h x).1 (by simp); simp at this
  | x :: A, y :: B, hA, hB, h => by
    rw [List.pairwise_cons] at hA hB
    have hxy : x = y := by
      have h1 := (h x).1 (by simp)
      have h2 := (h y).2 (by simp)
      rcases List.mem_cons.1 h1 with e | h1
      · exact e
      rcases List.mem_cons.1 h2 with e | h2
      · exact e.symm
      exact absurd (ht _ _ _ (hA.1 y h2) (hB.1 x h1)) (hi x)
    subst hxy
    have hm : ∀ z, z ∈ A ↔ z ∈ B := fun z => by
      have hz := h z
      simp only [List.mem_cons] at hz
      constructor
      · intro h1
        rcases hz.1 (.inr h1) with e | h2
        · subst e; exact absurd (hA.1 z h1) (hi z)
        · exact h2
      · intro h1
        rcases hz.2 (.inr h1) with e | h2
        · subst e; exact absurd (hB.1 z h1) (hi z)
        · exact h2
    rw [rise_one hi ht A B hA.2 hB.2 hm]
/-- Something laid in at its place. -/
theorem rise_in {r : α → α → Prop} {L : List α} {x : α} {j : Nat} (h : L.Pairwise r) (h1 : ∀ y ∈ L.take j, r y x) (h2 : ∀ y ∈ L.drop j, r x y) : (L.take j ++ [x] ++ L.drop j).Pairwise r := by
  have h0 := h
  rw [← List.take_append_drop j L, List.pairwise_append] at h0
  obtain ⟨ha, hb, hab⟩ := h0
  rw [List.append_assoc, List.pairwise_append]
  refine ⟨ha, ?_, ?_⟩
  · rw [List.singleton_append, List.pairwise_cons]
    exact ⟨h2, hb⟩
  · intro y hy z hz
    rw [List.singleton_append, List.mem_cons] at hz
    rcases hz with rfl | hz
    · exact h1 y hy
    · exact hab y hy z hz
theorem mem_in {L : List α} {x y : α} {j : Nat} : y ∈ L.take j ++ [x] ++ L.drop j ↔ y = x ∨ y ∈ L := by
  conv => rhs; rw [← List.take_append_drop j L]
  simp only [List.mem_append, List.mem_singleton]
  constructor
  · rintro ((h | h) | h) <;> simp [h]
  · rintro (h | h | h) <;> simp [h]
end Go.Proofs.Ythohpbppfihoiaa
