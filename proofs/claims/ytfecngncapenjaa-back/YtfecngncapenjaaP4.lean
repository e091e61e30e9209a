/- The document's way to write bits, and to count kinds (plain mathematics). -/
import Derived.Test.YtfecngncapenjaaP3
namespace Go.Proofs.Ytfecngncapenjaa

/-- What the document holds: bytes, a number, and how many bits it has. -/
abbrev DSt := List Int × Nat × Nat
def dst1 (s : DSt) (b : Nat) : DSt := if s.2.2 + 1 = 8 then (s.1 ++ [((2 * s.2.1 + b : Nat) : Int)], 0, 0) else (s.1, 2 * s.2.1 + b, s.2.2 + 1)
def dst (s : DSt) (bs : List Nat) : DSt := bs.foldl dst1 s
theorem dst_snoc (s : DSt) (a : List Nat) (b : Nat) : dst s (a ++ [b]) = dst1 (dst s a) b := by unfold dst; rw [List.foldl_append]; rfl
theorem dst_app (s : DSt) (a b : List Nat) : dst s (a ++ b) = dst (dst s a) b := List.foldl_append
/-- What is so of it. -/
structure DI (s : DSt) : Prop where
  few : s.2.2 ≤ 7
  low : s.2.1 < 2 ^ s.2.2
theorem DI.one {s : DSt} (h : DI s) {b : Nat} (hb : b < 2) : DI (dst1 s b) := by
  obtain ⟨o, n, k⟩ := s
  have h1 := h.few
  have h2 := h.low
  simp only at h1 h2
  unfold dst1
  by_cases e : k + 1 = 8
  · simp only [e, if_true]
    exact ⟨by simp, by simp⟩
  · simp only [e, if_false]
    refine ⟨by simp only; omega, ?_⟩
    simp only
    rw [Nat.pow_succ]
    omega
theorem DI.all : ∀ {bs : List Nat} {s : DSt}, DI s → (∀ b ∈ bs, b < 2) → DI (dst s bs)
  | [], _, h, _ => h
  | b :: r, _, h, hb => DI.all (bs := r) (h.one (hb b (by simp))) (fun c hc => hb c (by simp [hc]))
/-- The same as a writer's. -/
def toW (s : DSt) : WSt := if s.2.2 = 0 then (s.1, 0) else (s.1 ++ [((s.2.1 * 2 ^ (8 - s.2.2) : Nat) : Int)], 8 - s.2.2)
theorem set_lastA (o : List Int) (x y : Int) : (o ++ [x]).set ((o ++ [x]).length - 1) y = o ++ [y] := by
  rw [List.length_append, List.length_cons, List.length_nil, Nat.add_sub_cancel, List.set_append_right _ _ (Nat.le_refl _), Nat.sub_self]
  rfl
theorem get_lastA (o : List Int) (x : Int) : (o ++ [x]).getD ((o ++ [x]).length - 1) 0 = x := by
  rw [List.length_append, List.length_cons, List.length_nil, Nat.add_sub_cancel]
  simp [List.getD]
theorem toW_one {s : DSt} (h : DI s) (b : Nat) : toW (dst1 s b) = wst1 (toW s) b := by
  obtain ⟨o, n, k⟩ := s
  have h1 := h.few
  have h2 := h.low
  simp only at h1 h2
  have hk : k = 0 ∨ k = 7 ∨ (1 ≤ k ∧ k ≤ 6) := by omega
  rcases hk with rfl | rfl | ⟨k1, k2⟩
  · obtain rfl : n = 0 := by simpa using h2
    simp only [dst1, toW, wst1, wext, wput]
    simp only [Nat.reduceAdd, Nat.reduceEqDiff, if_false, if_true, Nat.reduceSub, set_lastA, get_lastA]
    simp
  · simp only [dst1, toW, wst1, wext, wput]
    simp only [Nat.reduceAdd, Nat.reduceEqDiff, if_false, if_true, Nat.reduceSub, set_lastA, get_lastA]
    have e : ((2 * n + b : Nat) : Int) = ((n * 2 ^ 1 : Nat) : Int) + ((b * 2 ^ 0 : Nat) : Int) := by omega
    simp only [e]
  · have e1 : ¬ k + 1 = 8 := by omega
    have e2 : ¬ k + 1 = 0 := by omega
    have e3 : ¬ k = 0 := by omega
    have e4 : ¬ 8 - k = 0 := by omega
    simp only [dst1, toW, wst1, wext, wput, if_neg e1, if_neg e2, if_neg e3, if_neg e4, set_lastA, get_lastA]
    have e5 : 8 - (k + 1) = 8 - k - 1 := by omega
    have e6 : 2 ^ (8 - k) = 2 * 2 ^ (8 - k - 1) := by rw [← Nat.pow_succ']; congr 1; omega
    rw [e5, e6]
    refine Prod.ext ?_ rfl
    simp only
    congr 2
    rw [← Int.natCast_add]
    congr 1
    rw [Nat.add_mul, Nat.mul_comm 2 n, Nat.mul_assoc]
theorem toW_all : ∀ {bs : List Nat} {s : DSt}, DI s → (∀ b ∈ bs, b < 2) → toW (dst s bs) = wst (toW s) bs
  | [], _, _, _ => rfl
  | b :: r, s, h, hb => by
    have := toW_all (bs := r) (h.one (hb b (by simp))) (fun c hc => hb c (by simp [hc]))
    show toW (dst (dst1 s b) r) = wst (wst1 (toW s) b) r
    rw [this, toW_one h]
theorem dst_len : ∀ (bs : List Nat) (s : DSt), (dst s bs).1.length ≤ s.1.length + bs.length
  | [], _ => Nat.le_refl _
  | b :: r, s => by
    have h1 := dst_len r (dst1 s b)
    have h2 : (dst1 s b).1.length ≤ s.1.length + 1 := by
      unfold dst1
      split <;> simp
    rw [List.length_cons]
    show (dst (dst1 s b) r).1.length ≤ _
    omega
/-- How many bytes are there. -/
def kd (f : List Int) : Nat → Nat
  | 0 => 0
  | k + 1 => kd f k + if 0 < f.getD k 0 then 1 else 0
theorem hdR_kd (f : List Int) : ∀ k, (hdR f k).length = 2 * kd f k
  | 0 => rfl
  | k + 1 => by
    rw [hdR, kd, List.length_append, hdR_kd f k]
    split <;> simp <;> omega
theorem kd_le (f : List Int) : ∀ k, kd f k ≤ k
  | 0 => Nat.le_refl _
  | k + 1 => by
    have := kd_le f k
    rw [kd]
    split <;> omega
theorem kd_same {f g : List Int} : ∀ k, (∀ i, i < k → (0 < f.getD i 0 ↔ 0 < g.getD i 0)) → kd f k = kd g k
  | 0, _ => rfl
  | k + 1, h => by
    rw [kd, kd, kd_same k (fun i hi => h i (by omega))]
    congr 1
    by_cases e : 0 < f.getD k 0
    · rw [if_pos e, if_pos ((h k (by omega)).1 e)]
    · rw [if_neg e, if_neg (fun e2 => e ((h k (by omega)).2 e2))]
theorem kd_set {f : List Int} {c : Nat} (hc : c < f.length) (h0 : 0 ≤ f.getD c 0) : ∀ k, kd (f.set c (f.getD c 0 + 1)) k = kd f k + if c < k ∧ f.getD c 0 = 0 then 1 else 0
  | 0 => by simp [kd]
  | k + 1 => by
    rw [kd, kd, kd_set hc h0 k, set_getD f c k _ hc]
    by_cases e : k = c
    · subst e
      have n1 : ¬ (k < k ∧ f.getD k 0 = 0) := by omega
      have n2 : 0 < f.getD k 0 + 1 := by omega
      simp only [n1, n2, if_true, if_false]
      by_cases e2 : f.getD k 0 = 0
      · have n4 : k < k + 1 ∧ f.getD k 0 = 0 := ⟨by omega, e2⟩
        simp only [n4, and_self, if_true]
        simp
      · have n3 : 0 < f.getD k 0 := by omega
        have n4 : ¬ (k < k + 1 ∧ f.getD k 0 = 0) := fun h => e2 h.2
        simp only [n3, n4, if_false, if_true]
    · have n1 : (c < k + 1 ∧ f.getD c 0 = 0) ↔ (c < k ∧ f.getD c 0 = 0) := ⟨fun h => ⟨by omega, h.2⟩, fun h => ⟨by omega, h.2⟩⟩
      simp only [e, if_false, n1]
      omega
theorem kd_zero : ∀ k, kd z0 k = 0
  | 0 => rfl
  | k + 1 => by rw [kd, kd_zero k, z0_get, if_neg (by omega)]
end Go.Proofs.Ytfecngncapenjaa
