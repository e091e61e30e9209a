/- Plain mathematics of layer 1: what is taken is what was put. -/
import Derived.Test.YtiloclekhddkfaaS29
namespace Go.Proofs.Ytiloclekhddkfaa.Oct

theorem numB_take (r : List Int) (n : Nat) : ∀ (j m : Nat), j ≤ 7 → n * 128 ^ j ≤ 9007199254740991 → (0 < j → 0 < n) →
    tkGo j m (numB n ++ r) = (((m + n * 128 ^ j : Nat) : Int), (j : Int) + (numB n).length, 0) := by
  induction n using numB.induct with
  | case1 n h =>
    intro j m hj hn hp
    rw [numB_small n h, List.singleton_append, tkGo_last _ _ _ _ ?_ (by omega) (by omega)]
    · simp
    · rintro ⟨rfl, h15⟩
      omega
  | case2 n h ih =>
    intro j m hj hn hp
    have h7 : j < 7 := by
      rcases Nat.lt_or_ge j 7 with q | q
      · exact q
      · have : j = 7 := by omega
        subst this
        omega
    have e1 : n / 128 * 128 ^ (j + 1) ≤ n * 128 ^ j := by
      rw [Nat.pow_succ, Nat.mul_comm (128 ^ j), ← Nat.mul_assoc]
      exact Nat.mul_le_mul_right _ (by omega)
    rw [numB_big n h, List.cons_append, tkGo_more _ _ _ _ h7 (by omega), ih (j + 1) _ (by omega) (by omega) (by omega)]
    have e2 : (((n % 128 + 128 : Nat) : Int) % 128).toNat = n % 128 := by omega
    have e3 : n % 128 * 128 ^ j + n / 128 * 128 ^ (j + 1) = n * 128 ^ j := by
      rw [Nat.pow_succ, Nat.mul_comm (128 ^ j) 128, ← Nat.mul_assoc, ← Nat.add_mul]
      congr 1
      omega
    rw [e2, Nat.add_assoc, e3]
    simp only [List.length_cons, Prod.mk.injEq, true_and, and_true]
    omega

/-- TakeNum of Num, whatever stands around. -/
theorem tkNum_numB (ar r : List Int) (n : Nat) (h : n ≤ 9007199254740991) : tkNum (ar ++ numB n ++ r) ar.length = ((n : Int), (ar.length : Int) + (numB n).length, 0) := by
  rw [tkNum_in _ _ (by simp), List.append_assoc, List.drop_left, numB_take r n 0 0 (by omega) (by omega) (by omega)]
  simp [fin]

theorem take_numB (r : List Int) : ∀ (j m : Nat), j ≤ 7 → (∀ x ∈ r, 0 ≤ x ∧ x < 256) → (tkGo j m r).2.2 = 0 →
    ∃ z : Nat, (tkGo j m r).1 = ((m + z * 128 ^ j : Nat) : Int) ∧ numB z = r.take ((tkGo j m r).2.1.toNat - j) ∧ (0 < j → 0 < z) ∧ (j : Int) < (tkGo j m r).2.1 := by
  induction r with
  | nil => intro j m _ _ h; simp [tkGo] at h
  | cons x r ih =>
    intro j m hj hb h
    have hx := hb x (by simp)
    by_cases h1 : j = 7 ∧ 15 < x
    · rw [tkGo_lim _ _ _ _ h1] at h; simp at h
    · by_cases h2 : 128 ≤ x
      · have h7 : j < 7 := by omega
        rw [tkGo_more _ _ _ _ h7 h2] at h ⊢
        obtain ⟨z, e1, e2, e3, e4⟩ := ih (j + 1) _ (by omega) (fun y hy => hb y (by simp [hy])) h
        have hz := e3 (by omega)
        refine ⟨(x % 128).toNat + 128 * z, ?_, ?_, by omega, by omega⟩
        · rw [e1]
          congr 1
          rw [Nat.add_assoc]
          congr 1
          rw [Nat.add_mul, Nat.pow_succ, Nat.mul_comm (128 ^ j) 128, ← Nat.mul_assoc, Nat.mul_comm z 128]
        · rw [numB_big _ (by omega)]
          have q1 : ((x % 128).toNat + 128 * z) / 128 = z := by omega
          have q2 : ((((x % 128).toNat + 128 * z) % 128 + 128 : Nat) : Int) = x := by omega
          rw [q1, q2, e2]
          have q3 : (tkGo (j + 1) (m + (x % 128).toNat * 128 ^ j) r).2.1.toNat - j = (tkGo (j + 1) (m + (x % 128).toNat * 128 ^ j) r).2.1.toNat - (j + 1) + 1 := by omega
          rw [q3, List.take_succ_cons]
      · by_cases h3 : x = 0 ∧ 0 < j
        · rw [h3.1, tkGo_form _ _ _ h3.2] at h; simp at h
        · rw [tkGo_last _ _ _ _ h1 (by omega) h3]
          refine ⟨x.toNat, rfl, ?_, by omega, by simp only; omega⟩
          have q : ((j : Int) + 1).toNat - j = 1 := by omega
          simp only [q]
          rw [numB_small _ (by omega)]
          simp
          omega

/-- Num of what TakeNum takes from the beginning are its bytes. -/
theorem numB_tkNum (bs : List Int) (hb : ∀ x ∈ bs, 0 ≤ x ∧ x < 256) (h : (tkNum bs 0).2.2 = 0) :
    ∃ z k : Nat, tkNum bs 0 = ((z : Int), (k : Int), 0) ∧ z ≤ 9007199254740991 ∧ numB z = bs.take k ∧ 0 < k ∧ k ≤ bs.length := by
  have hok := tkNum_ok bs 0 hb h
  have e0 : tkNum bs 0 = fin 0 (tkGo 0 0 bs) := by have := tkNum_in bs 0 (by omega); simpa using this
  rw [e0] at h hok ⊢
  have h' : (tkGo 0 0 bs).2.2 = 0 := h
  obtain ⟨z, e1, e2, _, e4⟩ := take_numB bs 0 0 (by omega) hb h'
  have e1' : (tkGo 0 0 bs).1 = (z : Int) := by rw [e1]; simp
  have f1 : (fin 0 (tkGo 0 0 bs)).1 = (z : Int) := e1'
  have f2 : (fin 0 (tkGo 0 0 bs)).2.1 = (tkGo 0 0 bs).2.1 := by simp [fin, h']
  rw [f1, f2] at hok
  refine ⟨z, (tkGo 0 0 bs).2.1.toNat, ?_, by omega, by simpa using e2, by omega, by omega⟩
  have f3 : (((tkGo 0 0 bs).2.1.toNat : Nat) : Int) = (tkGo 0 0 bs).2.1 := by omega
  rw [f3]
  exact Prod.ext f1 (Prod.ext f2 h)

/-- Which errors there are. -/
theorem tkGo_err (r : List Int) : ∀ j m : Nat, (tkGo j m r).2.2 = 0 ∨ (tkGo j m r).2.2 = 3 ∨ (tkGo j m r).2.2 = 4 ∨ (tkGo j m r).2.2 = 6 := by
  induction r with
  | nil => intro j m; exact .inr (.inl rfl)
  | cons x r ih =>
    intro j m
    rw [tkGo]
    split
    · exact .inr (.inr (.inr rfl))
    · split
      · exact ih _ _
      · split
        · exact .inr (.inr (.inl rfl))
        · exact .inl rfl

theorem tkNum_err (bs : List Int) (i : Int) : (tkNum bs i).2.2 = 0 ∨ (tkNum bs i).2.2 = 2 ∨ (tkNum bs i).2.2 = 3 ∨ (tkNum bs i).2.2 = 4 ∨ (tkNum bs i).2.2 = 6 := by
  unfold tkNum
  split
  · rcases tkGo_err (bs.drop i.toNat) 0 0 with h | h | h | h <;> simp [fin, h]
  · exact .inr (.inl rfl)
end Go.Proofs.Ytiloclekhddkfaa.Oct
