/- Shares in their order: a heap, sifted; rows in order are one. -/
import Derived.Test.YtjcojpddjhjhbaaC1
namespace Go.Proofs.Ytjcojpddjhjhbaa
open Go.RowKit

theorem common : ∀ N : Nat, ∃ D : Nat, 0 < D ∧ ∀ m : Nat, 1 ≤ m → m ≤ N → ∃ q, D = m * q
  | 0 => ⟨1, by decide, fun m h1 h2 => by omega⟩
  | N + 1 => by
    obtain ⟨D, h0, h⟩ := common N
    refine ⟨D * (N + 1), Nat.mul_pos h0 (by omega), fun m h1 h2 => ?_⟩
    rcases Nat.lt_or_ge N m with h3 | h3
    · obtain rfl : m = N + 1 := by omega
      exact ⟨D, Nat.mul_comm _ _⟩
    · obtain ⟨q, hq⟩ := h m h1 h3
      exact ⟨q * (N + 1), by rw [hq, Nat.mul_assoc]⟩
def Lx (a b : Int × Int) : Prop := a.1 < b.1 ∨ (a.1 = b.1 ∧ a.2 < b.2)
theorem cross {D x y p q P Q : Int} (hD : 0 < D) (hp : 0 < p) (hq : 0 < q) (h1 : D = p * P) (h2 : D = q * Q) : (x * q < y * p ↔ x * P < y * Q) := by
  have e1 : x * P * (p * q) = x * q * D := by rw [h1]; simp only [Int.mul_comm, Int.mul_left_comm]
  have e2 : y * Q * (p * q) = y * p * D := by rw [h2]; simp only [Int.mul_comm, Int.mul_left_comm]
  have hpq : 0 < p * q := Int.mul_pos hp hq
  constructor
  · intro h
    have := Int.mul_lt_mul_of_pos_right h hD
    rw [← e1, ← e2] at this
    exact Int.lt_of_mul_lt_mul_right this (Int.le_of_lt hpq)
  · intro h
    have := Int.mul_lt_mul_of_pos_right h hpq
    rw [e1, e2] at this
    exact Int.lt_of_mul_lt_mul_right this (Int.le_of_lt hD)
theorem shc_lt (x y : Sh) : shl x y = true ↔ (x.2.2 * max y.2.1 1 < y.2.2 * max x.2.1 1 ∨ (¬ y.2.2 * max x.2.1 1 < x.2.2 * max y.2.1 1 ∧ x.1 < y.1)) := by
  unfold shl shc cmpI
  generalize x.2.2 * max y.2.1 1 = a
  generalize y.2.2 * max x.2.1 1 = b
  by_cases h1 : a < b
  · simp [h1]
  · by_cases h2 : b < a
    · simp [h1, h2]
    · by_cases h3 : x.1 < y.1
      · simp [h1, h2, h3]
      · by_cases h4 : y.1 < x.1 <;> simp [h1, h2, h3, h4]
theorem key : ∃ k : Sh → Int × Int, (∀ s, (k s).2 = s.1) ∧ ∀ x y, Rt x → Rt y → (shl x y = true ↔ Lx (k x) (k y)) := by
  obtain ⟨D, h0, h⟩ := common 32768
  have h0' : (0 : Int) < D := by omega
  refine ⟨fun s => (s.2.2 * ((D : Int) / max s.2.1 1), s.1), fun _ => rfl, fun x y hx hy => ?_⟩
  have part : ∀ s : Sh, Rt s → (D : Int) = max s.2.1 1 * ((D : Int) / max s.2.1 1) := fun s hs => by
    obtain ⟨a, b, c⟩ := hs
    obtain ⟨q, hq⟩ := h (max s.2.1 1).toNat (by omega) (by omega)
    have e : (D : Int) = max s.2.1 1 * q := by rw [hq, Int.natCast_mul, Int.toNat_of_nonneg (by omega)]
    have hp : (0 : Int) < max s.2.1 1 := by omega
    rw [e, Int.mul_ediv_cancel_left _ (by omega)]
  have hp : (0 : Int) < max x.2.1 1 := by omega
  have hq : (0 : Int) < max y.2.1 1 := by omega
  have c1 := cross (x := x.2.2) (y := y.2.2) h0' hp hq (part x hx) (part y hy)
  have c2 := cross (x := y.2.2) (y := x.2.2) h0' hq hp (part y hy) (part x hx)
  rw [shc_lt]
  unfold Lx
  simp only
  rw [c1, c2]
  omega
theorem shl_irr {x : Sh} (hx : Rt x) : shl x x = false := by
  obtain ⟨k, _, h⟩ := key
  rw [← Bool.not_eq_true, h x x hx hx]
  unfold Lx
  omega
theorem shl_as {x y : Sh} (hx : Rt x) (hy : Rt y) (h1 : shl x y = true) : shl y x = false := by
  obtain ⟨k, _, h⟩ := key
  rw [← Bool.not_eq_true, h y x hy hx]
  rw [h x y hx hy] at h1
  unfold Lx at *
  omega
/-- What is not ahead of a second one, which is not ahead of a third, is not ahead of that. -/
theorem shl_nt {x y z : Sh} (hx : Rt x) (hy : Rt y) (hz : Rt z) (h1 : shl x y = false) (h2 : shl y z = false) : shl x z = false := by
  obtain ⟨k, _, h⟩ := key
  rw [← Bool.not_eq_true] at *
  rw [h x y hx hy] at h1
  rw [h y z hy hz] at h2
  rw [h x z hx hz]
  unfold Lx at *
  omega
def par (k : Nat) : Nat := (k - 1) / 2
def At (M : List Sh) (k : Nat) : Sh := M.getD k s0
/-- No child is ahead of its parent, among the first n. -/
def Heap (M : List Sh) (n : Nat) : Prop := ∀ k, 0 < k → k < n → shl (At M k) (At M (par k)) = false
def HUp (M : List Sh) (n j : Nat) : Prop := (∀ k, 0 < k → k < n → k ≠ j → shl (At M k) (At M (par k)) = false) ∧ (∀ k, 0 < k → k < n → par k = j → 0 < j → shl (At M k) (At M (par j)) = false)
def HDn (M : List Sh) (n i : Nat) : Prop := (∀ k, 0 < k → k < n → par k ≠ i → shl (At M k) (At M (par k)) = false) ∧ (∀ k, 0 < k → k < n → par k = i → 0 < i → shl (At M k) (At M (par i)) = false)
def AllRt (M : List Sh) : Prop := ∀ s ∈ M, Rt s
theorem rt_at {M : List Sh} (h : AllRt M) (k : Nat) : Rt (At M k) := by
  unfold At
  by_cases hk : k < M.length
  · exact h _ (getD_mem' hk)
  · simp only [List.getD, List.getElem?_eq_none (Nat.le_of_not_lt hk), Option.getD_none]
    exact ⟨by decide, by decide, by decide⟩
def swp (L : List Sh) (i j : Nat) : List Sh := (L.set i (L.getD j s0)).set j (L.getD i s0)
theorem swp_len (M : List Sh) (i j : Nat) : (swp M i j).length = M.length := by simp [swp]
theorem swp_perm {M : List Sh} {i j : Nat} (hi : i < M.length) (hj : j < M.length) : (swp M i j).Perm M := by
  unfold swp
  have e1 : M.getD i s0 = M[i] := by simp [List.getD, List.getElem?_eq_getElem hi]
  have e2 : M.getD j s0 = M[j] := by simp [List.getD, List.getElem?_eq_getElem hj]
  rw [e1, e2]
  exact List.set_set_perm hi hj
theorem swp_rt {M : List Sh} {i j : Nat} (hi : i < M.length) (hj : j < M.length) (h : AllRt M) : AllRt (swp M i j) := fun s hs => h s ((swp_perm hi hj).mem_iff.1 hs)
theorem swp_at {M : List Sh} {i j : Nat} (hi : i < M.length) (hj : j < M.length) (k : Nat) : At (swp M i j) k = if k = j then At M i else if k = i then At M j else At M k := by
  unfold At swp
  simp only [List.getD, List.getElem?_set, List.length_set]
  by_cases h1 : k = j
  · subst h1
    simp [hj]
  · by_cases h2 : k = i
    · subst h2
      rw [if_neg (fun e => h1 e.symm), if_pos rfl, if_pos hi, if_neg h1, if_pos rfl]
      simp
    · rw [if_neg (fun e => h1 e.symm), if_neg (fun e => h2 e.symm), if_neg h1, if_neg h2]
theorem up_stop {M : List Sh} {n j : Nat} (h : HUp M n j) (hs : j = 0 ∨ shl (At M j) (At M (par j)) = false) : Heap M n := fun k h0 hk => by
  by_cases e : k = j
  · subst e
    rcases hs with hs | hs
    · omega
    · exact hs
  · exact h.1 k h0 hk e
theorem up_step {M : List Sh} {j : Nat} (hr : AllRt M) (h : HUp M M.length j) (h0 : 0 < j) (hj : j < M.length) (hs : shl (At M j) (At M (par j)) = true) : HUp (swp M (par j) j) M.length (par j) := by
  have hpj : par j < j := by unfold par; omega
  have hi : par j < M.length := by omega
  have A := fun k => swp_at hi hj k
  have R := rt_at hr
  refine ⟨fun k k0 hk hne => ?_, fun k k0 hk hpk hpos => ?_⟩
  · rw [A k, A (par k)]
    by_cases e1 : k = j
    · subst e1
      rw [if_pos rfl, if_neg (by omega), if_pos rfl]
      exact shl_as (R _) (R _) hs
    · rw [if_neg e1, if_neg hne]
      by_cases e2 : par k = j
      · rw [if_pos e2]
        exact h.2 k k0 hk e2 h0
      · rw [if_neg e2]
        by_cases e3 : par k = par j
        · rw [if_pos e3]
          have h1 := h.1 k k0 hk e1
          rw [e3] at h1
          rw [← Bool.not_eq_true]
          intro h2
          have h3 := shl_nt (R _) (R _) (R _) h1 (shl_as (R _) (R _) hs)
          rw [h3] at h2
          cases h2
        · rw [if_neg e3]
          exact h.1 k k0 hk e1
  · have hpp : par (par j) < par j := by unfold par at *; omega
    rw [A k, A (par (par j)), if_neg (show par (par j) ≠ j by omega), if_neg (show par (par j) ≠ par j by omega)]
    have h1 := h.1 (par j) hpos hi (by omega)
    by_cases e1 : k = j
    · rw [if_pos e1]
      exact h1
    · have e2 : k ≠ par j := by intro e; rw [e] at hpk; omega
      rw [if_neg e1, if_neg e2]
      have h2 := h.1 k k0 hk e1
      rw [hpk] at h2
      exact shl_nt (R _) (R _) (R _) h2 h1
theorem dn_stop {M : List Sh} {n i : Nat} (h : HDn M n i) (hs : ∀ k, 0 < k → k < n → par k = i → shl (At M k) (At M i) = false) : Heap M n := fun k h0 hk => by
  by_cases e : par k = i
  · rw [e]; exact hs k h0 hk e
  · exact h.1 k h0 hk e
theorem dn_step {M : List Sh} {n i j : Nat} (hr : AllRt M) (hn : n ≤ M.length) (h : HDn M n i) (h0 : 0 < j) (hj : j < n) (hp : par j = i) (hl : ∀ k, 0 < k → k < n → par k = i → shl (At M k) (At M j) = false) (hs : shl (At M j) (At M i) = true) : HDn (swp M i j) n j := by
  have hij : i < j := by rw [← hp]; unfold par; omega
  have hi : i < M.length := by omega
  have hj' : j < M.length := by omega
  have A := fun k => swp_at hi hj' k
  have R := rt_at hr
  refine ⟨fun k k0 hk hne => ?_, fun k k0 hk hpk _ => ?_⟩
  · rw [A k, A (par k), if_neg hne]
    by_cases e1 : par k = i
    · rw [if_pos e1]
      by_cases e2 : k = j
      · rw [if_pos e2]
        exact shl_as (R _) (R _) hs
      · have e3 : k ≠ i := by intro e; rw [e] at e1; unfold par at e1; omega
        rw [if_neg e2, if_neg e3]
        exact hl k k0 hk e1
    · rw [if_neg e1]
      have e2 : k ≠ j := by intro e; rw [e] at e1; exact e1 hp
      rw [if_neg e2]
      by_cases e3 : k = i
      · rw [if_pos e3, e3]
        exact h.2 j h0 hj hp (by omega)
      · rw [if_neg e3]
        exact h.1 k k0 hk e1
  · have hkj : k ≠ j := by intro e; rw [e] at hpk; omega
    have hki : k ≠ i := by intro e; rw [e] at hpk; unfold par at hpk; omega
    rw [A k, A (par j), if_neg hkj, if_neg hki, hp, if_neg (by omega), if_pos rfl]
    have := h.1 k k0 hk (by omega)
    rw [hpk] at this
    exact this
/-- The first of a heap is not behind any. -/
theorem heap_min {M : List Sh} {n : Nat} (hr : AllRt M) (h : Heap M n) : ∀ k, k < n → shl (At M k) (At M 0) = false := fun k => by
  induction k using Nat.strongRecOn with
  | _ k ih =>
    intro hk
    by_cases h0 : k = 0
    · rw [h0]; exact shl_irr (rt_at hr 0)
    · have hp : par k < k := by unfold par; omega
      exact shl_nt (rt_at hr _) (rt_at hr _) (rt_at hr _) (h k (by omega) hk) (ih (par k) hp (by omega))
theorem sorted_one {A B : List Sh} (hr : AllRt A) (h : A.Perm B) (hA : A.Pairwise fun x y => shl y x = false) (hB : B.Pairwise fun x y => shl y x = false) : A.map (·.1) = B.map (·.1) := by
  obtain ⟨k, h2, hk⟩ := key
  have hrB : AllRt B := fun s hs => hr s (h.mem_iff.2 hs)
  have e : A.map k = B.map k := by
    refine List.Perm.eq_of_pairwise (le := fun a b => ¬ Lx b a) ?_ ?_ ?_ (h.map k)
    · rintro ⟨a1, a2⟩ ⟨b1, b2⟩ _ _ h1 h2
      unfold Lx at h1 h2
      simp only at h1 h2
      have e1 : a1 = b1 := by omega
      have e2 : a2 = b2 := by omega
      rw [e1, e2]
    · rw [List.pairwise_map]
      exact hA.imp_of_mem (fun ha hb hab => by rw [← hk _ _ (hr _ hb) (hr _ ha), hab]; simp)
    · rw [List.pairwise_map]
      exact hB.imp_of_mem (fun ha hb hab => by rw [← hk _ _ (hrB _ hb) (hrB _ ha), hab]; simp)
  have := congrArg (List.map (·.2)) e
  rw [List.map_map, List.map_map] at this
  have f : ((fun p : Int × Int => p.2) ∘ k) = fun s : Sh => s.1 := funext fun s => h2 s
  rw [f] at this
  exact this
end Go.Proofs.Ytjcojpddjhjhbaa
