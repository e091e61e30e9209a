/- Plain mathematics of layer 1: numbers of a fixed width. -/
import Derived.Test.YthohpbppfihoiaaOctP
namespace Go.Proofs.Ythohpbppfihoiaa.Oct

/-- The number of some bytes, the highest first, behind n. -/
def valB (n : Nat) : List Int → Nat
  | [] => n
  | x :: r => valB (n * 256 + x.toNat) r

theorem valB_snoc (r : List Int) (x : Int) : ∀ n, valB n (r ++ [x]) = valB n r * 256 + x.toNat := by
  induction r with
  | nil => intro n; rfl
  | cons y r ih => intro n; simp only [List.cons_append, valB]; exact ih _

theorem valB_bound (r : List Int) (hb : ∀ x ∈ r, 0 ≤ x ∧ x < 256) : ∀ n, valB n r < (n + 1) * 256 ^ r.length := by
  induction r with
  | nil => intro n; simp [valB]
  | cons y r ih =>
    intro n
    have hy := hb y (by simp)
    simp only [valB, List.length_cons, Nat.pow_succ]
    refine Nat.lt_of_lt_of_le (ih (fun x hx => hb x (by simp [hx])) _) ?_
    rw [Nat.mul_comm (256 ^ r.length) 256, ← Nat.mul_assoc]
    exact Nat.mul_le_mul_right _ (by omega)

theorem valB_mono (r : List Int) : ∀ n, n * 256 ^ r.length ≤ valB n r := by
  induction r with
  | nil => intro n; simp [valB]
  | cons y r ih =>
    intro n
    simp only [valB, List.length_cons, Nat.pow_succ]
    refine Nat.le_trans ?_ (ih _)
    rw [Nat.mul_comm (256 ^ r.length) 256, ← Nat.mul_assoc]
    exact Nat.mul_le_mul_right _ (by omega)

/-- What TakeFixed tells. -/
def tkFix (bs : List Int) (i W : Int) : Int × Int × Int :=
  if W < 1 ∨ 8 < W ∨ i < 0 ∨ (bs.length : Int) < i then (0, 0, 2)
  else if (bs.length : Int) - i < W then (0, 0, 3)
  else if 9007199254740991 < valB 0 ((bs.drop i.toNat).take W.toNat) then (0, 0, 6)
  else ((valB 0 ((bs.drop i.toNat).take W.toNat) : Int), i + W, 0)

theorem take_snoc (bs : List Int) (k : Nat) (h : k < bs.length) : bs.take (k + 1) = bs.take k ++ [bs.getD k 0] := by
  rw [List.take_succ_eq_append_getElem h, List.getD_eq_getElem?_getD, List.getElem?_eq_getElem h]; rfl

/-- TakeFixed of Fixed: the number. -/
theorem valB_fixB (n i : Nat) : ∀ m, valB m (fixB n i) = m * 256 ^ i + n % 256 ^ i := by
  induction i with
  | zero => intro m; simp [fixB, valB, Nat.mod_one]
  | succ i ih =>
    intro m
    simp only [fixB, valB]
    rw [ih]
    have e1 : ((n / 256 ^ i % 256 : Nat) : Int).toNat = n / 256 ^ i % 256 := by omega
    rw [e1, Nat.pow_succ, Nat.mod_mul, Nat.add_mul, Nat.mul_assoc, Nat.mul_comm 256 (256 ^ i), Nat.mul_comm (n / 256 ^ i % 256), Nat.add_assoc, Nat.add_comm (256 ^ i * _)]
end Go.Proofs.Ythohpbppfihoiaa.Oct
