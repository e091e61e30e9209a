/- The pieces of Put, told match by match (plain). -/
import Derived.Test.YtoneepoaodoijaaZ3
namespace Go.Proofs.Ytoneepoaodoijaa

def p0 : Pc := ⟨[], 0, 0⟩
/-- The pieces up to the end of some matches, and that end. -/
def pcp (p : List Int) : Nat → List (Nat × Nat × Nat) → List Pc
  | _, [] => []
  | d, (a, f, n) :: l => chs ((p.drop d).take (a - d)) ++ [⟨[], f, n⟩] ++ pcp p (a + n) l
def dn : Nat → List (Nat × Nat × Nat) → Nat
  | d, [] => d
  | _, (a, _, n) :: l => dn (a + n) l
theorem pcs_split (p : List Int) : ∀ (l : List (Nat × Nat × Nat)) (d : Nat) (r : List (Nat × Nat × Nat)), pcs p d (l ++ r) = pcp p d l ++ pcs p (dn d l) r
  | [], d, r => rfl
  | (a, f, n) :: l, d, r => by
    rw [List.cons_append]
    simp only [pcs, pcp, dn]
    rw [pcs_split p l (a + n) r]
    simp
theorem pcp_snoc (p : List Int) : ∀ (l : List (Nat × Nat × Nat)) (d a f n : Nat), pcp p d (l ++ [(a, f, n)]) = pcp p d l ++ (chs ((p.drop (dn d l)).take (a - dn d l)) ++ [⟨[], f, n⟩])
  | [], d, a, f, n => by simp [pcp, dn]
  | (x, y, z) :: l, d, a, f, n => by
    rw [List.cons_append]
    simp only [pcp, dn]
    rw [pcp_snoc p l (x + z) a f n]
    simp
theorem dn_snoc : ∀ (l : List (Nat × Nat × Nat)) (d a f n : Nat), dn d (l ++ [(a, f, n)]) = a + n
  | [], d, a, f, n => rfl
  | (x, y, z) :: l, d, a, f, n => by rw [List.cons_append]; simp only [dn]; exact dn_snoc l (x + z) a f n
theorem Row.rest {p : List Int} : ∀ {l : List (Nat × Nat × Nat)} {d : Nat} {r : List (Nat × Nat × Nat)}, Row p d (l ++ r) → Row p (dn d l) r
  | [], _, _, h => h
  | (_, _, _) :: l, _, _, h => Row.rest (l := l) h.2.2
theorem take_snoc {α : Type} {M pre : List α} {x : α} (h : pre = M.take pre.length) (hx : M[pre.length]? = some x) : ∃ r, M = pre ++ x :: r := by
  refine ⟨M.drop (pre.length + 1), ?_⟩
  have hl : pre.length < M.length := (List.getElem?_eq_some_iff.1 hx).1
  have he : M[pre.length] = x := by
    rw [List.getElem?_eq_getElem hl] at hx
    exact Option.some.inj hx
  rw [← he]
  conv => rhs; lhs; rw [h]
  rw [← List.drop_eq_getElem_cons hl, List.take_append_drop]
theorem take_next {α : Type} {M pre : List α} {x : α} (h : pre = M.take pre.length) (hx : M[pre.length]? = some x) : pre ++ [x] = M.take (pre ++ [x]).length := by
  rw [List.length_append, List.length_cons, List.length_nil, List.take_add_one, hx, ← h]
  rfl
theorem chs_len' (b : List Int) : (chs b).length = cnk b.length := by simp [chs]
theorem chs_get (b : List Int) {i : Nat} (h : i < cnk b.length) : (chs b)[i]? = some ⟨chk b i, 0, 0⟩ := by simp [chs, List.getElem?_range h]
/-- The pieces of Put. -/
def pl0 (p : List Int) : List Pc := pcs p 0 (mtl p 0)
theorem pl0_chunk {p : List Int} {l r : List (Nat × Nat × Nat)} {a f n : Nat} (h : mtl p 0 = l ++ (a, f, n) :: r) {i : Nat} (hi : i < cnk ((p.drop (dn 0 l)).take (a - dn 0 l)).length) : (pl0 p)[(pcp p 0 l).length + i]? = some ⟨chk ((p.drop (dn 0 l)).take (a - dn 0 l)) i, 0, 0⟩ := by
  unfold pl0
  rw [h, pcs_split, List.getElem?_append_right (by omega), Nat.add_sub_cancel_left]
  simp only [pcs]
  rw [List.append_assoc, List.getElem?_append_left (by rw [chs_len']; exact hi), chs_get _ hi]
theorem pl0_match {p : List Int} {l r : List (Nat × Nat × Nat)} {a f n : Nat} (h : mtl p 0 = l ++ (a, f, n) :: r) : (pl0 p)[(pcp p 0 l).length + cnk ((p.drop (dn 0 l)).take (a - dn 0 l)).length]? = some ⟨[], f, n⟩ := by
  unfold pl0
  rw [h, pcs_split, List.getElem?_append_right (by omega), Nat.add_sub_cancel_left]
  simp only [pcs]
  rw [List.append_assoc, List.getElem?_append_right (by rw [chs_len']; exact Nat.le_refl _), chs_len', Nat.sub_self]
  rfl
theorem pl0_eq (p : List Int) : pl0 p = pcp p 0 (mtl p 0) ++ chs (p.drop (dn 0 (mtl p 0))) := by
  have := pcs_split p (mtl p 0) 0 []
  rw [List.append_nil] at this
  exact this
theorem pl0_last {p : List Int} {i : Nat} (hi : i < cnk (p.drop (dn 0 (mtl p 0))).length) : (pl0 p)[(pcp p 0 (mtl p 0)).length + i]? = some ⟨chk (p.drop (dn 0 (mtl p 0))) i, 0, 0⟩ := by
  rw [pl0_eq, List.getElem?_append_right (by omega), Nat.add_sub_cancel_left, chs_get _ hi]
theorem pl0_len (p : List Int) : (pl0 p).length = (pcp p 0 (mtl p 0)).length + cnk (p.drop (dn 0 (mtl p 0))).length := by rw [pl0_eq, List.length_append, chs_len']
theorem dn_le {p : List Int} {l : List (Nat × Nat × Nat)} {d : Nat} (h : Row p d l) : dn d l ≤ p.length := by
  have h2 : Row p d (l ++ []) := by rw [List.append_nil]; exact h
  exact Row.rest (l := l) h2
end Go.Proofs.Ytoneepoaodoijaa
