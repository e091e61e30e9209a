/- Squeezed bytes: pieces, and what they tell (plain). -/
import Derived.Test.YtoneepoaodoijaaOctP
namespace Go.Proofs.Ytoneepoaodoijaa
open Oct

/-- A piece: bytes as they are, or some that stand ahead. -/
structure Pc where
  pl : List Int
  far : Nat
  n : Nat
def Pc.size (x : Pc) : Nat := x.pl.length + x.n
/-- The piece at a place, the place behind it, an error. -/
def tkP (b : List Int) (at' : Nat) : Pc × Nat × Int :=
  if 128 ≤ (b.getD at' 0).toNat then
    if (tkNum b ((at' : Int) + 1)).2.2 ≠ 0 then (⟨[], 0, 0⟩, 0, (tkNum b ((at' : Int) + 1)).2.2)
    else (⟨[], (tkNum b ((at' : Int) + 1)).1.toNat, (b.getD at' 0).toNat - 124⟩, (tkNum b ((at' : Int) + 1)).2.1.toNat, 0)
  else if b.length < at' + 1 + ((b.getD at' 0).toNat + 1) then (⟨[], 0, 0⟩, 0, 3)
  else (⟨(b.drop (at' + 1)).take ((b.getD at' 0).toNat + 1), 0, 0⟩, at' + 1 + ((b.getD at' 0).toNat + 1), 0)
/-- What stands against a piece. -/
def ckP (x : Pc) (ahead : Nat) (most : Int) : Int :=
  if x.pl.length = 0 ∧ (x.far = 0 ∨ ahead < x.far) then 2 else if most - (ahead : Int) < (x.size : Int) then 6 else 0
/-- Bytes that stand ahead, behind the others. -/
def cpy (far : Nat) : Nat → List Int → List Int
  | 0, p => p
  | n + 1, p => cpy far n (p ++ [p.getD (p.length - far) 0])
def flw (x : Pc) (p : List Int) : List Int := cpy x.far x.n (p ++ x.pl)
theorem cpy_len (far : Nat) : ∀ n p, (cpy far n p).length = p.length + n
  | 0, p => rfl
  | n + 1, p => by rw [cpy, cpy_len far n]; simp; omega
theorem cpy_snoc (far : Nat) : ∀ n p, cpy far (n + 1) p = cpy far n p ++ [(cpy far n p).getD ((cpy far n p).length - far) 0]
  | 0, p => rfl
  | n + 1, p => by rw [cpy, cpy_snoc far n, cpy]
theorem flw_len (x : Pc) (p : List Int) : (flw x p).length = p.length + x.size := by rw [flw, cpy_len, List.length_append, Pc.size]; omega
theorem cpy_pre (far : Nat) : ∀ n p, ∃ s, cpy far n p = p ++ s
  | 0, p => ⟨[], by simp [cpy]⟩
  | n + 1, p => by
    obtain ⟨s, h⟩ := cpy_pre far n (p ++ [p.getD (p.length - far) 0])
    exact ⟨_, by rw [cpy, h, List.append_assoc]⟩
theorem flw_pre (x : Pc) (p : List Int) : ∃ s, flw x p = p ++ s := by
  obtain ⟨s, h⟩ := cpy_pre x.far x.n (p ++ x.pl)
  exact ⟨x.pl ++ s, by rw [flw, h, List.append_assoc]⟩
/-- Are all bytes? -/
def By (l : List Int) : Prop := ∀ x ∈ l, 0 ≤ x ∧ x < 256
theorem By.get {l : List Int} (h : By l) (i : Nat) : 0 ≤ l.getD i 0 ∧ l.getD i 0 < 256 := by
  by_cases hi : i < l.length
  · rw [show l.getD i 0 = l[i] by simp [List.getD, List.getElem?_eq_getElem hi]]
    exact h _ (List.getElem_mem hi)
  · simp [List.getD, List.getElem?_eq_none (Nat.le_of_not_lt hi)]
theorem By.app {l m : List Int} (h : By l) (k : By m) : By (l ++ m) := fun x hx => by rcases List.mem_append.1 hx with hx | hx; exact h x hx; exact k x hx
theorem By.cpy {far : Nat} : ∀ {n : Nat} {p : List Int}, By p → By (cpy far n p)
  | 0, _, h => h
  | n + 1, p, h => By.cpy (n := n) (h.app (fun x hx => by simp only [List.mem_singleton] at hx; subst hx; exact h.get _))
theorem tkP_ok {b : List Int} {at' : Nat} (hb : By b) (ha : at' < b.length) (h : (tkP b at').2.2 = 0) : at' < (tkP b at').2.1 ∧ (tkP b at').2.1 ≤ b.length ∧ (tkP b at').1.far ≤ 9007199254740991 ∧ (tkP b at').1.n ≤ 131 ∧ (tkP b at').1.pl.length ≤ 128 ∧ 0 < (tkP b at').1.size ∧ ((tkP b at').1.pl.length = 0 ∨ (tkP b at').1.n = 0) ∧ By (tkP b at').1.pl := by
  have hg := hb.get at'
  unfold tkP at h ⊢
  by_cases hc : 128 ≤ (b.getD at' 0).toNat
  · rw [if_pos hc] at h ⊢
    by_cases he : (tkNum b ((at' : Int) + 1)).2.2 ≠ 0
    · rw [if_pos he] at h
      exact absurd h he
    · rw [if_neg he]
      have := tkNum_ok b _ hb (Classical.not_not.1 he)
      refine ⟨by simp only; omega, by simp only; omega, by simp only; omega, by simp only; omega, by simp, by simp only [Pc.size, List.length_nil]; omega, .inl rfl, fun x hx => by simp at hx⟩
  · rw [if_neg hc] at h ⊢
    by_cases hl : b.length < at' + 1 + ((b.getD at' 0).toNat + 1)
    · rw [if_pos hl] at h
      simp at h
    · rw [if_neg hl]
      refine ⟨by simp only; omega, by simp only; omega, by simp, by simp, ?_, ?_, .inr rfl, fun x hx => hb x (List.mem_of_mem_drop (List.mem_of_mem_take hx))⟩
      · simp only [List.length_take]; omega
      · simp only [Pc.size, List.length_take, List.length_drop]; omega
theorem By.flw {x : Pc} {p : List Int} (hx : By x.pl) (hp : By p) : By (flw x p) := (hp.app hx).cpy
/-- Where the pieces begin. -/
def pos (b : List Int) : Nat → Nat
  | 0 => 0
  | k + 1 => (tkP b (pos b k)).2.1
/-- What the first pieces tell. -/
def told (b : List Int) : Nat → List Int
  | 0 => []
  | k + 1 => flw (tkP b (pos b k)).1 (told b k)
/-- What stands against the piece k. -/
def err (b : List Int) (most : Int) (k : Nat) : Int := if (tkP b (pos b k)).2.2 ≠ 0 then (tkP b (pos b k)).2.2 else ckP (tkP b (pos b k)).1 (told b k).length most
/-- The first k pieces are right. -/
def Good (b : List Int) (most : Int) (k : Nat) : Prop := ∀ j, j < k → pos b j < b.length ∧ err b most j = 0
theorem Good.e {b : List Int} {most : Int} {k : Nat} (h : Good b most k) {j : Nat} (hj : j < k) : (tkP b (pos b j)).2.2 = 0 := by
  have := (h j hj).2
  unfold err at this
  split at this
  · rename_i h1; exact absurd this h1
  · rename_i h1; exact Classical.not_not.1 h1
theorem Good.c {b : List Int} {most : Int} {k : Nat} (h : Good b most k) {j : Nat} (hj : j < k) : ckP (tkP b (pos b j)).1 (told b j).length most = 0 := by
  have := (h j hj).2
  unfold err at this
  rw [if_neg (by rw [h.e hj]; simp)] at this
  exact this
theorem Good.le {b : List Int} {most : Int} {k j : Nat} (h : Good b most k) (hj : j ≤ k) : Good b most j := fun i hi => h i (by omega)
theorem Good.ple {b : List Int} {most : Int} (hb : By b) : ∀ {k : Nat}, Good b most k → k ≤ pos b k ∧ pos b k ≤ b.length
  | 0, _ => ⟨Nat.le_refl _, Nat.zero_le _⟩
  | k + 1, h => by
    have ih := Good.ple hb (h.le (Nat.le_succ k))
    have h1 := tkP_ok hb (h k (Nat.lt_succ_self k)).1 (h.e (Nat.lt_succ_self k))
    simp only [pos]
    omega
theorem Good.tle {b : List Int} {most : Int} (hb : By b) : ∀ {k : Nat}, Good b most k → By (told b k) ∧ (k = 0 ∨ ((told b k).length : Int) ≤ most)
  | 0, _ => ⟨fun x hx => by simp [told] at hx, .inl rfl⟩
  | k + 1, h => by
    have ih := Good.tle hb (h.le (Nat.le_succ k))
    have h1 := tkP_ok hb (h k (Nat.lt_succ_self k)).1 (h.e (Nat.lt_succ_self k))
    have h2 := h.c (Nat.lt_succ_self k)
    refine ⟨By.flw h1.2.2.2.2.2.2.2 ih.1, .inr ?_⟩
    simp only [told, flw_len]
    unfold ckP at h2
    split at h2
    · simp at h2
    · split at h2
      · simp at h2
      · omega
/-- What Take answers. -/
inductive TkR (b : List Int) (most : Int) : List Int → Int → Prop
  | all (k : Nat) : Good b most k → pos b k = b.length → ((told b k).length : Int) ≤ most → TkR b most (told b k) 0
  | over (k : Nat) : Good b most k → pos b k = b.length → most < ((told b k).length : Int) → TkR b most [] 6
  | bad (k : Nat) : Good b most k → pos b k < b.length → err b most k ≠ 0 → TkR b most [] (err b most k)
theorem Good.cmp {b : List Int} {most : Int} {j k : Nat} (_hj : Good b most j) (hk : Good b most k) (_hb : By b) (hs : pos b j = b.length ∨ (pos b j < b.length ∧ err b most j ≠ 0)) : k ≤ j := by
  rcases Nat.lt_or_ge j k with h | h
  · have := hk j h
    rcases hs with h1 | h1
    · omega
    · exact absurd this.2 h1.2
  · exact h
theorem TkR.one {b : List Int} {most : Int} {p q : List Int} {e f : Int} (hb : By b) (h : TkR b most p e) (k : TkR b most q f) : p = q ∧ e = f := by
  have key : ∀ {j k : Nat}, Good b most j → Good b most k → (pos b j = b.length ∨ (pos b j < b.length ∧ err b most j ≠ 0)) → (pos b k = b.length ∨ (pos b k < b.length ∧ err b most k ≠ 0)) → j = k := fun h1 h2 h3 h4 => Nat.le_antisymm (h2.cmp h1 hb h4) (h1.cmp h2 hb h3)
  cases h with
  | all j h1 h2 h3 =>
    cases k with
    | all i g1 g2 g3 => rw [key h1 g1 (.inl h2) (.inl g2)]; exact ⟨rfl, rfl⟩
    | over i g1 g2 g3 => rw [key h1 g1 (.inl h2) (.inl g2)] at h3; omega
    | bad i g1 g2 g3 => rw [key h1 g1 (.inl h2) (.inr ⟨g2, g3⟩)] at h2; omega
  | over j h1 h2 h3 =>
    cases k with
    | all i g1 g2 g3 => rw [key h1 g1 (.inl h2) (.inl g2)] at h3; omega
    | over i g1 g2 g3 => exact ⟨rfl, rfl⟩
    | bad i g1 g2 g3 => rw [key h1 g1 (.inl h2) (.inr ⟨g2, g3⟩)] at h2; omega
  | bad j h1 h2 h3 =>
    cases k with
    | all i g1 g2 g3 => rw [key h1 g1 (.inr ⟨h2, h3⟩) (.inl g2)] at h2; omega
    | over i g1 g2 g3 => rw [key h1 g1 (.inr ⟨h2, h3⟩) (.inl g2)] at h2; omega
    | bad i g1 g2 g3 => rw [key h1 g1 (.inr ⟨h2, h3⟩) (.inr ⟨g2, g3⟩)]; exact ⟨rfl, rfl⟩
end Go.Proofs.Ytoneepoaodoijaa
