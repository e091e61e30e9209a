/- The hash of a chunk, which beginnings end one, and where the first one ends, as plain mathematics. -/
import Derived.Test.YtngeefipeghjiaaG6
namespace Go.Proofs.Ytngeefipeghjiaa
open Go.RowKit

/-- The hash of bytes, by the table T. -/
def hsh (T : Nat → Int) (l : List Int) : Int := l.foldl (fun h x => (2 * h + T x.toNat) % 4294967296) 0
theorem hsh_nil (T : Nat → Int) : hsh T [] = 0 := rfl
theorem hsh_snoc (T : Nat → Int) (l : List Int) (x : Int) : hsh T (l ++ [x]) = (2 * hsh T l + T x.toNat) % 4294967296 := by
  unfold hsh
  rw [List.foldl_append]
  rfl
theorem hsh_rng (T : Nat → Int) (l : List Int) : 0 ≤ hsh T l ∧ hsh T l < 4294967296 := by
  rcases List.eq_nil_or_concat l with rfl | ⟨l', x, rfl⟩
  · rw [hsh_nil]; omega
  · rw [List.concat_eq_append, hsh_snoc]; omega
/-- Does a chunk end behind these bytes? -/
def endB (mn av mx : Int) (T : Nat → Int) (l : List Int) : Bool := decide (mx ≤ (l.length : Int) ∨ mn ≤ (l.length : Int) ∧ hsh T l < 4294967296 / av)
theorem below_iff {av h : Int} (ha : av = 1 ∨ av = 2 ∨ av = 4 ∨ av = 8 ∨ av = 16 ∨ av = 32 ∨ av = 64 ∨ av = 128 ∨ av = 256) : h < 4294967296 / av ↔ h * av < 4294967296 := by
  rcases ha with h | h | h | h | h | h | h | h | h <;> subst h <;> omega
/-- The first chunk of p ends behind k bytes; 0: nowhere. -/
def Fst (E : List Int → Bool) (p : List Int) (k : Nat) : Prop := (k = 0 ∧ NoEnd E p) ∨ (1 ≤ k ∧ k ≤ p.length ∧ E (p.take k) = true ∧ ∀ j, 1 ≤ j → j < k → E (p.take j) = false)
theorem Fst.none {E : List Int → Bool} {p : List Int} (h : Fst E p 0) : feed E [] p = ([], p) := by
  rcases h with ⟨_, h⟩ | ⟨h, _⟩
  · have := feed_none E p [] (by simpa using h)
    simpa using this
  · omega
theorem Fst.some {E : List Int → Bool} {p : List Int} {k : Nat} (h : Fst E p k) (hk : k ≠ 0) : k ≤ p.length ∧ feed E [] p = (p.take k :: (feed E [] (p.drop k)).1, (feed E [] (p.drop k)).2) := by
  rcases h with ⟨h, _⟩ | ⟨h1, h2, h3, h4⟩
  · omega
  · refine ⟨h2, ?_⟩
    have := feed_first E p [] k (by simp; omega) (by simpa using h2) (by simpa using h3) (fun j hj hjk => by simpa using h4 j (by simp at hj; omega) hjk)
    simpa using this
/-- No beginning shorter than k ends. -/
def NoE (E : List Int → Bool) (p : List Int) (k : Nat) : Prop := ∀ j, 1 ≤ j → j < k → E (p.take j) = false
theorem noE_start {mn av mx : Int} {T : Nat → Int} {p : List Int} {k : Nat} (h : okC mn av mx) (hk : mn = (k : Int)) : NoE (endB mn av mx T) p k := by
  intro j h1 h2
  have hl := List.length_take_le j p
  obtain ⟨a, b, c, d⟩ := h
  exact decide_eq_false (fun h => by omega)
theorem endB_at {mn av mx : Int} {T : Nat → Int} {p : List Int} {k : Nat} (h : okC mn av mx) (hk : mn ≤ (k : Int)) (hm : (k : Int) ≤ mx) (hl : k ≤ p.length) : endB mn av mx T (p.take k) = decide ((k : Int) = mx ∨ hsh T (p.take k) * av < 4294967296) := by
  have hl : (p.take k).length = k := by rw [List.length_take]; omega
  have := below_iff (h := hsh T (p.take k)) h.2.2.2
  unfold endB
  rw [hl]
  congr 1
  apply propext
  rw [this]
  omega
theorem noE_step {E : List Int → Bool} {p : List Int} {k : Nat} (h : NoE E p k) (hk : E (p.take k) = false) : NoE E p (k + 1) := by
  intro j h1 h2
  by_cases e : j = k
  · subst e; exact hk
  · exact h j h1 (by omega)
theorem noE_end {E : List Int → Bool} {p : List Int} {k : Nat} (h : NoE E p k) (hk : p.length < k) : Fst E p 0 := .inl ⟨rfl, fun j h1 h2 => h j h1 (by omega)⟩
theorem noE_hit {E : List Int → Bool} {p : List Int} {k : Nat} (h : NoE E p k) (h1 : 1 ≤ k) (h2 : k ≤ p.length) (hk : E (p.take k) = true) : Fst E p k := .inr ⟨h1, h2, hk, h⟩
end Go.Proofs.Ytngeefipeghjiaa
