/- slices.Sort at ints, owned. -/
import Derived.Test.YtjcojpddjhjhbaaIntsB
import Derived.Test.YtjcojpddjhjhbaaSh
import Derived.Sort.OwnSortedInts
namespace Go.Proofs.Ytjcojpddjhjhbaa
open Go.RowKit Go.Sort Go.Shelf

/-- The numbers of l, sorted. -/
def srt (l : List Int) : List Int := l.mergeSort fun x y => decide (x ≤ y)
theorem srt_len (l : List Int) : (srt l).length = l.length := by simp [srt]
theorem srt_mem {l : List Int} {x : Int} : x ∈ srt l ↔ x ∈ l := by simp [srt]
theorem srt_sorted (l : List Int) : (srt l).Pairwise (· ≤ ·) := by
  have := List.pairwise_mergeSort (le := fun x y : Int => decide (x ≤ y)) (fun a b c h1 h2 => by simp at *; omega) (fun a b => by simp; omega) l
  exact this.imp (by simp)
theorem sorti_any {w : World} {base : Nat} {v : Value} {l : List Int} (h : OwnI w base v l) (hl : l.length ≤ 6000000000000) : Calls Try.prog 27 #[v] w fun e w' => e = .returned (.tuple #[]) ∧ OwnI w' base v (srt l) ∧ Chg (ob v) w w' := by
  rcases h.2 with ⟨rfl, h0⟩ | ⟨g, cap, cur, rfl, hb, hh, h1, h2, h3, h4⟩
  · have hl0 : l = [] := List.length_eq_zero_iff.1 h0
    subst hl0
    refine (AnyM.slices_Sort_int_none sortA none 0 w).mono ?_
    rintro e w' ⟨rfl, rfl⟩
    exact ⟨rfl, by simpa [srt] using owni_nil w' base, Chg.refl _ _⟩
  · have h4' : cur.toList.take l.length = l.map (Value.int .i64) := by rw [Nat.mul_one] at h4; exact h4
    refine (AnyM.slices_Sort_int sortA g 0 cap l w (holds_of_blockI hh h4') (Array.getElem?_eq_some_iff.1 hh).1 (by omega)).mono ?_
    rintro e w' ⟨rfl, n, os, rfl⟩
    refine ⟨rfl, ?_, Chg.ofGrown (v := .slice (some ⟨g, 0, none⟩) l.length cap) (grownBy_sortedI _)⟩
    have := ownsRow_sortedI (w := w) (base := base) (n := n) (os := os) (ts := srt l) (ss := l) (srt_len l) hb hh h1 h2 h3
    unfold OwnI
    rw [srt_len]
    exact this
end Go.Proofs.Ytjcojpddjhjhbaa
