/- What a right note is; its bytes. -/
import Derived.Test.YthohpbppfihoiaaU5
namespace Go.Proofs.Ythohpbppfihoiaa
open Go.RowKit

theorem chk_ok {s : Int} {nm : ByteArray} {g i : Int} {H : List Hd} {P : List Pt} {bn : Nat} (h : chk s nm g i H P bn = 0) :
    isS s = true ∧ al (nmd s) nm g i H.length P.length bn = true ∧ H.length ≤ 64 ∧ P.length ≤ 256 ∧ bn ≤ 512 ∧ rt (nmd s) nm g i H P bn = true := by
  unfold chk at h
  by_cases h1 : isS s = false
  · rw [if_pos h1] at h; exact absurd h (by decide)
  rw [if_neg h1] at h
  by_cases h2 : al (nmd s) nm g i H.length P.length bn = false
  · rw [if_pos h2] at h; exact absurd h (by decide)
  rw [if_neg h2] at h
  by_cases h3 : 64 < H.length ∨ 256 < P.length ∨ 512 < bn
  · rw [if_pos h3] at h; exact absurd h (by decide)
  rw [if_neg h3] at h
  by_cases h4 : rt (nmd s) nm g i H P bn = false
  · rw [if_pos h4] at h; exact absurd h (by decide)
  refine ⟨by simpa using h1, by simpa using h2, by omega, by omega, by omega, by simpa using h4⟩
theorem flB_ok {nm : ByteArray} {g : Int} (h : flB nm g = true) : nm.size ≤ 32 ∧ 0 ≤ g ∧ g ≤ 9007199254740991 := by
  unfold flB at h
  simp only [Bool.and_eq_true, decide_eq_true_eq] at h
  refine ⟨?_, by omega, by omega⟩
  by_cases hs : nm.size ≤ 32
  · exact hs
  · have := nm_len (s := nm) (by omega)
    rw [this] at h
    exact absurd h.1 (by decide)
/-- What a right note's parts are. -/
structure Right (s : Int) (nm : ByteArray) (g i : Int) (H : List Hd) (P : List Pt) (bn : Nat) : Prop where
  say : isS s = true
  file : (nmd s).1 = true → nm.size ≤ 32 ∧ 0 ≤ g ∧ g ≤ 9007199254740991
  nofile : (nmd s).1 = false → nm.size = 0 ∧ g = 0
  i : 0 ≤ i ∧ i < 256
  hl : H.length ≤ 64
  pl : P.length ≤ 256
  bl : bn ≤ 512
  hd : ∀ x ∈ H, HdB x
  pt : ∀ x ∈ P, x.1.length = 32 → PtB x
theorem right_of {s : Int} {nm : ByteArray} {g i : Int} {H : List Hd} {P : List Pt} {bn : Nat} (h : chk s nm g i H P bn = 0) : Right s nm g i H P bn := by
  obtain ⟨h1, h2, h3, h4, h5, h6⟩ := chk_ok h
  unfold rt at h6
  unfold al at h2
  simp only [Bool.and_eq_true, Bool.or_eq_true, Bool.not_eq_true', decide_eq_true_eq] at h6 h2
  obtain ⟨⟨⟨⟨⟨k1, k2⟩, k3⟩, k4⟩, k5⟩, k6⟩ := h6
  refine ⟨h1, fun hm => ?_, fun hm => ?_, ⟨k2, k3⟩, h3, h4, h5, fun x hx => ?_, fun x hx h32 => ?_⟩
  · rcases k1 with k | k
    · rw [hm] at k; exact absurd k (by decide)
    · exact flB_ok k
  · rcases h2.1.1.1.1 with k | k
    · rw [hm] at k; exact absurd k (by decide)
    · exact k
  · exact flB_ok (List.all_eq_true.1 k4 x hx)
  · have := List.all_eq_true.1 k5 x hx
    unfold ptOk at this
    have h := of_decide_eq_true this
    exact ⟨h32, by omega, by omega⟩
/-- A note's bytes. -/
def pB (s : Int) (nm : ByteArray) (g i : Int) (H : List Hd) (P : List Pt) (bs : List Int) : List Int :=
  Oct.numB s.toNat ++ (if (nmd s).1 then fB nm g.toNat else []) ++ (if (nmd s).2.1 then Oct.numB i.toNat else []) ++ (if (nmd s).2.2.1 then lB hB H else []) ++ (if (nmd s).2.2.2.1 then lB qB P else []) ++ (if (nmd s).2.2.2.2 then Oct.numB bs.length ++ bs else [])
end Go.Proofs.Ythohpbppfihoiaa
