/- Behind a crash: plain facts. -/
import Derived.Test.YtmcikhdfpmkpnaaS1
namespace Go.Proofs.Ytmcikhdfpmkpnaa
open Go.RowKit Go.Maps Go.Sort Go.Shelf

theorem toList_inj {a b : ByteArray} (h : a.toList = b.toList) : a = b := by
  rw [ByteArray.toList_eq, ByteArray.toList_eq] at h
  exact WideShapes.bytes_inj h
/-- What sector i has behind a crash. -/
def TornCase (S : List Sec) (c : Cr) (i : Nat) (pg : List Int) : Prop :=
  pg = (sec S i).1 ∨ ∃ l, (sec S i).2 = some l ∧ (pg = l ∨ ((place S i : Int) = c.torn ∧ 0 ≤ c.at' ∧ c.at' ≤ 128 ∧ pg = l.take c.at'.toNat ++ (sec S i).1.drop c.at'.toNat))
def outP (S : List Sec) (c : Cr) (i : Nat) : List Int := (crash1 c (place S i) (sec S i)).1
theorem torn_case {S : List Sec} (_ : ∀ s ∈ S, OkS s) (c : Cr) {i : Nat} (_ : i < S.length) : TornCase S c i (outP S c i) := by
  unfold TornCase outP crash1
  cases hs : (sec S i).2 with
  | none => exact .inl rfl
  | some l =>
    simp only
    unfold outl
    split
    · rename_i h
      exact .inr ⟨l, rfl, .inr ⟨h.1, h.2.1, h.2.2, rfl⟩⟩
    · split
      · exact .inr ⟨l, rfl, .inl rfl⟩
      · exact .inl rfl
theorem torn_read {D : Dk} {c : Cr} (h : ∀ s ∈ D.S, OkS s) {i : Nat} (hi : i < D.S.length) : rdE (crD D c) (i : Int) = 0 ∧ (rdB (crD D c) (i : Int)).length = 128 ∧ outP D.S c i = rdB (crD D c) (i : Int) := by
  have e : rdB (crD D c) (i : Int) = outP D.S c i := by
    unfold rdB
    rw [if_neg (by simp [crD]), if_pos (by simp [crD, crash_length]; omega), Int.toNat_natCast]
    show now (sec (crash c D.S) i) = _
    rw [sec_crash c D.S hi]
    unfold now outP
    rw [clean1]
    rfl
  refine ⟨?_, ?_, e.symm⟩
  · unfold rdE
    rw [if_neg (by simp [crD]), if_pos (by simp [crD, crash_length]; omega)]
  · rw [e]
    exact (ok_crash1 (ok_sec h i)).1.1
theorem torn_hit {S : List Sec} (h : ∀ s ∈ S, OkS s) {c : Cr} {i : Nat} {pg : List Int} (hc : TornCase S c i pg) {t : Nat} (ht : t = 0 ∨ t = 1 ∧ c.torn < (place S i : Int)) {sb sS sL : ByteArray} {at' : Int} (e1 : strOfNums pg = sb) (e2 : strOfNums (sec S i).1 = sS) (e3 : strOfNums ((sec S i).2.getD []) = sL) (e4 : c.at' = at') (hA : ¬ sb = sS) (hB : ¬ sb = sL) :
    ∃ A s4 s9, at' = ((A : Nat) : Int) ∧ (A : Int) ≤ 128 ∧ sL.size = 128 ∧ sS.size = 128 ∧ sL.extract 0 A = s4 ∧ sS.extract A 128 = s9 ∧ s4 ++ s9 = sb ∧ s4.size + s9.size ≤ 128 ∧ t = 0 ∧ c.torn < (place S (i + 1) : Int) := by
  subst e1 e2 e3 e4
  rcases hc with rfl | ⟨l, hl, rfl | ⟨h1, h2, h3, h4⟩⟩
  · exact absurd rfl hA
  · rw [hl] at hB; exact absurd rfl hB
  · have hs := (ok_sec h i).1.1
    have hll := ((ok_sec h i).2 l hl).1
    rw [hl]
    simp only [Option.getD_some]
    have hd : dirt S i = true := by unfold dirt; rw [hl]; rfl
    have hp := place_lt S (show i < i + 1 by omega) hd
    refine ⟨c.at'.toNat, strOfNums (l.take c.at'.toNat), strOfNums ((sec S i).1.drop c.at'.toNat), by omega, by omega, by rw [strOfNums_size, hll], by rw [strOfNums_size, hs], str_take _ _, ?_, ?_, ?_, by omega, by omega⟩
    · rw [← hs]; exact str_drop _ _
    · rw [str_append, h4]
    · rw [strOfNums_size, strOfNums_size, List.length_take, List.length_drop, hll, hs]; omega
end Go.Proofs.Ytmcikhdfpmkpnaa
