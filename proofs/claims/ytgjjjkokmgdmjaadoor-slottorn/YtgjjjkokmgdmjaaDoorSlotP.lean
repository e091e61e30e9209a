/- A sector of a cell, as plain bytes: how it is sealed, what it says, what a torn one says. -/
import Derived.Test.YtgjjjkokmgdmjaaDoorMoc
namespace Go.Proofs.YtgjjjkokmgdmjaaDoor.Sl
open Go.Proofs.YtgjjjkokmgdmjaaDoor.Oc

/-- The bytes that the check sum guards. -/
def bodB (m : Nat) (t : List Int) : List Int := fixB m 8 ++ ((t.length : Int) :: (t ++ List.replicate (107 - t.length) 0))
/-- A sector of a mark and a text; cr: the check sum. -/
def sealB (cr : List Int → Nat) (m : Nat) (t : List Int) : List Int := bodB m t ++ (fixB (cr (bodB m t)) 4 ++ fixB m 8)
/-- What a sector says: its mark and its text; mark 0: it is not whole. -/
def sayB (cr : List Int → Nat) (b : List Int) : Nat × List Int :=
  if 1 ≤ valB 0 (b.take 8) ∧ valB 0 (b.take 8) ≤ 9007199254740991 ∧ (b.getD 8 0).toNat ≤ 100 ∧ b = sealB cr (valB 0 (b.take 8)) ((b.drop 9).take (b.getD 8 0).toNat) then (valB 0 (b.take 8), (b.drop 9).take (b.getD 8 0).toNat) else (0, [])
variable {cr : List Int → Nat}
theorem bodB_len {m : Nat} {t : List Int} (ht : t.length ≤ 107) : (bodB m t).length = 116 := by
  simp [bodB, fixB_length]; omega
theorem sealB_len {m : Nat} {t : List Int} (ht : t.length ≤ 107) : (sealB cr m t).length = 128 := by
  simp [sealB, bodB_len ht, fixB_length]
theorem seal_head (m : Nat) (t : List Int) : (sealB cr m t).take 8 = fixB m 8 := by
  unfold sealB bodB
  rw [List.append_assoc, List.take_append_of_le_length (by rw [fixB_length]; exact Nat.le_refl _), List.take_of_length_le (by rw [fixB_length]; exact Nat.le_refl _)]
theorem seal_tail {m : Nat} {t : List Int} (ht : t.length ≤ 107) : (sealB cr m t).drop 120 = fixB m 8 := by
  unfold sealB
  rw [← List.append_assoc, List.drop_append_of_le_length (by simp [bodB_len ht, fixB_length]), List.drop_eq_nil_of_le (by simp [bodB_len ht, fixB_length]), List.nil_append]
theorem seal_size (m : Nat) (t : List Int) : (sealB cr m t).getD 8 0 = (t.length : Int) := by
  unfold sealB bodB
  simp [List.getD, fixB_length]
theorem seal_text {m : Nat} {t : List Int} : ((sealB cr m t).drop 9).take t.length = t := by
  have e : sealB cr m t = (fixB m 8 ++ [(t.length : Int)]) ++ (t ++ (List.replicate (107 - t.length) 0 ++ (fixB (cr (bodB m t)) 4 ++ fixB m 8))) := by
    have e0 : bodB m t = (fixB m 8 ++ [(t.length : Int)]) ++ (t ++ List.replicate (107 - t.length) 0) := by simp [bodB]
    unfold sealB
    rw [e0]
    simp
  have h9 : (fixB m 8 ++ [(t.length : Int)]).length = 9 := by simp [fixB_length]
  rw [e, List.drop_append_of_le_length (by rw [h9]; exact Nat.le_refl _), List.drop_of_length_le (by rw [h9]; exact Nat.le_refl _), List.nil_append]
  simp
theorem val_fix {m : Nat} (hm : m ≤ 9007199254740991) : valB 0 (fixB m 8) = m := by
  rw [valB_fixB]; omega
theorem say_seal {m : Nat} {t : List Int} (h1 : 1 ≤ m) (hm : m ≤ 9007199254740991) (ht : t.length ≤ 100) : sayB cr (sealB cr m t) = (m, t) := by
  unfold sayB
  rw [seal_head, val_fix hm, seal_size]
  simp only [Int.toNat_natCast]
  rw [seal_text, if_pos ⟨h1, hm, ht, rfl⟩]
theorem say_whole {b : List Int} (h : (sayB cr b).1 ≠ 0) : b = sealB cr (sayB cr b).1 (sayB cr b).2 ∧ 1 ≤ (sayB cr b).1 ∧ (sayB cr b).1 ≤ 9007199254740991 ∧ (sayB cr b).2.length ≤ 100 := by
  unfold sayB at h ⊢
  split
  · rename_i hc
    refine ⟨hc.2.2.2, hc.1, hc.2.1, ?_⟩
    simp only [List.length_take]
    omega
  · rename_i hc
    rw [if_neg hc] at h
    exact absurd rfl h
theorem say_none {b : List Int} (h : (sayB cr b).1 = 0) : sayB cr b = (0, []) := by
  unfold sayB at h ⊢
  split
  · rename_i hc
    rw [if_pos hc] at h
    simp only at h
    omega
  · rfl
theorem fix_inj {m n : Nat} (hm : m ≤ 9007199254740991) (hn : n ≤ 9007199254740991) (h : fixB m 8 = fixB n 8) : m = n := by
  have := congrArg (valB 0) h
  rwa [val_fix hm, val_fix hn] at this
theorem fix_zero : fixB 0 8 = List.replicate 8 0 := by decide
theorem take_drop_eq {l m : List Int} {j : Nat} (h : l.take j = m.take j) (h2 : l.drop j = m.drop j) : l = m := by
  rw [← List.take_append_drop j l, h, h2, List.take_append_drop]
/-- A torn sector: it is the old one, the new one, or it is not whole. -/
theorem mix_say {old new : List Int} {m n : Nat} {j : Nat} (hold : old.length = 128) (hnew : new.length = 128) (hm : m ≤ 9007199254740991) (hn : n ≤ 9007199254740991) (hmn : m ≠ n)
    (oh : old.take 8 = fixB m 8) (ot : old.drop 120 = fixB m 8) (nh : new.take 8 = fixB n 8) (nt : new.drop 120 = fixB n 8) (hj : j ≤ 128) :
    new.take j ++ old.drop j = old ∨ new.take j ++ old.drop j = new ∨ sayB cr (new.take j ++ old.drop j) = (0, []) := by
  obtain ⟨b, hb⟩ : ∃ b, new.take j ++ old.drop j = b := ⟨_, rfl⟩
  rw [hb]
  have hbl : b.length = 128 := by rw [← hb]; simp; omega
  by_cases hz : (sayB cr b).1 = 0
  · exact .inr (.inr (say_none hz))
  obtain ⟨he, h1, h2, h3⟩ := say_whole hz
  have bh : b.take 8 = b.drop 120 := by rw [he, seal_head, seal_tail (by omega)]
  have bj : b.take j = new.take j := by rw [← hb, List.take_append_of_le_length (by simp; omega), List.take_take, Nat.min_self]
  have bd : b.drop j = old.drop j := by rw [← hb, List.drop_append_of_le_length (by simp; omega), List.drop_eq_nil_of_le (by simp; omega), List.nil_append]
  by_cases h8 : j ≤ 8
  · -- the last bytes are old
    have e1 : b.drop 120 = fixB m 8 := by
      have : b.drop 120 = (b.drop j).drop (120 - j) := by rw [List.drop_drop]; congr 1; omega
      rw [this, bd, List.drop_drop, show j + (120 - j) = 120 by omega, ot]
    refine .inl (take_drop_eq (j := j) ?_ bd)
    have e2 : b.take 8 = old.take 8 := by rw [bh, e1, oh]
    have := congrArg (List.take j) e2
    rwa [List.take_take, List.take_take, Nat.min_eq_left h8] at this
  · by_cases h120 : j < 120
    · exfalso
      have e1 : b.drop 120 = fixB m 8 := by
        have : b.drop 120 = (b.drop j).drop (120 - j) := by rw [List.drop_drop]; congr 1; omega
        rw [this, bd, List.drop_drop, show j + (120 - j) = 120 by omega, ot]
      have e2 : b.take 8 = fixB n 8 := by
        have := congrArg (List.take 8) bj
        rw [List.take_take, List.take_take, Nat.min_eq_left (by omega), nh] at this
        exact this
      exact hmn (fix_inj hm hn (by rw [← e1, ← bh, e2]))
    · -- the first bytes are new
      have e2 : b.take 8 = fixB n 8 := by
        have := congrArg (List.take 8) bj
        rw [List.take_take, List.take_take, Nat.min_eq_left (by omega), nh] at this
        exact this
      refine .inr (.inl (take_drop_eq (j := 120) ?_ ?_))
      · have := congrArg (List.take 120) bj
        rwa [List.take_take, List.take_take, Nat.min_eq_left (by omega)] at this
      · rw [← bh, e2, nt]
theorem zp_head : (List.replicate 128 (0 : Int)).take 8 = fixB 0 8 := by decide
theorem zp_tail : (List.replicate 128 (0 : Int)).drop 120 = fixB 0 8 := by decide
theorem say_zero : sayB cr (List.replicate 128 0) = (0, []) := by
  apply say_none
  by_cases h : (sayB cr (List.replicate 128 0)).1 = 0
  · exact h
  · obtain ⟨he, h1, h2, _⟩ := say_whole h
    have := congrArg (List.take 8) he
    rw [zp_head, seal_head] at this
    have := fix_inj (by decide) h2 this
    omega
end Go.Proofs.YtgjjjkokmgdmjaaDoor.Sl
