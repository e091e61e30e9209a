/- What a sector says, plain: the mark and the size as the reader tells them. -/
import Derived.Test.YtgjjjkokmgdmjaaDoorS7
namespace Go.Proofs.YtgjjjkokmgdmjaaDoor
open Go.RowKit
/-- The first number that the reader tells, its place and its fault; the second. -/
def rd1 (l : List Int) : Int × Int × Int := Oc.stepI 0 0 (Oc.tkFix (l.take 116) 0 8)
def rd2 (l : List Int) : Int × Int × Int := Oc.stepI (rd1 l).2.2 (rd1 l).2.1 (Oc.tkFix (l.take 116) (rd1 l).2.1 1)
def mk1 (l : List Int) : Nat := if 9007199254740991 < Oc.valB 0 (l.take 8) then 0 else Oc.valB 0 (l.take 8)
def sz1 (l : List Int) : Nat := if 9007199254740991 < Oc.valB 0 (l.take 8) then 0 else (l.getD 8 0).toNat
theorem tk1 {l : List Int} (hl : l.length = 128) : Oc.tkFix (l.take 116) 0 8 = if 9007199254740991 < Oc.valB 0 (l.take 8) then (0, 0, 6) else ((Oc.valB 0 (l.take 8) : Int), 8, 0) := by
  unfold Oc.tkFix
  have e1 : (l.take 116).length = 116 := by simp [hl]
  have e2 : ((l.take 116).drop (0 : Int).toNat).take (8 : Int).toNat = l.take 8 := by
    show ((l.take 116).drop 0).take 8 = l.take 8
    rw [List.drop_zero, List.take_take]
    rfl
  rw [e1, e2, if_neg (by omega), if_neg (by omega)]
  rfl
theorem rd1_eq {l : List Int} (hl : l.length = 128) : rd1 l = if 9007199254740991 < Oc.valB 0 (l.take 8) then (0, 0, 6) else ((Oc.valB 0 (l.take 8) : Int), 8, 0) := by
  unfold rd1 Oc.stepI
  rw [tk1 hl]
  by_cases h : 9007199254740991 < Oc.valB 0 (l.take 8)
  · simp [h]
  · simp [h]
theorem rd1_mk {l : List Int} (hl : l.length = 128) : (rd1 l).1 = (mk1 l : Int) := by
  rw [rd1_eq hl]
  unfold mk1
  split <;> simp
theorem rd2_sz {l : List Int} (hl : l.length = 128) (hb : Dk.Byt l) : (rd2 l).1 = (sz1 l : Int) := by
  unfold rd2 sz1
  rw [rd1_eq hl]
  by_cases h : 9007199254740991 < Oc.valB 0 (l.take 8)
  · simp [h, Oc.stepI]
  · have e1 : (l.take 116).length = 116 := by simp [hl]
    have h8 : 8 < l.length := by omega
    have e2 : ((l.take 116).drop (8 : Int).toNat).take (1 : Int).toNat = [l.getD 8 0] := by
      show ((l.take 116).drop 8).take 1 = [l.getD 8 0]
      rw [List.drop_take, List.take_take, show min 1 (116 - 8) = 1 from rfl, List.drop_eq_getElem_cons h8, List.getD_eq_getElem?_getD, List.getElem?_eq_getElem h8]
      rfl
    have hx := hb (l.getD 8 0) (by rw [List.getD_eq_getElem?_getD, List.getElem?_eq_getElem h8]; exact List.getElem_mem h8)
    simp only [if_neg h]
    unfold Oc.tkFix
    rw [e1, e2, if_neg (by omega), if_neg (by omega)]
    have hv : Oc.valB 0 [l.getD 8 0] = (l.getD 8 0).toNat := by simp [Oc.valB]
    rw [hv, if_neg (by omega)]
    simp [Oc.stepI]
theorem say_eq {cr : List Int → Nat} (l : List Int) : Sl.sayB cr l = if 1 ≤ mk1 l ∧ sz1 l ≤ 100 ∧ l = Sl.sealB cr (mk1 l) ((l.drop 9).take (sz1 l)) then (mk1 l, (l.drop 9).take (sz1 l)) else (0, []) := by
  unfold Sl.sayB mk1 sz1
  by_cases h : 9007199254740991 < Oc.valB 0 (l.take 8)
  · rw [if_neg (by omega)]
    simp [h]
  · simp only [if_neg h]
    by_cases h2 : 1 ≤ Oc.valB 0 (l.take 8) ∧ (l.getD 8 0).toNat ≤ 100 ∧ l = Sl.sealB cr (Oc.valB 0 (l.take 8)) ((l.drop 9).take (l.getD 8 0).toNat)
    · rw [if_pos h2, if_pos ⟨h2.1, by omega, h2.2⟩]
    · rw [if_neg h2, if_neg (fun q => h2 ⟨q.1, q.2.2⟩)]
theorem mk1_le (l : List Int) : mk1 l ≤ 9007199254740991 := by
  unfold mk1
  split <;> omega
end Go.Proofs.YtgjjjkokmgdmjaaDoor
