/- What lasts: plain facts. Deeds in a later world. -/
import Derived.Test.YtmcikhdfpmkpnaaFrame3
import Derived.Test.YtmcikhdfpmkpnaaF1
namespace Go.Proofs.Ytmcikhdfpmkpnaa
open Go.RowKit Go.Maps Go.Sort Go.Shelf

/-- Sector j is sure and has l. -/
def Keeps (d : Dk) (j : Nat) (l : List Int) : Prop := j < d.S.length ∧ sec d.S j = (l, none)
theorem keeps_set {d : Dk} {j : Nat} {l : List Int} (h : Keeps d j l) {i : Nat} {x : Sec} (hi : i < d.S.length) (hne : j ≠ i) : j < (d.S.set i x).length ∧ sec (d.S.set i x) j = (l, none) :=
  ⟨by simpa using h.1, by rw [sec_set hi, if_neg hne]; exact h.2⟩
theorem keeps_wr {d : Dk} {j : Nat} {l : List Int} (h : Keeps d j l) (i : Int) (b : List Int) (hne : i ≠ (j : Int)) : Keeps (wrD d i b) j l := by
  unfold wrD
  split
  · exact h
  split
  · exact h
  split
  · exact h
  · rename_i hf _
    obtain ⟨h0, h1, _⟩ := fitE_zero (Classical.not_not.1 hf)
    exact keeps_set h (by omega) (by omega)
theorem keeps_rot {d : Dk} {j : Nat} {l : List Int} (h : Keeps d j l) (i : Int) (b : List Int) (hne : i ≠ (j : Int)) : Keeps (rotD d i b) j l := by
  unfold rotD
  split
  · exact h
  · rename_i hf
    obtain ⟨h0, h1, _⟩ := fitE_zero (Classical.not_not.1 hf)
    exact keeps_set h (by omega) (by omega)
theorem keeps_flush {d : Dk} {j : Nat} {l : List Int} (h : Keeps d j l) : j < (flush d.S).length ∧ sec (flush d.S) j = (l, none) :=
  ⟨by simpa [flush] using h.1, by rw [sec_flush h.1, h.2]; rfl⟩
theorem keeps_flu {d : Dk} {j : Nat} {l : List Int} (h : Keeps d j l) : Keeps (fluD d) j l := by
  unfold fluD
  split
  · exact h
  split
  · exact h
  · exact keeps_flush h
theorem keeps_trp {d : Dk} {j : Nat} {l : List Int} (h : Keeps d j l) (n : Int) : Keeps (trpD d n) j l := by
  unfold trpD
  split
  · exact h
  split
  · exact h
  · exact h
theorem keeps_cr {d : Dk} {j : Nat} {l : List Int} (h : Keeps d j l) (c : Cr) : Keeps (crD d c) j l :=
  ⟨by simpa [crD, crash_length] using h.1, by show sec (crash c d.S) j = _; rw [sec_crash c d.S h.1, h.2]; rfl⟩
theorem keeps_rd {d : Dk} {j : Nat} {l : List Int} (h : Keeps d j l) (hd : d.down = false) : rdE d (j : Int) = 0 ∧ rdB d (j : Int) = l := by
  have h1 := h.1
  unfold rdE rdB
  rw [hd]
  simp only [Bool.false_eq_true, if_false]
  rw [if_pos (by omega), if_pos (by omega), Int.toNat_natCast, h.2]
  exact ⟨rfl, rfl⟩
/-- A write of a disk that is up, and a flush behind it. -/
theorem lasts_start {d : Dk} (hd : d.down = false) (i : Int) (b : List Int) :
    (trpE d 0 = 0 ∧ fluE (wrD (trpD d 0) i b) = 0) ∧ (wrE (trpD d 0) i b.length = 0 → ∃ j : Nat, i = j ∧ Keeps (fluD (wrD (trpD d 0) i b)) j (fil b) ∧ (fluD (wrD (trpD d 0) i b)).down = false) := by
  have e1 : trpD d 0 = { d with trip := 0 } := by unfold trpD; rw [hd]; rfl
  have e0 : trpE d 0 = 0 := by unfold trpE; rw [hd]; rfl
  rw [e1]
  by_cases hf : fitE { d with trip := 0 } i b.length = 0
  · have e2 : wrD { d with trip := 0 } i b = setWr { d with trip := dec 0 } i.toNat (fil b) := by
      unfold wrD
      rw [if_neg (by simp [hd]), if_neg (by simp [hf]), if_neg (by simp)]
    obtain ⟨h0, h1, _⟩ := fitE_zero hf
    have h1' : i < (d.S.length : Int) := h1
    have e3 : fluD (setWr { d with trip := dec 0 } i.toNat (fil b)) = flD { setWr { d with trip := dec 0 } i.toNat (fil b) with trip := dec (dec 0) } := by
      unfold fluD
      rw [if_neg (by simp [setWr, hd]), if_neg (by simp [setWr, dec])]
      rfl
    have e4 : fluE (setWr { d with trip := dec 0 } i.toNat (fil b)) = 0 := by
      unfold fluE
      rw [if_neg (by simp [setWr, hd]), if_neg (by simp [setWr, dec])]
    rw [e2]
    refine ⟨⟨e0, e4⟩, fun _ => ⟨i.toNat, by omega, ?_, ?_⟩⟩
    · rw [e3]
      refine ⟨by simp [flD, setWr, flush]; omega, ?_⟩
      show sec (flush (d.S.set i.toNat ((sec d.S i.toNat).1, some (fil b)))) i.toNat = _
      rw [sec_flush (by simp; omega), sec_set (by omega), if_pos rfl]
      rfl
    · rw [e3]; exact hd
  · have e2 : wrD { d with trip := 0 } i b = { d with trip := 0 } := by
      unfold wrD
      rw [if_neg (by simp [hd]), if_pos hf]
    have e4 : fluE { d with trip := 0 } = 0 := by
      unfold fluE
      rw [if_neg (by simp [hd]), if_neg (by simp)]
    rw [e2]
    refine ⟨⟨e0, e4⟩, fun hw => ?_⟩
    unfold wrE at hw
    rw [if_neg (by simp [hd]), if_pos hf] at hw
    exact absurd hw hf

theorem DdV.up {w w' : World} {bv kv : Value} {x : Dd} (h : DdV w w.heap.size bv kv x) (hb : Below w.heap.size w w') : DdV w' w'.heap.size bv kv x :=
  { h.below hb with fb := fun h0 k hk => Nat.lt_of_lt_of_le (h.fb h0 k hk) hb.size, fk := fun h0 k hk => Nat.lt_of_lt_of_le (h.fk h0 k hk) hb.size }
theorem Deeds.below {w w' : World} {v : Value} {ds : List Dd} (h : Deeds w v ds) (hb : Below w.heap.size w w') : Deeds w' v ds := by
  obtain ⟨ao, cap, rfl, hc⟩ := h
  refine ⟨ao, cap, rfl, fun j hj => ?_⟩
  obtain ⟨b, o, bv, kv, e, hl, z0, z1, z2, z3, z4, z5, hd⟩ := hc j hj
  exact ⟨b, o, bv, kv, e, Nat.lt_of_lt_of_le hl hb.size, (hb.cell (p := ⟨b, o + j * 6, none⟩) hl).trans z0, (hb.cell (p := ⟨b, o + j * 6 + 1, none⟩) hl).trans z1, (hb.cell (p := ⟨b, o + j * 6 + 2, none⟩) hl).trans z2, (hb.cell (p := ⟨b, o + j * 6 + 3, none⟩) hl).trans z3, (hb.cell (p := ⟨b, o + j * 6 + 4, none⟩) hl).trans z4, (hb.cell (p := ⟨b, o + j * 6 + 5, none⟩) hl).trans z5, hd.up hb⟩
end Go.Proofs.Ytmcikhdfpmkpnaa
