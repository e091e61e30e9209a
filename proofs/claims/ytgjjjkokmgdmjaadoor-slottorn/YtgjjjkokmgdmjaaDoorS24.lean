/- SlotTorn, plain: the last Set, and a crash. -/
import Derived.Test.YtgjjjkokmgdmjaaDoorS23
namespace Go.Proofs.YtgjjjkokmgdmjaaDoor
open Go.RowKit
section
variable {d : Dk.Dk} {was last : List Int} {m : Nat} {had : Bool}
theorem sc0_sure {i : Nat} (h : (Dk.sec d.S i).2 = none) : sc0 d i = (Dk.sec d.S i).1 := by
  unfold sc0 Dk.now
  rw [h]
  rfl
/-- The disk with a trip. -/
def tripD (d : Dk.Dk) (n : Int) : Dk.Dk := { d with trip := n }
theorem sc0_trip (n : Int) (i : Nat) : sc0 (tripD d n) i = sc0 d i := rfl
theorem trip_ok (hd : d.down = false) {n : Int} (hn : 0 ≤ n) : Dk.trpE d n = 0 ∧ Dk.trpD d n = tripD d n := by
  refine ⟨by unfold Dk.trpE; rw [hd, if_neg (by simp), if_neg (by omega)], ?_⟩
  unfold Dk.trpD
  rw [if_neg (by rw [hd]; simp), if_neg (by omega)]
  rfl
theorem crD_facts (d : Dk.Dk) (c : Dk.Cr) : (Dk.crD d c).down = false ∧ (Dk.crD d c).S.length = d.S.length ∧ (Dk.crD d c).life = wrap64 (d.life + 1) :=
  ⟨rfl, Dk.crash_length c d.S, rfl⟩
theorem last_out (hf : Fine d 3) (h : Cel (sc0 d 1) (sc0 d 2) m was had) (hm : m + 1 ≤ 9007199254740991) (tr : Nat) (htr : tr < 4) (c : Dk.Cr) :
    Out (stE (tripD d tr) 1 last) had was last (gt (sc0 (Dk.crD (stD (tripD d tr) 1 last) c) 1) (sc0 (Dk.crD (stD (tripD d tr) 1 last) c) 2)) ∧ (stD (tripD d tr) 1 last).S.length = 3 ∧ (stD (tripD d tr) 1 last).life = d.life := by
  have hold := cel_get h (show m ≤ 9007199254740991 by omega)
  by_cases hl : 100 < last.length
  · obtain ⟨e1, e2⟩ := st_long (d := tripD d tr) (b := 1) hl
    rw [e1, e2]
    refine ⟨?_, hf.len, rfl⟩
    rw [crash_sure (d := tripD d tr) (show 1 < d.S.length by rw [hf.len]; decide) (hf.sure 1), crash_sure (d := tripD d tr) (show 2 < d.S.length by rw [hf.len]; decide) (hf.sure 2)]
    exact .inr (.inr ⟨rfl, hl, hold⟩)
  have hl' : last.length ≤ 100 := by omega
  have hmk := cel_mark h (show m ≤ 9007199254740991 by omega)
  have h6 : ¬ (100 < last.length ∨ (cn2 (sc0 (tripD d tr) 1) (sc0 (tripD d tr) (1 + 1))).2.1 = 9007199254740991) := by
    rw [show (1 : Nat) + 1 = 2 from rfl, sc0_trip, sc0_trip, hmk]; omega
  have hi : stI d 1 < d.S.length := by have := stI_lt d 1; rw [hf.len]; omega
  have hI : ∀ n : Int, stI (tripD d n) 1 = stI d 1 := fun _ => rfl
  have hSS : ∀ n : Int, stS (tripD d n) 1 last = stS d 1 last := fun _ => rfl
  have hE : stE (tripD d tr) 1 last = if Dk.wrE (tripD d tr) (stI d 1 : Int) 128 ≠ 0 then Dk.wrE (tripD d tr) (stI d 1 : Int) 128 else Dk.fluE (Dk.wrD (tripD d tr) (stI d 1 : Int) (stS d 1 last)) := by
    unfold stE
    rw [if_neg h6]
    rfl
  have hD : stD (tripD d tr) 1 last = if Dk.wrE (tripD d tr) (stI d 1 : Int) 128 ≠ 0 then Dk.wrD (tripD d tr) (stI d 1 : Int) (stS d 1 last) else Dk.fluD (Dk.wrD (tripD d tr) (stI d 1 : Int) (stS d 1 last)) := by
    unfold stD
    rw [if_neg h6]
    rfl
  have hwE : Dk.wrE (tripD d tr) (stI d 1 : Int) 128 = if (tr : Int) = 1 then 7 else 0 := wrE_at (d := tripD d tr) hf.down hi
  have hwD : Dk.wrD (tripD d tr) (stI d 1 : Int) (stS d 1 last) = if (tr : Int) = 1 then { tripD d tr with down := true } else { tripD d tr with S := d.S.set (stI d 1) ((Dk.sec d.S (stI d 1)).1, some (stS d 1 last)), trip := Dk.dec (tr : Int) } := wrD_at (d := tripD d tr) hf.down hi (stS_len hl')
  rcases (by omega : tr = 0 ∨ tr = 1 ∨ tr = 2 ∨ tr = 3) with rfl | rfl | rfl | rfl
  · -- no trip
    have hf' : Fine (tripD d ((0 : Nat) : Int)) 3 := ⟨hf.down, rfl, hf.len, hf.sure⟩
    obtain ⟨e1, e2, e3, e4⟩ := cel_next (t := last) hf' (show Cel (sc0 (tripD d ((0 : Nat) : Int)) 1) (sc0 (tripD d ((0 : Nat) : Int)) 2) m was had from h) hm hl'
    refine ⟨?_, e2.len, e3⟩
    rw [e1, crash_sure (by rw [e2.len]; decide) (e2.sure 1), crash_sure (by rw [e2.len]; decide) (e2.sure 2)]
    rcases cel_get e4 hm with ⟨_, q⟩ | ⟨q, _⟩
    · exact .inl ⟨rfl, q⟩
    · cases q
  · -- the write trips
    rw [hE, hD, hwE, hwD]
    have e : ((1 : Nat) : Int) = 1 := rfl
    rw [e, if_pos rfl, if_pos rfl, if_pos (by decide), if_pos (by decide)]
    refine ⟨?_, hf.len, rfl⟩
    rw [crash_sure (d := { tripD d 1 with down := true }) (show 1 < d.S.length by rw [hf.len]; decide) (hf.sure 1), crash_sure (d := { tripD d 1 with down := true }) (show 2 < d.S.length by rw [hf.len]; decide) (hf.sure 2)]
    refine .inr (.inl ⟨rfl, ?_⟩)
    rcases hold with ⟨a, b⟩ | ⟨a, b⟩
    · exact .inl ⟨a, b⟩
    · exact .inr (.inl ⟨a, .inl b⟩)
  · -- the flush trips
    have e : ((2 : Nat) : Int) = 2 := rfl
    have eq1 : Dk.wrD (tripD d ((2 : Nat) : Int)) (stI d 1 : Int) (stS d 1 last) = { tripD d 2 with S := d.S.set (stI d 1) ((Dk.sec d.S (stI d 1)).1, some (stS d 1 last)), trip := 1 } := by
      rw [hwD, if_neg (by decide)]
      rfl
    rw [hE, hD, hwE, if_neg (by decide), if_neg (by simp), eq1]
    have eq2 : Dk.fluE { tripD d 2 with S := d.S.set (stI d 1) ((Dk.sec d.S (stI d 1)).1, some (stS d 1 last)), trip := 1 } = 7 := by
      unfold Dk.fluE tripD
      simp only [hf.down]
      rfl
    have eq3 : Dk.fluD { tripD d 2 with S := d.S.set (stI d 1) ((Dk.sec d.S (stI d 1)).1, some (stS d 1 last)), trip := 1 } = { tripD d 2 with S := d.S.set (stI d 1) ((Dk.sec d.S (stI d 1)).1, some (stS d 1 last)), trip := 1, down := true } := by
      unfold Dk.fluD tripD
      simp only [hf.down]
      rfl
    rw [eq2, eq3]
    refine ⟨?_, by simp [hf.len], rfl⟩
    generalize hd2 : ({ tripD d 2 with S := d.S.set (stI d 1) ((Dk.sec d.S (stI d 1)).1, some (stS d 1 last)), trip := 1, down := true } : Dk.Dk) = d2
    have hS2 : d2.S = d.S.set (stI d 1) ((Dk.sec d.S (stI d 1)).1, some (stS d 1 last)) := by rw [← hd2]
    have hl2 : d2.S.length = 3 := by rw [hS2, List.length_set, hf.len]
    have hoth : ∀ j, j < 3 → j ≠ stI d 1 → sc0 (Dk.crD d2 c) j = sc0 d j := fun j hj hne => by
      have hs : Dk.sec d2.S j = Dk.sec d.S j := by rw [hS2, Dk.sec_set hi, if_neg hne]
      rw [crash_sure (by rw [hl2]; exact hj) (by rw [hs]; exact hf.sure j)]
      unfold sc0
      rw [hs]
    have hthe : sc0 (Dk.crD d2 c) (stI d 1) = sc0 d (stI d 1) ∨ sc0 (Dk.crD d2 c) (stI d 1) = stS d 1 last ∨ ∃ j, j ≤ 128 ∧ sc0 (Dk.crD d2 c) (stI d 1) = (stS d 1 last).take j ++ (sc0 d (stI d 1)).drop j := by
      have hs : Dk.sec d2.S (stI d 1) = (sc0 d (stI d 1), some (stS d 1 last)) := by rw [hS2, Dk.sec_set hi, if_pos rfl, sc0_sure (hf.sure _)]
      exact crash_dirty (by rw [hS2, List.length_set]; exact hi) hs
    refine torn_get hf h hm hl' hthe ?_ ?_
    · by_cases q : stI d 1 = 1
      · rw [if_pos q, q]
      · rw [if_neg q]; exact hoth 1 (by decide) (fun e => q e.symm)
    · by_cases q : stI d 1 = 2
      · rw [if_pos q, q]
      · rw [if_neg q]; exact hoth 2 (by decide) (fun e => q e.symm)
  · -- the trip is behind
    have hf' : Fine (tripD d ((0 : Nat) : Int)) 3 := ⟨hf.down, rfl, hf.len, hf.sure⟩
    obtain ⟨_, e2, _, e4⟩ := cel_next (t := last) hf' (show Cel (sc0 (tripD d ((0 : Nat) : Int)) 1) (sc0 (tripD d ((0 : Nat) : Int)) 2) m was had from h) hm hl'
    have h60 : (cn2 (sc0 (tripD d ((0 : Nat) : Int)) 1) (sc0 (tripD d ((0 : Nat) : Int)) (1 + 1))).2.1 < 9007199254740991 := by rw [show (1 : Nat) + 1 = 2 from rfl, sc0_trip, sc0_trip, hmk]; omega
    have e0 := (st_ok (d := tripD d ((0 : Nat) : Int)) (b := 1) hf.down rfl (show 1 + 2 ≤ d.S.length by rw [hf.len]; decide) hl' h60).2
    have eq1 : Dk.wrD (tripD d ((3 : Nat) : Int)) (stI d 1 : Int) (stS d 1 last) = { tripD d 3 with S := d.S.set (stI d 1) ((Dk.sec d.S (stI d 1)).1, some (stS d 1 last)), trip := 2 } := by
      rw [hwD, if_neg (by decide)]
      rfl
    rw [hE, hD, hwE, if_neg (by decide), if_neg (by simp), eq1]
    have eq2 : Dk.fluE { tripD d 3 with S := d.S.set (stI d 1) ((Dk.sec d.S (stI d 1)).1, some (stS d 1 last)), trip := 2 } = 0 := by
      unfold Dk.fluE tripD
      simp only [hf.down]
      rfl
    have eq3 : Dk.fluD { tripD d 3 with S := d.S.set (stI d 1) ((Dk.sec d.S (stI d 1)).1, some (stS d 1 last)), trip := 2 } = { tripD d 3 with S := Dk.flush (d.S.set (stI d 1) ((Dk.sec d.S (stI d 1)).1, some (stS d 1 last))), trip := 1 } := by
      unfold Dk.fluD tripD Dk.flD
      simp only [hf.down]
      rfl
    rw [eq2, eq3]
    generalize hd2 : ({ tripD d 3 with S := Dk.flush (d.S.set (stI d 1) ((Dk.sec d.S (stI d 1)).1, some (stS d 1 last))), trip := 1 } : Dk.Dk) = d2
    have hS2 : d2.S = (stD (tripD d ((0 : Nat) : Int)) 1 last).S := by rw [← hd2, e0]; rfl
    have hl2 : d2.S.length = 3 := by rw [hS2]; exact e2.len
    refine ⟨?_, hl2, by rw [← hd2]; rfl⟩
    have hsc : ∀ i, sc0 d2 i = sc0 (stD (tripD d ((0 : Nat) : Int)) 1 last) i := fun i => by unfold sc0; rw [hS2]
    rw [crash_sure (by rw [hl2]; decide) (by rw [hS2]; exact e2.sure 1), crash_sure (by rw [hl2]; decide) (by rw [hS2]; exact e2.sure 2), hsc, hsc]
    rcases cel_get e4 hm with ⟨_, q⟩ | ⟨q, _⟩
    · exact .inl ⟨rfl, q⟩
    · cases q
end
/-- The Sets of some texts, one behind the other: the disk, what is told, and whether there is something. -/
structure Ts where
  d : Dk.Dk
  was : List Int
  had : Bool
def tstep (s : Ts) (t : List Int) : Ts := if 100 < t.length then s else ⟨stD s.d 1 t, t, true⟩
def truns (L : List (List Int)) : Ts := L.foldl tstep ⟨Dk.newD 3, [], false⟩
theorem truns_snoc (L : List (List Int)) (t : List Int) : truns (L ++ [t]) = tstep (truns L) t := by unfold truns; rw [List.foldl_append]; rfl
theorem truns_ok (L : List (List Int)) (hL : L.length ≤ 30) : Fine (truns L).d 3 ∧ (truns L).d.life = 0 ∧ ∃ m, m ≤ L.length ∧ Cel (sc0 (truns L).d 1) (sc0 (truns L).d 2) m (truns L).was (truns L).had := by
  obtain ⟨n, hn⟩ : ∃ n, L.length = n := ⟨_, rfl⟩
  induction n generalizing L with
  | zero =>
    have : L = [] := List.eq_nil_of_length_eq_zero hn
    subst this
    exact ⟨fine_new 3, rfl, 0, Nat.le_refl _, .inl ⟨rfl, rfl, rfl, sc0_new 3 1, sc0_new 3 2⟩⟩
  | succ n ih =>
    obtain ⟨L', t, rfl⟩ : ∃ L' t, L = L' ++ [t] := ⟨L.dropLast, L.getLast (by intro e; rw [e] at hn; simp at hn), (List.dropLast_concat_getLast _).symm⟩
    have hl' : L'.length = n := by simpa using hn
    obtain ⟨i1, i2, m, i3, i4⟩ := ih L' (by omega) hl'
    rw [truns_snoc]
    unfold tstep
    by_cases ht : 100 < t.length
    · rw [if_pos ht]
      exact ⟨i1, i2, m, by simp; omega, i4⟩
    · rw [if_neg ht]
      obtain ⟨_, e2, e3, e4⟩ := cel_next i1 i4 (by omega) (show t.length ≤ 100 by omega)
      exact ⟨e2, e3.trans i2, m + 1, by simp; omega, e4⟩
theorem truns_set (L : List (List Int)) (hL : L.length ≤ 30) (t : List Int) : stE (truns L).d 1 t = (if 100 < t.length then 6 else 0) ∧ stD (truns L).d 1 t = (tstep (truns L) t).d := by
  obtain ⟨i1, i2, m, i3, i4⟩ := truns_ok L hL
  unfold tstep
  by_cases ht : 100 < t.length
  · rw [if_pos ht, if_pos ht]
    exact st_long ht
  · rw [if_neg ht, if_neg ht]
    exact ⟨(cel_next i1 i4 (by omega) (show t.length ≤ 100 by omega)).1, rfl⟩
end Go.Proofs.YtgjjjkokmgdmjaaDoor
