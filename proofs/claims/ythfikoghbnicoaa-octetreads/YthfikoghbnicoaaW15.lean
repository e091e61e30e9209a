/- Contracts of both readers, whole: what a step tells, and what the reader is then. -/
import Derived.Test.YthfikoghbnicoaaW12
import Derived.Test.YthfikoghbnicoaaW13
import Derived.Test.YthfikoghbnicoaaW14
namespace Go.Proofs.Ythfikoghbnicoaa
open Go.RowKit

/-- A reader in memory: its fault, its bytes, its place. -/
def XO (e i : Int) (a : Option Addr) (L c : Nat) : Obj := .cells #[.int .i64 e, .slice a L c, .int .i64 i] 61 (0, 0)
/-- The document's reader in memory. -/
def YO (e i : Int) (a : Option Addr) (L c : Nat) : Obj := .cells #[.slice a L c, .int .i64 i, .int .i64 e] 51 (0, 0)

/-- What a step tells, and the place and the fault behind it. -/
def stepI (e i : Int) (T : Int × Int × Int) : Int × Int × Int := if e = 0 then (T.1, if T.2.2 = 0 then T.2.1 else i, T.2.2) else (0, i, e)
def stepT (e i : Int) (T : List Int × Int × Int) : List Int × Int × Int := if e = 0 then (T.1, if T.2.2 = 0 then T.2.1 else i, T.2.2) else ([], i, e)
def endV (e i : Int) (L : Nat) : Int := if e = 0 then (if i < L then 4 else 0) else e

theorem set_obj {w w1 : World} {g : Nat} {cur : Array Value} {t : TypeId} (hb : Below w.heap.size w w1) (hh : w.heap[g]? = some (.cells cur t (0, 0))) (j : Nat) (u : Value) :
    (w1.setCell ⟨g, j, none⟩ u).heap[g]? = some (.cells (cur.setIfInBounds j u) t (0, 0)) ∧ w.grownBy (w1.setCell ⟨g, j, none⟩ u) (some g) := by
  have hg : g < w.heap.size := (Array.getElem?_eq_some_iff.1 hh).1
  have h1 : w1.heap[g]? = some (.cells cur t (0, 0)) := (hb.block g hg).trans hh
  refine ⟨heap_setCell_same w1 g j cur t u h1, ⟨hb.os, hb.tape, hb.output, by simpa using hb.size, fun k hk hne => ?_⟩⟩
  rw [heap_setCell_other w1 ⟨g, j, none⟩ k u (fun e => hne (by simp [e]))]
  exact hb.block k hk

theorem grown_of_below {w w1 : World} {g : Option Nat} (hb : Below w.heap.size w w1) : w.grownBy w1 g := ⟨hb.os, hb.tape, hb.output, hb.size, fun k hk _ => hb.block k hk⟩

theorem grown_twice {w w1 w2 : World} {g : Nat} (h1 : w.grownBy w1 (some g)) (h2 : w1.grownBy w2 (some g)) : w.grownBy w2 (some g) :=
  ⟨h2.os.trans h1.os, h2.tape.trans h1.tape, h2.output.trans h1.output, Nat.le_trans h1.size h2.size, fun k hk hne => (h2.block k (Nat.lt_of_lt_of_le hk h1.size) hne).trans (h1.block k hk hne)⟩

theorem OwnB.setLow {w : World} {base : Nat} {e : TypeId} {v : Value} {t : List Int} (h : OwnB w base e v t) {g : Nat} (hg : g < base) (j : Nat) (u : Value) : OwnB (w.setCell ⟨g, j, none⟩ u) base e v t :=
  ownsRow_setCell_below h hg u

theorem xo_cells {w : World} {g : Nat} {e i : Int} {a : Option Addr} {L c : Nat} (hh : w.heap[g]? = some (XO e i a L c)) :
    w.cell? ⟨g, 0, none⟩ = some (.int .i64 e) ∧ w.cell? ⟨g, 1, none⟩ = some (.slice a L c) ∧ w.cell? ⟨g, 2, none⟩ = some (.int .i64 i) ∧ w.frozen? ⟨g, 0, none⟩ = false ∧ w.frozen? ⟨g, 2, none⟩ = false := by
  unfold XO at hh
  refine ⟨?_, ?_, ?_, ?_, ?_⟩ <;> simp [World.cell?, World.frozen?, hh]

theorem yo_cells {w : World} {g : Nat} {e i : Int} {a : Option Addr} {L c : Nat} (hh : w.heap[g]? = some (YO e i a L c)) :
    w.cell? ⟨g, 0, none⟩ = some (.slice a L c) ∧ w.cell? ⟨g, 1, none⟩ = some (.int .i64 i) ∧ w.cell? ⟨g, 2, none⟩ = some (.int .i64 e) ∧ w.frozen? ⟨g, 1, none⟩ = false ∧ w.frozen? ⟨g, 2, none⟩ = false := by
  unfold YO at hh
  refine ⟨?_, ?_, ?_, ?_, ?_⟩ <;> simp [World.cell?, World.frozen?, hh]

theorem xnum_any (g : Nat) (a : Option Addr) (L c : Nat) (bs : List Int) (e i : Int) (w : World) (hh : w.heap[g]? = some (XO e i a L c)) (hv : Bs w (.slice a L c) bs) (hby : ∀ x ∈ bs, 0 ≤ x ∧ x < 256) :
    Calls Try.prog 24 #[.pointer (some ⟨g, 0, none⟩)] w fun r w' => r = .returned (.int .i64 (stepI e i (tkNum bs i)).1) ∧ w'.heap[g]? = some (XO (stepI e i (tkNum bs i)).2.2 (stepI e i (tkNum bs i)).2.1 a L c) ∧ w.grownBy w' (some g) := by
  obtain ⟨c0, c1, c2, f0, f2⟩ := xo_cells hh
  have hT := takeNum_any _ bs i w.drew hv.drew hby
  unfold stepI
  by_cases he : e = 0
  · subst he
    by_cases h0 : (tkNum bs i).2.2 = 0
    · rw [h0] at hT
      refine (xnum_ok g a L c i _ _ w c0 c1 c2 f2 hT).mono ?_
      rintro r w' ⟨rfl, rfl⟩
      obtain ⟨s1, s2⟩ := set_obj (Below.refl _ w).drew hh 2 (.int .i64 (tkNum bs i).2.1)
      exact ⟨by simp, by simpa [XO, h0] using s1, s2⟩
    · refine (xnum_err g a L c i _ _ _ w c0 c1 c2 f0 h0 hT).mono ?_
      rintro r w' ⟨rfl, rfl⟩
      obtain ⟨s1, s2⟩ := set_obj (Below.refl _ w).drew hh 0 (.int .i64 (tkNum bs i).2.2)
      exact ⟨by simp, by simpa [XO, h0] using s1, s2⟩
  · refine (xnum_no g e w c0 he).mono ?_
    rintro r w' ⟨rfl, rfl⟩
    exact ⟨by simp [he], by simpa [he] using hh, grown_of_below (Below.refl _ _)⟩

theorem xfix_any (g : Nat) (a : Option Addr) (L c : Nat) (bs : List Int) (e i W : Int) (w : World) (hh : w.heap[g]? = some (XO e i a L c)) (hv : Bs w (.slice a L c) bs) (hby : ∀ x ∈ bs, 0 ≤ x ∧ x < 256) :
    Calls Try.prog 26 #[.pointer (some ⟨g, 0, none⟩), .int .i64 W] w fun r w' => r = .returned (.int .i64 (stepI e i (tkFix bs i W)).1) ∧ w'.heap[g]? = some (XO (stepI e i (tkFix bs i W)).2.2 (stepI e i (tkFix bs i W)).2.1 a L c) ∧ w.grownBy w' (some g) := by
  obtain ⟨c0, c1, c2, f0, f2⟩ := xo_cells hh
  have hT := takeFixed_any _ bs i W w.drew hv.drew hby
  unfold stepI
  by_cases he : e = 0
  · subst he
    by_cases h0 : (tkFix bs i W).2.2 = 0
    · rw [h0] at hT
      refine (xfix_ok g a L c i W _ _ w c0 c1 c2 f2 hT).mono ?_
      rintro r w' ⟨rfl, rfl⟩
      obtain ⟨s1, s2⟩ := set_obj (Below.refl _ w).drew hh 2 (.int .i64 (tkFix bs i W).2.1)
      exact ⟨by simp, by simpa [XO, h0] using s1, s2⟩
    · refine (xfix_err g a L c i W _ _ _ w c0 c1 c2 f0 h0 hT).mono ?_
      rintro r w' ⟨rfl, rfl⟩
      obtain ⟨s1, s2⟩ := set_obj (Below.refl _ w).drew hh 0 (.int .i64 (tkFix bs i W).2.2)
      exact ⟨by simp, by simpa [XO, h0] using s1, s2⟩
  · refine (xfix_no g e W w c0 he).mono ?_
    rintro r w' ⟨rfl, rfl⟩
    exact ⟨by simp [he], by simpa [he] using hh, grown_of_below (Below.refl _ _)⟩

theorem ynum_any (g : Nat) (a : Option Addr) (L c : Nat) (bs : List Int) (e i : Int) (w : World) (hh : w.heap[g]? = some (YO e i a L c)) (hv : Bs w (.slice a L c) bs) (hby : ∀ x ∈ bs, 0 ≤ x ∧ x < 256) :
    Calls Try.prog 25 #[.pointer (some ⟨g, 0, none⟩)] w fun r w' => r = .returned (.int .i64 (stepI e i (tkNum bs i)).1) ∧ w'.heap[g]? = some (YO (stepI e i (tkNum bs i)).2.2 (stepI e i (tkNum bs i)).2.1 a L c) ∧ w.grownBy w' (some g) := by
  obtain ⟨c0, c1, c2, f1, f2⟩ := yo_cells hh
  have hT := rtakeNum_any _ bs i w.drew hv.drew hby
  unfold stepI
  by_cases he : e = 0
  · subst he
    by_cases h0 : (tkNum bs i).2.2 = 0
    · rw [h0] at hT
      refine (ynum_ok g a L c i _ _ w c0 c1 c2 f1 f2 hT).mono ?_
      rintro r w' ⟨rfl, rfl⟩
      obtain ⟨s1, s2⟩ := set_obj (Below.refl _ w).drew hh 2 (.int .i64 0)
      obtain ⟨s3, s4⟩ := set_obj (Below.refl _ _) s1 1 (.int .i64 (tkNum bs i).2.1)
      exact ⟨by simp, by simpa [YO, h0] using s3, grown_twice s2 s4⟩
    · refine (ynum_err g a L c i _ _ _ w c0 c1 c2 f2 (by simpa using h0) hT).mono ?_
      rintro r w' ⟨rfl, rfl⟩
      obtain ⟨s1, s2⟩ := set_obj (Below.refl _ w).drew hh 2 (.int .i64 (tkNum bs i).2.2)
      exact ⟨by simp, by simpa [YO, h0] using s1, s2⟩
  · refine (ynum_no g e w c2 (by simpa using he)).mono ?_
    rintro r w' ⟨rfl, rfl⟩
    exact ⟨by simp [he], by simpa [he] using hh, grown_of_below (Below.refl _ _)⟩

theorem yfix_any (g : Nat) (a : Option Addr) (L c : Nat) (bs : List Int) (e i W : Int) (w : World) (hh : w.heap[g]? = some (YO e i a L c)) (hv : Bs w (.slice a L c) bs) (hby : ∀ x ∈ bs, 0 ≤ x ∧ x < 256) :
    Calls Try.prog 27 #[.pointer (some ⟨g, 0, none⟩), .int .i64 W] w fun r w' => r = .returned (.int .i64 (stepI e i (tkFix bs i W)).1) ∧ w'.heap[g]? = some (YO (stepI e i (tkFix bs i W)).2.2 (stepI e i (tkFix bs i W)).2.1 a L c) ∧ w.grownBy w' (some g) := by
  obtain ⟨c0, c1, c2, f1, f2⟩ := yo_cells hh
  have hT := rtakeFixed_any _ bs i W w.drew hv.drew hby
  unfold stepI
  by_cases he : e = 0
  · subst he
    by_cases h0 : (tkFix bs i W).2.2 = 0
    · rw [h0] at hT
      refine (yfix_ok g a L c i W _ _ w c0 c1 c2 f1 f2 hT).mono ?_
      rintro r w' ⟨rfl, rfl⟩
      obtain ⟨s1, s2⟩ := set_obj (Below.refl _ w).drew hh 2 (.int .i64 0)
      obtain ⟨s3, s4⟩ := set_obj (Below.refl _ _) s1 1 (.int .i64 (tkFix bs i W).2.1)
      exact ⟨by simp, by simpa [YO, h0] using s3, grown_twice s2 s4⟩
    · refine (yfix_err g a L c i W _ _ _ w c0 c1 c2 f2 (by simpa using h0) hT).mono ?_
      rintro r w' ⟨rfl, rfl⟩
      obtain ⟨s1, s2⟩ := set_obj (Below.refl _ w).drew hh 2 (.int .i64 (tkFix bs i W).2.2)
      exact ⟨by simp, by simpa [YO, h0] using s1, s2⟩
  · refine (yfix_no g e W w c2 (by simpa using he)).mono ?_
    rintro r w' ⟨rfl, rfl⟩
    exact ⟨by simp [he], by simpa [he] using hh, grown_of_below (Below.refl _ _)⟩

theorem xtext_any (g : Nat) (a : Option Addr) (L c : Nat) (bs : List Int) (e i most : Int) (w : World) (hh : w.heap[g]? = some (XO e i a L c)) (hv : Bs w (.slice a L c) bs) (hby : ∀ x ∈ bs, 0 ≤ x ∧ x < 256) (hl : bs.length ≤ 140737488355328) :
    Calls Try.prog 28 #[.pointer (some ⟨g, 0, none⟩), .int .i64 most] w fun r w' => ∃ v, r = .returned v ∧ OwnB w' w.heap.size 5 v (stepT e i (tkText bs i most)).1 ∧ w'.heap[g]? = some (XO (stepT e i (tkText bs i most)).2.2 (stepT e i (tkText bs i most)).2.1 a L c) ∧ w.grownBy w' (some g) := by
  obtain ⟨c0, c1, c2, f0, f2⟩ := xo_cells hh
  have hg : g < w.heap.size := (Array.getElem?_eq_some_iff.1 hh).1
  unfold stepT
  by_cases he : e = 0
  · subst he
    obtain ⟨t, nx, er, hT0⟩ : ∃ t nx er, tkText bs i most = (t, nx, er) := ⟨_, _, _, rfl⟩
    have hT := takeText_drew _ bs i most w hv hby hl t nx er hT0
    rw [hT0]
    by_cases h0 : er = 0
    · subst h0
      refine (rtext_ok g a L c t i most nx w hg c0 c1 c2 f2 hT).mono ?_
      rintro r w' ⟨v', w1, rfl, hown, hb, rfl⟩
      obtain ⟨s1, s2⟩ := set_obj hb hh 2 (.int .i64 nx)
      exact ⟨v', rfl, by simpa using hown.setLow hg _ _, by simpa [XO] using s1, s2⟩
    · refine (rtext_err g a L c t i most nx er w hg c0 c1 c2 f0 h0 hT).mono ?_
      rintro r w' ⟨v', w1, rfl, hown, hb, rfl⟩
      obtain ⟨s1, s2⟩ := set_obj hb hh 0 (.int .i64 er)
      exact ⟨v', rfl, by simpa using hown.setLow hg _ _, by simpa [XO, h0] using s1, s2⟩
  · refine (rtext_no g most e w c0 he).mono ?_
    rintro r w' ⟨rfl, rfl⟩
    exact ⟨_, rfl, by simpa [he] using OwnB.nil _ _ _, by simpa [he] using hh, grown_of_below (Below.refl _ _)⟩

theorem ytext_any (g : Nat) (a : Option Addr) (L c : Nat) (bs : List Int) (e i most : Int) (w : World) (hh : w.heap[g]? = some (YO e i a L c)) (hv : Bs w (.slice a L c) bs) (hby : ∀ x ∈ bs, 0 ≤ x ∧ x < 256) (hl : bs.length ≤ 140737488355328) :
    Calls Try.prog 29 #[.pointer (some ⟨g, 0, none⟩), .int .i64 most] w fun r w' => ∃ v, r = .returned v ∧ OwnB w' w.heap.size 5 v (stepT e i (tkText bs i most)).1 ∧ w'.heap[g]? = some (YO (stepT e i (tkText bs i most)).2.2 (stepT e i (tkText bs i most)).2.1 a L c) ∧ w.grownBy w' (some g) := by
  obtain ⟨c0, c1, c2, f1, f2⟩ := yo_cells hh
  have hg : g < w.heap.size := (Array.getElem?_eq_some_iff.1 hh).1
  unfold stepT
  by_cases he : e = 0
  · subst he
    obtain ⟨t, nx, er, hT0⟩ : ∃ t nx er, tkText bs i most = (t, nx, er) := ⟨_, _, _, rfl⟩
    have hT := rtakeText_drew _ bs i most w hv hby hl t nx er hT0
    rw [hT0]
    by_cases h0 : er = 0
    · subst h0
      refine (ytext_ok g a L c t i most nx w hg c0 c1 c2 f1 f2 hT).mono ?_
      rintro r w' ⟨v', w1, rfl, hown, hb, rfl⟩
      obtain ⟨s1, s2⟩ := set_obj hb hh 2 (.int .i64 0)
      obtain ⟨s3, s4⟩ := set_obj (Below.refl _ _) s1 1 (.int .i64 nx)
      exact ⟨v', rfl, by simpa using (hown.setLow hg _ _).setLow hg _ _, by simpa [YO] using s3, grown_twice s2 s4⟩
    · refine (ytext_err g a L c t i most nx er w hg c0 c1 c2 f2 (by simpa using h0) hT).mono ?_
      rintro r w' ⟨v', w1, rfl, hown, hb, rfl⟩
      obtain ⟨s1, s2⟩ := set_obj hb hh 2 (.int .i64 er)
      exact ⟨v', rfl, by simpa using hown.setLow hg _ _, by simpa [YO, h0] using s1, s2⟩
  · refine (ytext_no g e most w c2 (by simpa using he)).mono ?_
    rintro r w' ⟨rfl, rfl⟩
    exact ⟨_, rfl, by simpa [he] using OwnB.nil _ _ _, by simpa [he] using hh, grown_of_below (Below.refl _ _)⟩

theorem xend_any (g : Nat) (a : Option Addr) (L c : Nat) (e i : Int) (w : World) (hh : w.heap[g]? = some (XO e i a L c)) :
    Calls Try.prog 30 #[.pointer (some ⟨g, 0, none⟩)] w fun r w' => r = .returned (.int .i64 (endV e i L)) ∧ Below w.heap.size w w' := by
  obtain ⟨c0, c1, c2, f0, f2⟩ := xo_cells hh
  unfold endV
  by_cases he : e = 0
  · subst he
    by_cases hi : i < L
    · simpa [hi] using end_left g a L c i w c0 c1 c2 hi
    · simpa [hi] using end_ok g a L c i w c0 c1 c2 hi
  · simpa [he] using end_fault g e w c0 he

theorem yend_any (g : Nat) (a : Option Addr) (L c : Nat) (e i : Int) (w : World) (hh : w.heap[g]? = some (YO e i a L c)) :
    Calls Try.prog 31 #[.pointer (some ⟨g, 0, none⟩)] w fun r w' => r = .returned (.int .i64 (endV e i L)) ∧ Below w.heap.size w w' := by
  obtain ⟨c0, c1, c2, f0, f2⟩ := yo_cells hh
  unfold endV
  by_cases he : e = 0
  · subst he
    by_cases hi : i < L
    · simpa [hi] using yend_left g a L c i w c0 c1 c2 hi
    · simpa [hi] using yend_ok g a L c i w c0 c1 c2 hi
  · simpa [he] using yend_fault g e w c2 (by simpa using he)
end Go.Proofs.Ythfikoghbnicoaa
