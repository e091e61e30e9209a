/- SlotTorn, plain: a cell is changed whole, or not at all. -/
import Derived.Test.YtgjjjkokmgdmjaaDoorS20
namespace Go.Proofs.YtgjjjkokmgdmjaaDoor
open Go.RowKit
/-- A sector whose first and last bytes have one number, and which says no greater one. -/
structure Mk (l : List Int) (m : Nat) : Prop where
  len : l.length = 128
  head : l.take 8 = Oc.fixB m 8
  tail : l.drop 120 = Oc.fixB m 8
  le : m ≤ 9007199254740991
  says : (Sl.sayB crB l).1 ≤ m
theorem mk_zp : Mk Dk.zp 0 := ⟨zp_len, Sl.zp_head, Sl.zp_tail, by decide, by rw [say_zp]; exact Nat.le_refl _⟩
theorem mk_seal {m : Nat} {t : List Int} (h1 : 1 ≤ m) (hm : m ≤ 9007199254740991) (ht : t.length ≤ 100) : Mk (Sl.sealB crB m t) m :=
  ⟨Sl.sealB_len (by omega), Sl.seal_head m t, Sl.seal_tail (by omega), hm, by rw [Sl.say_seal h1 hm ht]; exact Nat.le_refl _⟩
/-- What two sectors have: the mark and the text of the one that counts, if there is one. -/
def Cel (l0 l1 : List Int) (m : Nat) (was : List Int) (had : Bool) : Prop :=
  (had = false ∧ m = 0 ∧ was = [] ∧ l0 = Dk.zp ∧ l1 = Dk.zp) ∨
  (had = true ∧ 1 ≤ m ∧ was.length ≤ 100 ∧ ((l0 = Sl.sealB crB m was ∧ ∃ m1, m1 < m ∧ Mk l1 m1) ∨ (l1 = Sl.sealB crB m was ∧ ∃ m1, m1 < m ∧ Mk l0 m1)))
section
variable {l0 l1 was t : List Int} {m : Nat} {had : Bool}
theorem cel_fst (h1 : 1 ≤ m) (hm : m ≤ 9007199254740991) (hw : was.length ≤ 100) (hs : (Sl.sayB crB l1).1 < m) : cn2 (Sl.sealB crB m was) l1 = (0, m, was) :=
  cn2_fst (m1 := (Sl.sayB crB l1).1) (t1 := (Sl.sayB crB l1).2) (Sl.say_seal h1 hm hw) rfl (by omega) (by omega)
theorem cel_snd (h1 : 1 ≤ m) (hm : m ≤ 9007199254740991) (hw : was.length ≤ 100) (hs : (Sl.sayB crB l0).1 < m) : cn2 l0 (Sl.sealB crB m was) = (1, m, was) :=
  cn2_snd (m0 := (Sl.sayB crB l0).1) (t0 := (Sl.sayB crB l0).2) rfl (Sl.say_seal h1 hm hw) hs
theorem cel_mark (h : Cel l0 l1 m was had) (hm : m ≤ 9007199254740991) : (cn2 l0 l1).2.1 = m := by
  rcases h with ⟨_, rfl, _, rfl, rfl⟩ | ⟨_, h1, hw, h⟩
  · rw [cn2_zz]
  · rcases h with ⟨rfl, m1, hlt, hk⟩ | ⟨rfl, m1, hlt, hk⟩
    · rw [cel_fst h1 hm hw (by have := hk.says; omega)]
    · rw [cel_snd h1 hm hw (by have := hk.says; omega)]
/-- What Get tells. -/
theorem cel_get (h : Cel l0 l1 m was had) (hm : m ≤ 9007199254740991) : (had = true ∧ gt l0 l1 = (0, was)) ∨ (had = false ∧ gt l0 l1 = (9, [])) := by
  rcases h with ⟨h0, rfl, _, rfl, rfl⟩ | ⟨h0, h1, hw, h⟩
  · exact .inr ⟨h0, gt_zz⟩
  · refine .inl ⟨h0, ?_⟩
    rcases h with ⟨rfl, m1, hlt, hk⟩ | ⟨rfl, m1, hlt, hk⟩
    · have hc := cel_fst h1 hm hw (l1 := l1) (by have := hk.says; omega)
      rw [gt_ok (Sl.sealB_len (by omega)) (by rw [hc]; exact Int.le_refl 0), hc]
    · have hc := cel_snd h1 hm hw (l0 := l0) (by have := hk.says; omega)
      rw [gt_ok hk.len (by rw [hc]; show (0 : Int) ≤ 1; decide), hc]
end
section
variable {d : Dk.Dk} {was t : List Int} {m : Nat} {had : Bool}
/-- The sector that a Set writes, and the one that it leaves: told by a cell. -/
theorem cel_set (h : Cel (sc0 d 1) (sc0 d 2) m was had) (hm : m + 1 ≤ 9007199254740991) (ht : t.length ≤ 100) :
    stS d 1 t = Sl.sealB crB (m + 1) t ∧
    ((stI d 1 = 1 ∧ (∃ m1, m1 < m + 1 ∧ Mk (sc0 d 1) m1) ∧ Cel (Sl.sealB crB (m + 1) t) (sc0 d 2) (m + 1) t true ∧
        (∀ x, (Sl.sayB crB x).1 = 0 → (had = true ∧ gt x (sc0 d 2) = (0, was)) ∨ (had = false ∧ (gt x (sc0 d 2) = (9, []) ∨ gt x (sc0 d 2) = (13, []))) ∨ x.length ≠ 128)) ∨
     (stI d 1 = 2 ∧ (∃ m1, m1 < m + 1 ∧ Mk (sc0 d 2) m1) ∧ Cel (sc0 d 1) (Sl.sealB crB (m + 1) t) (m + 1) t true ∧
        (∀ x, (Sl.sayB crB x).1 = 0 → (had = true ∧ gt (sc0 d 1) x = (0, was)) ∨ (had = false ∧ (gt (sc0 d 1) x = (9, []) ∨ gt (sc0 d 1) x = (13, []))) ∨ x.length ≠ 128))) := by
  have hmk : stS d 1 t = Sl.sealB crB (m + 1) t := by
    unfold stS
    rw [show (1 : Nat) + 1 = 2 from rfl, cel_mark h (by omega)]
  refine ⟨hmk, ?_⟩
  unfold stI
  rw [show (1 : Nat) + 1 = 2 from rfl]
  generalize sc0 d 1 = l0 at h ⊢
  generalize sc0 d 2 = l1 at h ⊢
  rcases h with ⟨hh, rfl, _, rfl, rfl⟩ | ⟨hh, h1, hw, h⟩
  · left
    rw [cn2_zz]
    refine ⟨rfl, ⟨0, by omega, mk_zp⟩, .inr ⟨rfl, by omega, ht, .inl ⟨rfl, 0, by omega, mk_zp⟩⟩, fun x hx => ?_⟩
    right; left
    refine ⟨hh, gt_none ?_⟩
    rw [cn2_none (Sl.say_none hx) say_zp]
    decide
  · rcases h with ⟨rfl, m1, hlt, hk⟩ | ⟨rfl, m1, hlt, hk⟩
    · right
      rw [cel_fst h1 (by omega) hw (by have := hk.says; omega)]
      refine ⟨rfl, ⟨m1, by omega, hk⟩, .inr ⟨rfl, by omega, ht, .inr ⟨rfl, m, by omega, mk_seal h1 (by omega) hw⟩⟩, fun x hx => ?_⟩
      left
      refine ⟨hh, ?_⟩
      have hc := cel_fst h1 (show m ≤ 9007199254740991 by omega) hw (l1 := x) (by omega)
      rw [gt_ok (Sl.sealB_len (by omega)) (by rw [hc]; exact Int.le_refl 0), hc]
    · left
      rw [cel_snd h1 (by omega) hw (by have := hk.says; omega)]
      refine ⟨rfl, ⟨m1, by omega, hk⟩, .inr ⟨rfl, by omega, ht, .inl ⟨rfl, m, by omega, mk_seal h1 (by omega) hw⟩⟩, fun x hx => ?_⟩
      by_cases hx8 : x.length = 128
      · left
        refine ⟨hh, ?_⟩
        have hc := cel_snd h1 (show m ≤ 9007199254740991 by omega) hw (l0 := x) (by omega)
        rw [gt_ok hx8 (by rw [hc]; show (0 : Int) ≤ 1; decide), hc]
      · exact .inr (.inr hx8)
/-- A Set that is OK. -/
theorem cel_next (hf : Fine d 3) (h : Cel (sc0 d 1) (sc0 d 2) m was had) (hm : m + 1 ≤ 9007199254740991) (ht : t.length ≤ 100) :
    stE d 1 t = 0 ∧ Fine (stD d 1 t) 3 ∧ (stD d 1 t).life = d.life ∧ Cel (sc0 (stD d 1 t) 1) (sc0 (stD d 1 t) 2) (m + 1) t true := by
  have hmk := cel_mark h (show m ≤ 9007199254740991 by omega)
  obtain ⟨e1, e2, e3, e4, e5⟩ := st_next hf (b := 1) (t := t) (by decide) ht (by rw [show (1 : Nat) + 1 = 2 from rfl, hmk]; omega)
  rw [show (1 : Nat) + 1 = 2 from rfl] at e4 e5
  obtain ⟨hS, hc⟩ := cel_set h hm ht
  refine ⟨e1, e2, e3, ?_⟩
  rw [e4, e5, hS]
  unfold stI oth at hc
  rw [show (1 : Nat) + 1 = 2 from rfl] at hc
  by_cases hq : (cn2 (sc0 d 1) (sc0 d 2)).1 = 0
  · rw [if_pos hq] at hc ⊢
    rw [if_pos hq]
    rcases hc with ⟨e, _⟩ | ⟨_, _, h, _⟩
    · exact absurd e (by decide)
    · exact h
  · rw [if_neg hq] at hc ⊢
    rw [if_neg hq]
    rcases hc with ⟨_, _, h, _⟩ | ⟨e, _⟩
    · exact h
    · exact absurd e (by decide)
end
/-- What a cell may tell behind the last Set, which told g. -/
def Out (g : Int) (had : Bool) (was last : List Int) (r : Int × List Int) : Prop :=
  (g = 0 ∧ r = (0, last)) ∨ (g = 7 ∧ ((had = true ∧ r = (0, was)) ∨ (had = false ∧ (r = (9, []) ∨ r = (13, []))) ∨ r = (0, last))) ∨ (g = 6 ∧ 100 < last.length ∧ ((had = true ∧ r = (0, was)) ∨ (had = false ∧ r = (9, []))))
section
variable {d : Dk.Dk} {was last : List Int} {m : Nat} {had : Bool}
theorem crash_sure {d : Dk.Dk} {c : Dk.Cr} {i : Nat} (hi : i < d.S.length) (hs : (Dk.sec d.S i).2 = none) : sc0 (Dk.crD d c) i = sc0 d i := by
  unfold sc0
  show Dk.now (Dk.sec (Dk.crash c d.S) i) = _
  rw [Dk.sec_crash c d.S hi, Dk.crash1_clean (by rw [hs]; rfl)]
theorem outl_cases (c : Dk.Cr) (k : Nat) (s l : List Int) : Dk.outl c k s l = s ∨ Dk.outl c k s l = l ∨ ∃ j, j ≤ 128 ∧ Dk.outl c k s l = l.take j ++ s.drop j := by
  unfold Dk.outl
  split
  · rename_i h; exact .inr (.inr ⟨c.at'.toNat, by omega, rfl⟩)
  · split
    · exact .inr (.inl rfl)
    · exact .inl rfl
theorem crash_dirty {d : Dk.Dk} {c : Dk.Cr} {i : Nat} {s l : List Int} (hi : i < d.S.length) (hs : Dk.sec d.S i = (s, some l)) : sc0 (Dk.crD d c) i = s ∨ sc0 (Dk.crD d c) i = l ∨ ∃ j, j ≤ 128 ∧ sc0 (Dk.crD d c) i = l.take j ++ s.drop j := by
  have e : sc0 (Dk.crD d c) i = Dk.outl c (Dk.place d.S i) s l := by
    unfold sc0
    show Dk.now (Dk.sec (Dk.crash c d.S) i) = _
    rw [Dk.sec_crash c d.S hi, hs]
    rfl
  rw [e]
  exact outl_cases c _ s l
theorem mix_cases {old new : List Int} {m1 m n : Nat} {j : Nat} (hk : Mk old m1) (hn : Mk new n) (hlt : m1 < n) (hj : j ≤ 128) (_ : m = m) :
    new.take j ++ old.drop j = old ∨ new.take j ++ old.drop j = new ∨ (Sl.sayB crB (new.take j ++ old.drop j)).1 = 0 := by
  rcases Sl.mix_say (cr := crB) hk.len hn.len hk.le hn.le (by omega) hk.head hk.tail hn.head hn.tail hj with h | h | h
  · exact .inl h
  · exact .inr (.inl h)
  · exact .inr (.inr (by rw [h]))
/-- A sector that was being written when the power went: the cell tells what was there, or what was to be. -/
theorem torn_get (hf : Fine d 3) (h : Cel (sc0 d 1) (sc0 d 2) m was had) (hm : m + 1 ≤ 9007199254740991) (ht : last.length ≤ 100) {x : List Int}
    (hx : x = sc0 d (stI d 1) ∨ x = stS d 1 last ∨ ∃ j, j ≤ 128 ∧ x = (stS d 1 last).take j ++ (sc0 d (stI d 1)).drop j) {l0 l1 : List Int} (e0 : l0 = if stI d 1 = 1 then x else sc0 d 1) (e1 : l1 = if stI d 1 = 2 then x else sc0 d 2) :
    Out 7 had was last (gt l0 l1) := by
  have _ := hf
  obtain ⟨hS, hc⟩ := cel_set h hm ht
  rw [hS] at hx
  have hnew : Mk (Sl.sealB crB (m + 1) last) (m + 1) := mk_seal (by omega) hm ht
  refine .inr (.inl ⟨rfl, ?_⟩)
  have hold := cel_get h (show m ≤ 9007199254740991 by omega)
  rcases hc with ⟨hi, ⟨m1, hlt, hk⟩, hC, hz⟩ | ⟨hi, ⟨m1, hlt, hk⟩, hC, hz⟩
  · rw [hi] at hx e0 e1
    rw [if_pos rfl] at e0
    rw [if_neg (by decide)] at e1
    subst e0 e1
    have hx3 : l0 = sc0 d 1 ∨ l0 = Sl.sealB crB (m + 1) last ∨ ((Sl.sayB crB l0).1 = 0 ∧ l0.length = 128) := by
      rcases hx with q | q | ⟨j, hj, q⟩
      · exact .inl q
      · exact .inr (.inl q)
      · rcases mix_cases hk hnew hlt hj (m := m) rfl with e | e | e
        · exact .inl (q.trans e)
        · exact .inr (.inl (q.trans e))
        · exact .inr (.inr ⟨by rw [q]; exact e, by rw [q]; have h1 := hk.len; have h2 := hnew.len; simp; omega⟩)
    rcases hx3 with rfl | rfl | ⟨q, q8⟩
    · rcases hold with ⟨a, b⟩ | ⟨a, b⟩
      · exact .inl ⟨a, b⟩
      · exact .inr (.inl ⟨a, .inl b⟩)
    · rcases cel_get hC hm with ⟨_, b⟩ | ⟨a, _⟩
      · exact .inr (.inr b)
      · cases a
    · rcases hz _ q with ⟨a, b⟩ | ⟨a, b⟩ | b
      · exact .inl ⟨a, b⟩
      · exact .inr (.inl ⟨a, b⟩)
      · exact absurd q8 b
  · rw [hi] at hx e0 e1
    rw [if_neg (by decide)] at e0
    rw [if_pos rfl] at e1
    subst e0 e1
    have hx3 : l1 = sc0 d 2 ∨ l1 = Sl.sealB crB (m + 1) last ∨ ((Sl.sayB crB l1).1 = 0 ∧ l1.length = 128) := by
      rcases hx with q | q | ⟨j, hj, q⟩
      · exact .inl q
      · exact .inr (.inl q)
      · rcases mix_cases hk hnew hlt hj (m := m) rfl with e | e | e
        · exact .inl (q.trans e)
        · exact .inr (.inl (q.trans e))
        · exact .inr (.inr ⟨by rw [q]; exact e, by rw [q]; have h1 := hk.len; have h2 := hnew.len; simp; omega⟩)
    rcases hx3 with rfl | rfl | ⟨q, q8⟩
    · rcases hold with ⟨a, b⟩ | ⟨a, b⟩
      · exact .inl ⟨a, b⟩
      · exact .inr (.inl ⟨a, .inl b⟩)
    · rcases cel_get hC hm with ⟨_, b⟩ | ⟨a, _⟩
      · exact .inr (.inr b)
      · cases a
    · rcases hz _ q with ⟨a, b⟩ | ⟨a, b⟩ | b
      · exact .inl ⟨a, b⟩
      · exact .inr (.inl ⟨a, b⟩)
      · exact absurd q8 b
end
end Go.Proofs.YtgjjjkokmgdmjaaDoor
