/- A cell on a disk that goes on, plain: what a Set leaves. -/
import Derived.Test.YtgjjjkokmgdmjaaDoorS19
namespace Go.Proofs.YtgjjjkokmgdmjaaDoor
open Go.RowKit
/-- A disk that goes on, without a trip, all of whose sectors are sure. -/
structure Fine (d : Dk.Dk) (n : Nat) : Prop where
  down : d.down = false
  trip : d.trip = 0
  len : d.S.length = n
  sure : ∀ i, (Dk.sec d.S i).2 = none
theorem fine_new (n : Nat) : Fine (Dk.newD n) n := by
  refine ⟨rfl, rfl, by simp [Dk.newD], fun i => ?_⟩
  unfold Dk.newD Dk.sec
  simp only [List.getD_eq_getElem?_getD, List.getElem?_replicate]
  split <;> rfl
theorem sure_flush (S : List Dk.Sec) (i : Nat) : (Dk.sec (Dk.flush S) i).2 = none := by
  by_cases h : i < S.length
  · rw [Dk.sec_flush h]
  · unfold Dk.sec Dk.flush
    rw [List.getD_eq_getElem?_getD, List.getElem?_eq_none (by simpa using h)]
    rfl
section
variable {d : Dk.Dk} {b n : Nat} {t : List Int}
theorem st_next (hf : Fine d n) (hb : b + 2 ≤ n) (ht : t.length ≤ 100) (hm : (cn2 (sc0 d b) (sc0 d (b + 1))).2.1 < 9007199254740991) :
    stE d b t = 0 ∧ Fine (stD d b t) n ∧ (stD d b t).life = d.life ∧ sc0 (stD d b t) b = (if (cn2 (sc0 d b) (sc0 d (b + 1))).1 = 0 then sc0 d b else stS d b t) ∧ sc0 (stD d b t) (b + 1) = (if (cn2 (sc0 d b) (sc0 d (b + 1))).1 = 0 then stS d b t else sc0 d (b + 1)) := by
  obtain ⟨h1, h2⟩ := st_ok hf.down hf.trip (by rw [hf.len]; exact hb) ht hm
  have hi : stI d b < d.S.length := by have := stI_lt d b; rw [hf.len]; omega
  refine ⟨h1, ?_⟩
  rw [h2]
  refine ⟨⟨hf.down, hf.trip, ?_, fun i => sure_flush _ i⟩, rfl, ?_, ?_⟩
  · show (Dk.flush _).length = n
    unfold Dk.flush
    rw [List.length_map, List.length_set, hf.len]
  · rw [sc0_fs hi (by rw [hf.len]; omega)]
    unfold stI oth
    by_cases hc : (cn2 (sc0 d b) (sc0 d (b + 1))).1 = 0
    · rw [if_pos hc, if_pos hc, if_neg (by omega)]
    · rw [if_neg hc, if_neg hc, if_pos (by omega)]
  · rw [sc0_fs hi (by rw [hf.len]; omega)]
    unfold stI oth
    by_cases hc : (cn2 (sc0 d b) (sc0 d (b + 1))).1 = 0
    · rw [if_pos hc, if_pos hc, if_pos (by omega)]
    · rw [if_neg hc, if_neg hc, if_neg (by omega)]
theorem st_long (ht : 100 < t.length) : stE d b t = 6 ∧ stD d b t = d := by
  unfold stE stD
  exact ⟨if_pos (.inl ht), if_pos (.inl ht)⟩
end
/-- The two disks of SlotSeen. -/
def sn1 (a : List Int) : Dk.Dk := stD (Dk.newD 2) 0 a
def sn2 (a b : List Int) : Dk.Dk := stD (sn1 a) 0 b
section
variable {a b : List Int}
theorem sn1_ok (ha : a.length ≤ 100) : stE (Dk.newD 2) 0 a = 0 ∧ Fine (sn1 a) 2 ∧ (sn1 a).life = 0 ∧ sc0 (sn1 a) 0 = Sl.sealB crB 1 a ∧ sc0 (sn1 a) 1 = Dk.zp := by
  have h := st_next (fine_new 2) (b := 0) (t := a) (by decide) ha (by rw [sc0_new, sc0_new, cn2_zz]; decide)
  unfold stS at h
  rw [sc0_new, sc0_new, cn2_zz, if_neg (by decide), if_neg (by decide)] at h
  exact ⟨h.1, h.2.1, h.2.2.1, h.2.2.2.1, h.2.2.2.2⟩
theorem sn2_ok (ha : a.length ≤ 100) (hb : b.length ≤ 100) : stE (sn1 a) 0 b = 0 ∧ Fine (sn2 a b) 2 ∧ (sn2 a b).life = 0 ∧ sc0 (sn2 a b) 0 = Sl.sealB crB 1 a ∧ sc0 (sn2 a b) 1 = Sl.sealB crB 2 b := by
  obtain ⟨_, hf, hl, h0, h1⟩ := sn1_ok ha
  have hc : cn2 (sc0 (sn1 a) 0) (sc0 (sn1 a) (0 + 1)) = (0, 1, a) := by
    rw [h0, show 0 + 1 = 1 from rfl, h1]
    exact cn2_fst (Sl.say_seal (by decide) (by decide) ha) say_zp (by decide) (by decide)
  have h := st_next hf (b := 0) (t := b) (by decide) hb (by rw [hc]; show (1 : Nat) < 9007199254740991; decide)
  unfold stS at h
  rw [hc, if_pos rfl, if_pos rfl] at h
  exact ⟨h.1, h.2.1, h.2.2.1.trans hl, h.2.2.2.1.trans h0, h.2.2.2.2⟩
theorem sn3_sc {d : Dk.Dk} (hf : Fine d 2) {P : List Int} (hP : P.length = 128) : sc0 (Dk.rotD d 1 P) 0 = sc0 d 0 ∧ sc0 (Dk.rotD d 1 P) 1 = P ∧ (Dk.rotD d 1 P).down = false ∧ (Dk.rotD d 1 P).life = d.life ∧ (Dk.rotD d 1 P).S.length = 2 ∧ Dk.fitE d 1 P.length = 0 := by
  have e : Dk.fitE d 1 P.length = 0 := by
    unfold Dk.fitE
    rw [hf.len, hP]
    rfl
  have er : Dk.rotD d 1 P = Dk.setSure d 1 P := by
    unfold Dk.rotD
    rw [if_neg (by rw [e]; simp), fil_id hP]
    rfl
  have hl : 1 < d.S.length := by rw [hf.len]; decide
  rw [er]
  refine ⟨?_, ?_, hf.down, rfl, by simp [Dk.setSure, hf.len], e⟩
  · unfold sc0 Dk.setSure
    show Dk.now (Dk.sec (d.S.set 1 (P, none)) 0) = _
    rw [Dk.sec_set hl, if_neg (by decide)]
  · unfold sc0 Dk.setSure
    show Dk.now (Dk.sec (d.S.set 1 (P, none)) 1) = _
    rw [Dk.sec_set hl, if_pos rfl]
    rfl
theorem sn_yes (ha : a.length ≤ 100) {P : List Int} (hs : Sl.sayB crB P = (0, [])) : gt (Sl.sealB crB 1 a) P = (0, a) ∧ (cn2 (Sl.sealB crB 1 a) P).2.1 = 1 := by
  have hc : cn2 (Sl.sealB crB 1 a) P = (0, 1, a) := cn2_fst (Sl.say_seal (by decide) (by decide) ha) hs (by decide) (by decide)
  rw [gt_ok (Sl.sealB_len (by omega)) (by rw [hc]; exact Int.le_refl 0), hc]
  exact ⟨rfl, rfl⟩
theorem sn_no (ha : a.length ≤ 100) (hb : b.length ≤ 100) : gt (Sl.sealB crB 1 a) (Sl.sealB crB 2 b) = (0, b) ∧ (cn2 (Sl.sealB crB 1 a) (Sl.sealB crB 2 b)).2.1 = 2 := by
  have hc : cn2 (Sl.sealB crB 1 a) (Sl.sealB crB 2 b) = (1, 2, b) := cn2_snd (Sl.say_seal (by decide) (by decide) ha) (Sl.say_seal (by decide) (by decide) hb) (by decide)
  rw [gt_ok (Sl.sealB_len (by omega)) (by rw [hc]; show (0 : Int) ≤ 1; decide), hc]
  exact ⟨rfl, rfl⟩
end
end Go.Proofs.YtgjjjkokmgdmjaaDoor
