/- What Get, Mark and Set tell, plain. -/
import Derived.Test.YtgjjjkokmgdmjaaDoorS15
namespace Go.Proofs.YtgjjjkokmgdmjaaDoor
open Go.RowKit
theorem zp_rep : Dk.zp = List.replicate 128 0 := rfl
theorem zp_len : Dk.zp.length = 128 := by rw [zp_rep, List.length_replicate]
theorem say_zp : Sl.sayB crB Dk.zp = (0, []) := Sl.say_zero
theorem zz_two : zz = Dk.zp ++ Dk.zp := by rw [zp_rep, List.replicate_append_replicate]; rfl
theorem zz_cut {l0 l1 : List Int} (h0 : l0.length = 128) (h : l0 ++ l1 = zz) : l0 = Dk.zp ∧ l1 = Dk.zp := by
  rw [zz_two] at h
  exact List.append_inj h (by rw [h0, zp_len])
theorem cn2_of {l0 l1 t0 t1 : List Int} {m0 m1 : Nat} (h0 : Sl.sayB crB l0 = (m0, t0)) (h1 : Sl.sayB crB l1 = (m1, t1)) : cn2 l0 l1 = cstep (cstep cn0 0 (m0, t0)) 1 (m1, t1) := by
  unfold cn2 cn1
  rw [h0, h1]
theorem cn2_zz : cn2 Dk.zp Dk.zp = (-1, 0, []) := by
  rw [cn2_of say_zp say_zp]; decide
/-- Of two sectors the first one counts. -/
theorem cn2_fst {l0 l1 t0 t1 : List Int} {m0 m1 : Nat} (h0 : Sl.sayB crB l0 = (m0, t0)) (h1 : Sl.sayB crB l1 = (m1, t1)) (hp : 0 < m0) (hle : m1 ≤ m0) : cn2 l0 l1 = (0, m0, t0) := by
  rw [cn2_of h0 h1]
  have e : cstep cn0 0 (m0, t0) = (0, m0, t0) := by unfold cstep; exact if_pos hp
  rw [e]
  unfold cstep
  exact if_neg (show ¬ m0 < m1 by omega)
theorem cn2_snd {l0 l1 t0 t1 : List Int} {m0 m1 : Nat} (h0 : Sl.sayB crB l0 = (m0, t0)) (h1 : Sl.sayB crB l1 = (m1, t1)) (hlt : m0 < m1) : cn2 l0 l1 = (1, m1, t1) := by
  rw [cn2_of h0 h1]
  have e : (cstep cn0 0 (m0, t0)).2.1 < m1 := by
    unfold cstep
    by_cases h : cn0.2.1 < m0
    · rw [if_pos h]; exact hlt
    · rw [if_neg h]; show 0 < m1; omega
  unfold cstep at e ⊢
  rw [if_pos e]
theorem cn2_none {l0 l1 t0 t1 : List Int} (h0 : Sl.sayB crB l0 = (0, t0)) (h1 : Sl.sayB crB l1 = (0, t1)) : cn2 l0 l1 = (-1, 0, []) := by
  rw [cn2_of h0 h1]; rfl
theorem gt_zz : gt Dk.zp Dk.zp = (9, []) := by
  unfold gt
  rw [if_pos zz_two.symm]
theorem gt_ok {l0 l1 : List Int} (h0 : l0.length = 128) (hc : 0 ≤ (cn2 l0 l1).1) : gt l0 l1 = (0, (cn2 l0 l1).2.2) := by
  unfold gt
  rw [if_neg (fun h => by
    obtain ⟨e0, e1⟩ := zz_cut h0 h
    rw [e0, e1, cn2_zz] at hc
    omega), if_neg (by omega)]
theorem gt_none {l0 l1 : List Int} (hc : (cn2 l0 l1).1 < 0) : gt l0 l1 = (9, []) ∨ gt l0 l1 = (13, []) := by
  unfold gt
  by_cases h : l0 ++ l1 = zz
  · rw [if_pos h]; exact .inl rfl
  · rw [if_neg h, if_pos hc]; exact .inr rfl
theorem fil_id {l : List Int} (h : l.length = 128) : Dk.fil l = l := by simp [Dk.fil, h]
section
variable {d : Dk.Dk} {b : Nat} {t : List Int}
theorem stI_lt (d : Dk.Dk) (b : Nat) : stI d b < b + 2 := by
  have := oth_le (cn2 (sc0 d b) (sc0 d (b + 1))).1
  unfold stI
  omega
theorem stS_len (hn : t.length ≤ 100) : (stS d b t).length = 128 := Sl.sealB_len (by omega)
theorem wrE_at (hd : d.down = false) {i : Nat} (hi : i < d.S.length) : Dk.wrE d (i : Int) 128 = if d.trip = 1 then 7 else 0 := by
  have hf : Dk.fitE d (i : Int) 128 = 0 := by
    unfold Dk.fitE
    rw [if_pos ⟨by omega, by omega⟩]
    rfl
  unfold Dk.wrE
  rw [hd, hf, if_neg (by simp), if_neg (by simp)]
theorem wrD_at (hd : d.down = false) {i : Nat} (hi : i < d.S.length) {l : List Int} (hl : l.length = 128) : Dk.wrD d (i : Int) l = if d.trip = 1 then { d with down := true } else { d with S := d.S.set i ((Dk.sec d.S i).1, some l), trip := Dk.dec d.trip } := by
  have hf : Dk.fitE d (i : Int) l.length = 0 := by
    unfold Dk.fitE
    rw [if_pos ⟨by omega, by omega⟩, hl]
    rfl
  unfold Dk.wrD
  rw [hd, hf, if_neg (by simp), if_neg (by simp), fil_id hl]
  rfl
theorem st_ok (hd : d.down = false) (ht : d.trip = 0) (hb : b + 2 ≤ d.S.length) (hn : t.length ≤ 100) (hm : (cn2 (sc0 d b) (sc0 d (b + 1))).2.1 < 9007199254740991) :
    stE d b t = 0 ∧ stD d b t = { d with S := Dk.flush (d.S.set (stI d b) ((Dk.sec d.S (stI d b)).1, some (stS d b t))) } := by
  have hi : stI d b < d.S.length := by have := stI_lt d b; omega
  have h6 : ¬ (100 < t.length ∨ (cn2 (sc0 d b) (sc0 d (b + 1))).2.1 = 9007199254740991) := by omega
  have e1 : Dk.wrE d (stI d b : Int) 128 = 0 := by rw [wrE_at hd hi, ht]; rfl
  have e2 : Dk.wrD d (stI d b : Int) (stS d b t) = { d with S := d.S.set (stI d b) ((Dk.sec d.S (stI d b)).1, some (stS d b t)), trip := 0 } := by
    rw [wrD_at hd hi (stS_len hn), ht]; rfl
  unfold stE stD
  rw [if_neg h6, if_neg h6, e1, if_neg (by simp), if_neg (by simp), e2]
  unfold Dk.fluE Dk.fluD
  simp only [hd, Bool.false_eq_true, if_false]
  rw [if_neg (by decide), if_neg (by decide)]
  refine ⟨rfl, ?_⟩
  unfold Dk.flD
  simp only [Dk.Dk.mk.injEq, true_and]
  exact ⟨by rw [ht]; rfl, trivial⟩
theorem sc0_fs {i j : Nat} (hi : i < d.S.length) (hj : j < d.S.length) {s l : List Int} : sc0 { d with S := Dk.flush (d.S.set i (s, some l)) } j = if j = i then l else sc0 d j := by
  unfold sc0
  show Dk.now (Dk.sec (Dk.flush (d.S.set i (s, some l))) j) = _
  rw [Dk.sec_flush (by simpa using hj), Dk.sec_set hi]
  split <;> rfl
theorem sc0_new (n i : Nat) : sc0 (Dk.newD n) i = Dk.zp := by
  unfold sc0 Dk.newD Dk.sec
  simp only [List.getD_eq_getElem?_getD, List.getElem?_replicate]
  split <;> rfl
end
/-- The disk of live behind its Set. -/
def lv1 : Dk.Dk := stD (Dk.newD 2) 0 [97]
theorem lv_st : stE (Dk.newD 2) 0 [97] = 0 ∧ lv1 = { Dk.newD 2 with S := Dk.flush ((Dk.newD 2).S.set (stI (Dk.newD 2) 0) ((Dk.sec (Dk.newD 2).S (stI (Dk.newD 2) 0)).1, some (stS (Dk.newD 2) 0 [97]))) } :=
  st_ok rfl rfl (by decide) (by decide) (by rw [sc0_new, sc0_new, cn2_zz]; decide)
theorem lv_I : stI (Dk.newD 2) 0 = 0 := by unfold stI; rw [sc0_new, sc0_new, cn2_zz]; rfl
theorem lv_S : stS (Dk.newD 2) 0 [97] = Sl.sealB crB 1 [97] := by unfold stS; rw [sc0_new, sc0_new, cn2_zz]
theorem lv_0 : sc0 lv1 0 = Sl.sealB crB 1 [97] := by
  rw [lv_st.2, sc0_fs (by rw [lv_I]; decide) (by decide), lv_I, if_pos rfl, lv_S]
theorem lv_1 : sc0 lv1 1 = Dk.zp := by
  rw [lv_st.2, sc0_fs (by rw [lv_I]; decide) (by decide), lv_I, if_neg (by decide), sc0_new]
theorem lv_c : cn2 (sc0 lv1 0) (sc0 lv1 1) = (0, 1, [97]) := by
  rw [lv_0, lv_1]
  exact cn2_fst (Sl.say_seal (by decide) (by decide) (by decide)) say_zp (by decide) (by decide)
theorem lv_g : gt (sc0 lv1 0) (sc0 lv1 1) = (0, [97]) := by
  rw [gt_ok (by rw [lv_0]; exact Sl.sealB_len (by decide)) (by rw [lv_c]; decide), lv_c]
theorem lv_d : lv1.down = false ∧ lv1.life = 0 ∧ 0 + 2 ≤ lv1.S.length := by
  rw [lv_st.2]
  refine ⟨rfl, rfl, ?_⟩
  show 2 ≤ (Dk.flush _).length
  unfold Dk.flush
  rw [List.length_map, List.length_set]
  decide
end Go.Proofs.YtgjjjkokmgdmjaaDoor
