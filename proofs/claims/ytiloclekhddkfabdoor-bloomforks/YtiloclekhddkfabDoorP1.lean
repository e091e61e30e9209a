/- Which bits of a row of cells are on, and that a list of places says the same: plain. -/
import Derived.Lib.TrailingZeros
import Derived.Test.YtiloclekhddkfabDoorB13
namespace Go.Proofs.YtiloclekhddkfabDoor
open Go.RowKit

theorem filter_first (p p' : Nat → Bool) (k : Nat) (hp : p k = true) (hlt : ∀ x, x < k → p x = false) (hp' : ∀ x, p' x = (p x && decide (x ≠ k))) : ∀ L : List Nat, L.Pairwise (· < ·) → k ∈ L → L.filter p = k :: L.filter p'
  | [], _, hk => (nomatch hk)
  | a :: L, hs, hk => by
    have hs' := List.pairwise_cons.1 hs
    by_cases ha : a = k
    · subst ha
      rw [List.filter_cons_of_pos hp, List.filter_cons_of_neg (by rw [hp']; simp)]
      congr 1
      apply List.filter_congr
      intro x hx
      have := hs'.1 x hx
      rw [hp', decide_eq_true (show x ≠ a by omega), Bool.and_true]
    · have hk' : k ∈ L := (List.mem_cons.1 hk).resolve_left (fun e => ha e.symm)
      have hak := hs'.1 k hk'
      have h0 := hlt a hak
      rw [List.filter_cons_of_neg (by rw [h0]; decide), List.filter_cons_of_neg (by rw [hp', h0]; simp)]
      exact filter_first p p' k hp hlt hp' L hs'.2 hk'
/-- The bits of a cell that are on; they rise. -/
def bitsOf (m : Nat) : List Nat := (List.range 64).filter (fun i => m.testBit i)
theorem bitsOf_zero : bitsOf 0 = [] := by decide
theorem mem_bitsOf {m i : Nat} : i ∈ bitsOf m ↔ i < 64 ∧ m.testBit i = true := by simp [bitsOf]
theorem bitsOf_step (m : Nat) (h0 : m ≠ 0) (h : m < 18446744073709551616) : bitsOf m = Lib.ctz 64 m :: bitsOf (m &&& (m - 1)) := by
  obtain ⟨q, hq, hk⟩ := Lib.ctzFrom_spec 64 m (by omega) h
  have e : Lib.ctz 64 m = Lib.ctzFrom 64 m := by simp [Lib.ctz, h0]
  rw [← e] at hq hk
  generalize Lib.ctz 64 m = k at hq hk ⊢
  have hb : ∀ i, m.testBit i = (decide (k ≤ i) && (2 * q + 1).testBit (i - k)) := by
    intro i
    rw [hq, Nat.mul_comm, Nat.testBit_mul_two_pow]
  have hm1 : m - 1 = 2 ^ k * (2 * q) + (2 ^ k - 1) := by
    have : 0 < 2 ^ k := Nat.two_pow_pos k
    rw [hq, Nat.mul_add, Nat.mul_one]
    omega
  have hb1 : ∀ i, (m - 1).testBit i = if i < k then true else (2 * q).testBit (i - k) := by
    intro i
    rw [hm1, Nat.testBit_two_pow_mul_add _ (by have : 0 < 2 ^ k := Nat.two_pow_pos k; omega)]
    split
    · rename_i hi
      rw [Nat.testBit_two_pow_sub_one]
      simp [hi]
    · rfl
  unfold bitsOf
  refine filter_first _ _ k ?_ ?_ ?_ _ List.pairwise_lt_range (List.mem_range.2 hk)
  · rw [hb]; simp
  · intro x hx
    rw [hb, decide_eq_false (by omega)]; rfl
  · intro x
    rw [Nat.testBit_and, hb, hb1]
    by_cases hxk : x < k
    · rw [decide_eq_false (show ¬ k ≤ x by omega)]; rfl
    · rw [if_neg hxk, decide_eq_true (show k ≤ x by omega), Bool.true_and]
      by_cases he : x = k
      · subst he
        simp [Nat.testBit_zero]
      · obtain ⟨j, rfl⟩ : ∃ j, x = k + (j + 1) := ⟨x - k - 1, by omega⟩
        have e3 : k + (j + 1) - k = j + 1 := by omega
        rw [e3, Nat.testBit_succ, Nat.testBit_succ, decide_eq_true he, Bool.and_true]
        have d1 : (2 * q + 1) / 2 = q := by omega
        have d2 : (2 * q) / 2 = q := by omega
        rw [d1, d2, Bool.and_self]
theorem and_pred_lt (m : Nat) (h0 : m ≠ 0) : m &&& (m - 1) < m := Nat.lt_of_le_of_lt Nat.and_le_right (by omega)
/-- The places of all bits that are on, from a cell on; they rise. -/
def onFrom : Nat → List Nat → List Nat
  | _, [] => []
  | i, m :: cs => (bitsOf m).map (fun b => i * 64 + b) ++ onFrom (i + 1) cs
theorem mem_onFrom : ∀ (cs : List Nat) (i x : Nat), x ∈ onFrom i cs ↔ i ≤ x / 64 ∧ Nat.testBit (cs.getD (x / 64 - i) 0) (x % 64) = true
  | [], i, x => by simp [onFrom]
  | m :: cs, i, x => by
    simp only [onFrom, List.mem_append, List.mem_map, mem_onFrom cs (i + 1) x, mem_bitsOf]
    by_cases hx : x / 64 = i
    · subst hx
      rw [Nat.sub_self]
      simp only [List.getD_cons_zero]
      constructor
      · rintro (⟨b, ⟨h1, h2⟩, h3⟩ | ⟨h1, _⟩)
        · have : x % 64 = b := by omega
          rw [this]; exact ⟨Nat.le_refl _, h2⟩
        · omega
      · rintro ⟨_, h⟩
        exact .inl ⟨x % 64, ⟨Nat.mod_lt _ (by decide), h⟩, by omega⟩
    · constructor
      · rintro (⟨b, ⟨h1, h2⟩, h3⟩ | ⟨h1, h2⟩)
        · omega
        · refine ⟨by omega, ?_⟩
          rw [show x / 64 - i = (x / 64 - (i + 1)) + 1 by omega, List.getD_cons_succ]
          exact h2
      · rintro ⟨h1, h2⟩
        refine .inr ⟨by omega, ?_⟩
        rw [show x / 64 - i = (x / 64 - (i + 1)) + 1 by omega, List.getD_cons_succ] at h2
        exact h2
theorem mem_on (cs : List Nat) (x : Nat) : x ∈ onFrom 0 cs ↔ onB cs x = true := by
  rw [mem_onFrom]; simp [onB]
theorem onFrom_nodup : ∀ (cs : List Nat) (i : Nat), (onFrom i cs).Nodup
  | [], i => by simp [onFrom]
  | m :: cs, i => by
    unfold onFrom
    rw [List.nodup_append]
    refine ⟨?_, onFrom_nodup cs (i + 1), ?_⟩
    · have h1 : (bitsOf m).Pairwise (· < ·) := List.Pairwise.filter _ List.pairwise_lt_range
      exact List.pairwise_map.2 (h1.imp (fun h => by omega))
    · intro a ha b hb e
      subst e
      rw [List.mem_map] at ha
      obtain ⟨c, hc, rfl⟩ := ha
      have h1 := (mem_bitsOf.1 hc).1
      have h2 := (mem_onFrom _ _ _).1 hb
      omega
theorem onFrom_drop (cs : List Nat) (i : Nat) (h : i < cs.length) : onFrom i (cs.drop i) = (bitsOf (cs.getD i 0)).map (fun b => i * 64 + b) ++ onFrom (i + 1) (cs.drop (i + 1)) := by
  rw [List.drop_eq_getElem_cons h]
  simp [onFrom, List.getD, h]
/-- Nothing twice, and all of it there: no longer. -/
theorem nodup_len {α : Type} [DecidableEq α] : ∀ (l m : List α), l.Nodup → (∀ x ∈ l, x ∈ m) → l.length ≤ m.length
  | [], _, _, _ => Nat.zero_le _
  | a :: l, m, hn, hs => by
    have hn' := List.nodup_cons.1 hn
    have hm : a ∈ m := hs a (by simp)
    have h := nodup_len l (m.erase a) hn'.2 (fun x hx => (List.mem_erase_of_ne (fun e => hn'.1 (by rw [← e]; exact hx))).2 (hs x (by simp [hx])))
    rw [List.length_erase_of_mem hm] at h
    have : 0 < m.length := List.length_pos_of_mem hm
    simp only [List.length_cons]
    omega
theorem onB_orL : ∀ (L cs : List Nat) (x : Nat), (∀ y ∈ L, y / 64 < cs.length) → onB (orL cs L) x = (onB cs x || decide (x ∈ L))
  | [], cs, x, _ => by simp [orL]
  | a :: L, cs, x, h => by
    show onB (orL (cs.set _ _) L) x = _
    rw [onB_orL L _ x (fun y hy => by rw [List.length_set]; exact h y (by simp [hy]))]
    have ha := h a (by simp)
    have e : onB (cs.set (a / 64) (cs.getD (a / 64) 0 ||| 2 ^ (a % 64))) x = (onB cs x || decide (x = a)) := by
      unfold onB
      by_cases hc : a / 64 = x / 64
      · rw [hc] at ha ⊢
        simp only [List.getD, List.getElem?_set_self ha, Option.getD_some]
        rw [Nat.testBit_or, Nat.testBit_two_pow]
        congr 1
        exact decide_eq_decide.2 ⟨fun e => by omega, fun e => by rw [e]⟩
      · rw [decide_eq_false (show ¬ x = a from fun e => hc (by rw [e])), Bool.or_false]
        simp only [List.getD, List.getElem?_set_ne hc]
    rw [e, Bool.or_assoc]
    congr 1
    by_cases h1 : x = a <;> by_cases h2 : x ∈ L <;> simp [h1, h2]
theorem mem_layF : ∀ (L l : List Int) (y : Int), y ∈ layF l L ↔ y ∈ l ∨ y ∈ L
  | [], l, y => by simp [layF]
  | x :: L, l, y => by
    show y ∈ layF (if x ∈ l then l else l ++ [x]) L ↔ _
    rw [mem_layF L]
    split
    · rename_i hx
      constructor
      · rintro (h | h)
        · exact .inl h
        · exact .inr (by simp [h])
      · rintro (h | h)
        · exact .inl h
        · rcases List.mem_cons.1 h with e | e
          · exact .inl (by rw [e]; exact hx)
          · exact .inr e
    · rw [List.mem_append, List.mem_singleton, List.mem_cons, or_assoc]
theorem layF_nodup : ∀ (L l : List Int), l.Nodup → (layF l L).Nodup
  | [], l, h => h
  | x :: L, l, h => by
    show (layF (if x ∈ l then l else l ++ [x]) L).Nodup
    apply layF_nodup L
    split
    · exact h
    · rename_i hx
      rw [List.nodup_append]
      refine ⟨h, by simp, fun a ha b hb e => hx ?_⟩
      rw [List.mem_singleton] at hb
      rw [← hb, ← e]; exact ha
/-- Cells and a list of places say the same. -/
structure Agree (size : Nat) (cs : List Nat) (l : List Int) : Prop where
  len : cs.length = (size + 63) / 64
  lt : ∀ n ∈ cs, n < 18446744073709551616
  on : ∀ x : Nat, onB cs x = true ↔ (x : Int) ∈ l
  nn : ∀ y ∈ l, 0 ≤ y ∧ y < (size : Int)
  nd : l.Nodup
theorem Agree.ones {size : Nat} {cs : List Nat} {l : List Int} (h : Agree size cs l) : (onFrom 0 cs).length = l.length := by
  apply Nat.le_antisymm
  · have := nodup_len ((onFrom 0 cs).map (fun n : Nat => (n : Int))) l (List.pairwise_map.2 ((onFrom_nodup cs 0).imp (fun h => by omega))) (fun x hx => by
      obtain ⟨n, hn, rfl⟩ := List.mem_map.1 hx
      exact (h.on n).1 ((mem_on _ _).1 hn))
    simpa using this
  · have := nodup_len l ((onFrom 0 cs).map (fun n : Nat => (n : Int))) h.nd (fun x hx => by
      have hn := h.nn x hx
      refine List.mem_map.2 ⟨x.toNat, (mem_on _ _).2 ((h.on _).2 ?_), by omega⟩
      rw [Int.toNat_of_nonneg hn.1]; exact hx)
    simpa using this
theorem Agree.small {size : Nat} {cs : List Nat} {l : List Int} (h : Agree size cs l) : l.length ≤ size := by
  have := nodup_len l ((List.range size).map (fun n : Nat => (n : Int))) h.nd (fun x hx => by
    have hn := h.nn x hx
    exact List.mem_map.2 ⟨x.toNat, List.mem_range.2 (by omega), by omega⟩)
  simpa using this
theorem Agree.none (size : Nat) : Agree size (List.replicate ((size + 63) / 64) 0) [] := by
  refine ⟨by simp, fun n hn => by rw [List.eq_of_mem_replicate hn]; decide, fun x => ?_, by simp, by simp⟩
  have : onB (List.replicate ((size + 63) / 64) 0) x = false := by
    unfold onB
    have : (List.replicate ((size + 63) / 64) 0).getD (x / 64) 0 = 0 := by
      simp only [List.getD, List.getElem?_replicate]
      split <;> rfl
    rw [this]; simp
  rw [this]; simp
theorem Agree.or {size : Nat} {cs : List Nat} {l : List Int} (h : Agree size cs l) (L : List Nat) (M : List Int) (hL : ∀ x ∈ L, x < size) (hM : M.Perm (L.map (fun n : Nat => (n : Int))) ∨ ∀ y : Int, y ∈ M ↔ ∃ x ∈ L, (x : Int) = y) : Agree size (orL cs L) (layF l M) := by
  have hM' : ∀ y : Int, y ∈ M ↔ ∃ x ∈ L, (x : Int) = y := by
    rcases hM with hM | hM
    · intro y; rw [hM.mem_iff, List.mem_map]
    · exact hM
  refine ⟨by rw [orL_len]; exact h.len, orL_lt _ _ h.lt, fun x => ?_, fun y hy => ?_, layF_nodup _ _ h.nd⟩
  · rw [onB_orL L cs x (fun y hy => by have := hL y hy; rw [h.len]; omega), mem_layF, Bool.or_eq_true, h.on, decide_eq_true_eq, hM']
    constructor
    · rintro (q | q)
      · exact .inl q
      · exact .inr ⟨x, q, rfl⟩
    · rintro (q | ⟨z, hz, e⟩)
      · exact .inl q
      · exact .inr (by have : z = x := by omega
                       rw [← this]; exact hz)
  · rcases (mem_layF _ _ _).1 hy with q | q
    · exact h.nn y q
    · obtain ⟨x, hx, rfl⟩ := (hM' y).1 q
      have := hL x hx
      omega
theorem plc_bd {s : List Int} {size ways : Nat} (hft : ft size ways = true) : ∀ y ∈ plc s size ways, 0 ≤ y ∧ y < (size : Int) := by
  have hfb : 1 ≤ (size : Int) ∧ (size : Int) ≤ 65536 ∧ 1 ≤ (ways : Int) ∧ (ways : Int) ≤ 8 := of_decide_eq_true hft
  intro y hy
  unfold plc at hy
  rw [if_pos hft] at hy
  obtain ⟨i, _, rfl⟩ := List.mem_map.1 hy
  exact ⟨Int.emod_nonneg _ (by omega), Int.emod_lt_of_pos _ (by omega)⟩
/-- A sum is added to both. -/
theorem Agree.add {size ways : Nat} {cs : List Nat} {l : List Int} (h : Agree size cs l) (s : List Int) (hft : ft size ways = true) : Agree size (orL cs ((plc s size ways).map Int.toNat)) (layF l (plc s size ways)) := by
  refine h.or _ _ (fun x hx => ?_) (.inr fun y => ?_)
  · obtain ⟨y, hy, rfl⟩ := List.mem_map.1 hx
    have := plc_bd hft y hy
    omega
  · constructor
    · intro hy
      exact ⟨y.toNat, List.mem_map.2 ⟨y, hy, rfl⟩, Int.toNat_of_nonneg (plc_bd hft y hy).1⟩
    · rintro ⟨x, hx, rfl⟩
      obtain ⟨z, hz, rfl⟩ := List.mem_map.1 hx
      rw [Int.toNat_of_nonneg (plc_bd hft z hz).1]
      exact hz
/-- Both find the same. -/
theorem Agree.has {size ways : Nat} {cs : List Nat} {l : List Int} (h : Agree size cs l) (s : List Int) (hft : ft size ways = true) : decide (∀ x ∈ (plc s size ways).map Int.toNat, onB cs x = true) = decide (∀ x ∈ plc s size ways, x ∈ l) := by
  refine decide_eq_decide.2 ⟨fun q y hy => ?_, fun q x hx => ?_⟩
  · have := (h.on _).1 (q _ (List.mem_map.2 ⟨y, hy, rfl⟩))
    rwa [Int.toNat_of_nonneg (plc_bd hft y hy).1] at this
  · obtain ⟨z, hz, rfl⟩ := List.mem_map.1 hx
    refine (h.on _).2 ?_
    rw [Int.toNat_of_nonneg (plc_bd hft z hz).1]
    exact q z hz
/-- Another one's bits are turned on in both. -/
theorem Agree.merge {size : Nat} {cs cs2 : List Nat} {l l2 : List Int} (h : Agree size cs l) (h2 : Agree size cs2 l2) : Agree size (orL cs (onFrom 0 cs2)) (layF l l2) := by
  refine h.or _ _ (fun x hx => ?_) (.inr fun y => ?_)
  · have := h2.nn _ ((h2.on x).1 ((mem_on _ _).1 hx))
    omega
  · constructor
    · intro hy
      have hn := h2.nn y hy
      refine ⟨y.toNat, (mem_on _ _).2 ((h2.on _).2 ?_), Int.toNat_of_nonneg hn.1⟩
      rw [Int.toNat_of_nonneg hn.1]; exact hy
    · rintro ⟨x, hx, rfl⟩
      exact (h2.on x).1 ((mem_on _ _).1 hx)
theorem Agree.bd {size : Nat} {cs : List Nat} {l : List Int} (h : Agree size cs l) : ∀ x ∈ onFrom 0 cs, x < size := fun x hx => by
  have := h.nn _ ((h.on x).1 ((mem_on _ _).1 hx))
  omega
end Go.Proofs.YtiloclekhddkfabDoor
