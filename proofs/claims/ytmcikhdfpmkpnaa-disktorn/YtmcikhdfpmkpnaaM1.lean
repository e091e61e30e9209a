/- The map of what was written, but not flushed, as plain data. -/
import Derived.Test.YtmcikhdfpmkpnaaP1
import Derived.Maps.OwnSet
import Derived.Maps.OwnOps
import Derived.Maps.Views
import Derived.Maps.RangeWalk
import Derived.Lib.SlKeysI
namespace Go.Proofs.Ytmcikhdfpmkpnaa
open Go.RowKit Go.Maps

/-- A page, as a value. -/
def pc (l : List Int) : List Value := l.map (Value.int .u8)
def pv (l : List Int) : Value := .agg (pc l).toArray
theorem pc_length (l : List Int) : (pc l).length = l.length := by simp [pc]
theorem pc_one (l : List Int) : ∀ u ∈ pc l, u.oneCell' = true := by
  intro u hu; simp [pc] at hu; obtain ⟨z, _, rfl⟩ := hu; rfl
theorem pc_inj {l m : List Int} (h : pc l = pc m) : l = m := by
  unfold pc at h
  exact (List.map_inj_right (fun a b e => by simpa using e)).1 h
theorem pv_inj {l m : List Int} (h : pv l = pv m) : l = m := by
  unfold pv at h
  simp only [Value.agg.injEq] at h
  exact pc_inj (by simpa using h)

/-- Each element reads as itself. -/
def self (v : Value) : Option (DataW Value × List MemPlace) := some (.held v, [])
def key (i : Nat) : Lit := .int .i64 (i : Int)

/-- The datum D has just the dirty sectors of S. -/
structure Dirt (D : DataW Value) (S : List Sec) : Prop where
  tidy : Tidy D
  has : ∀ k : Int, Maps.has D (.int .i64 k) = (decide (0 ≤ k ∧ k < (S.length : Int)) && dirt S k.toNat)
  val : ∀ i l, i < S.length → (sec S i).2 = some l → ∀ z, D.atKey (key i) z = .held (pv l)

theorem isK (k : Int) : WideAt.IsKeyLit (.int .i64 k) := trivial
theorem Dirt.hasN {D : DataW Value} {S : List Sec} (h : Dirt D S) {i : Nat} (hi : i < S.length) : Maps.has D (key i) = dirt S i := by
  unfold key
  rw [h.has i]
  simp [hi]
theorem Dirt.empty {S : List Sec} (h : ∀ i, i < S.length → dirt S i = false) : Dirt (.map []) S := by
  refine ⟨tidy_empty, fun k => ?_, fun i l hi hl => ?_⟩
  · by_cases hk : 0 ≤ k ∧ k < (S.length : Int)
    · rw [h k.toNat (by omega)]; simp [Maps.has]
    · simp [hk, Maps.has]
  · have := h i hi; unfold dirt at this; rw [hl] at this; simp at this
theorem dirt_set {S : List Sec} {i j : Nat} {x : Sec} (hi : i < S.length) : dirt (S.set i x) j = if j = i then x.2.isSome else dirt S j := by
  unfold dirt
  rw [sec_set hi]
  split <;> rfl
theorem Dirt.put {D : DataW Value} {S : List Sec} (h : Dirt D S) {i : Nat} (hi : i < S.length) (s l : List Int) : Dirt (D.put (key i) (.held (pv l))) (S.set i (s, some l)) := by
  have hK := isK (i : Int)
  refine ⟨h.tidy.put hK _, fun k => ?_, fun j m hj hm z => ?_⟩
  · by_cases e : k = (i : Int)
    · subst e
      rw [show Maps.has (D.put (key i) (.held (pv l))) (.int .i64 (i : Int)) = true from Maps.has_put_same h.tidy.isMap hK _, dirt_set hi]
      simp [hi]
    · rw [Maps.has_put_other (by simpa [key] using e), h.has k, dirt_set hi]
      by_cases hk : 0 ≤ k ∧ k < (S.length : Int)
      · rw [if_neg (by omega)]; simp
      · simp [hk]
  · rw [sec_set hi] at hm
    by_cases e : j = i
    · subst e
      rw [if_pos rfl] at hm
      simp at hm; subst hm
      exact Maps.atKey_put_same h.tidy.isMap hK _ _
    · rw [if_neg e] at hm
      rw [Maps.atKey_put_other (by simp only [key, ne_eq, Lit.int.injEq, true_and]; omega)]
      exact h.val j m (by simpa using hj) hm z
theorem Dirt.del {D : DataW Value} {S : List Sec} (h : Dirt D S) {i : Nat} (hi : i < S.length) (s : List Int) : Dirt (D.del (key i)) (S.set i (s, none)) := by
  refine ⟨h.tidy.del _, fun k => ?_, fun j m hj hm z => ?_⟩
  · by_cases e : k = (i : Int)
    · subst e
      rw [show Maps.has (D.del (key i)) (.int .i64 (i : Int)) = false from Maps.has_del_same, dirt_set hi]
      simp
    · rw [Maps.has_del_other (by simpa [key] using e), h.has k, dirt_set hi]
      by_cases hk : 0 ≤ k ∧ k < (S.length : Int)
      · rw [if_neg (by omega)]; simp
      · simp [hk]
  · rw [sec_set hi] at hm
    by_cases e : j = i
    · subst e; rw [if_pos rfl] at hm; simp at hm
    · rw [if_neg e] at hm
      rw [Maps.atKey_del_other (by simp only [key, ne_eq, Lit.int.injEq, true_and]; omega)]
      exact h.val j m (by simpa using hj) hm z
theorem Dirt.none {D : DataW Value} {S : List Sec} (h : Dirt D S) {i : Nat} (hi : i < S.length) (hd : dirt S i = false) (z : DataW Value) : D.atKey (key i) z = z := Maps.atKey_of_not_has (by rw [h.hasN hi]; exact hd) z
theorem Dirt.same {D : DataW Value} {S T : List Sec} (h : Dirt D S) (hl : S.length = T.length) (hs : ∀ i, i < S.length → (sec S i).2 = (sec T i).2) : Dirt D T := by
  refine ⟨h.tidy, fun k => ?_, fun i l hi hm => h.val i l (by omega) (by rw [hs i (by omega)]; exact hm)⟩
  rw [h.has k, hl]
  by_cases hk : 0 ≤ k ∧ k < (T.length : Int)
  · have := hs k.toNat (by omega)
    unfold dirt; rw [this]
  · simp [hk]

section
variable {P : Program} {kt : TypeId} {w : World} {b n : Nat} {D : DataW Value} {S : List Sec}
theorem own_size {H : Type} {R : Value → Option (DataW H × List MemPlace)} {D : DataW H} (h : w.ownsMap P kt R b n D) : w.ownsMap P kt R b (Maps.size D) D := by
  obtain ⟨es, clock, hb, F, hs, rfl⟩ := h
  exact ⟨es, clock, hb, F, by simp [Maps.size, length_sorted], rfl⟩
theorem Dirt.perm (h : Dirt D S) (hown : w.ownsMap P kt self b n D) (hk : P.underlying kt = some (.int .i64)) : ((dl S).map (fun i : Nat => (i : Int))).Perm (intKeys D) := by
  obtain ⟨es, hD, hpw, _⟩ := hown.entries (int_keyed hk)
  obtain ⟨es', hD', hko⟩ := hown.keysOf
  obtain rfl : es = es' := by rw [hD] at hD'; simpa using hD'
  subst hD
  have hnd : (dl S).Nodup := List.nodup_range.sublist List.filter_sublist
  refine perm_intKeys hpw (fun p hp => by obtain ⟨v, hv⟩ := hko p hp; obtain ⟨x, _, hx, _⟩ := Maps.keyOf_i64 hk hv; exact ⟨x, hx⟩) ?_ (fun x => ?_)
  · exact List.pairwise_map.2 (hnd.imp fun hne e => hne (by omega))
  · rw [h.has x]
    simp only [List.mem_map, dl, List.mem_filter, List.mem_range, Bool.and_eq_true, decide_eq_true_eq]
    constructor
    · rintro ⟨i, ⟨h1, h2⟩, rfl⟩
      exact ⟨by omega, by simpa using h2⟩
    · rintro ⟨h1, h2⟩
      exact ⟨x.toNat, ⟨by omega, h2⟩, by omega⟩
theorem size_keys {H : Type} {R : Value → Option (DataW H × List MemPlace)} {D : DataW H} (h : w.ownsMap P kt R b n D) : Maps.size D = (intKeys D).length := by
  obtain ⟨es, clock, hb, F, hs, rfl⟩ := h
  simp [Maps.size, intKeys]
theorem dl_le (S : List Sec) : (dl S).length ≤ S.length := by
  have := List.length_filter_le (dirt S) (List.range S.length)
  simpa [dl] using this
theorem Dirt.size (h : Dirt D S) (hown : w.ownsMap P kt self b n D) (hk : P.underlying kt = some (.int .i64)) : Maps.size D = (dl S).length := by
  rw [size_keys hown, ← (h.perm hown hk).length_eq]; simp
/-- The keys, sorted. -/
theorem Dirt.sorted (h : Dirt D S) (hown : w.ownsMap P kt self b n D) (hk : P.underlying kt = some (.int .i64)) {ss : List Int} (hp : ss.Perm (intKeys D)) : ss.mergeSort (fun x y => decide (x ≤ y)) = (dl S).map (fun i : Nat => (i : Int)) := by
  have hq := hp.trans (h.perm hown hk).symm
  have e := mergeSort_of_perm_i hq
  show ss.mergeSort leI = _
  rw [e]
  refine List.mergeSort_of_pairwise ?_
  refine List.pairwise_map.2 ?_
  have hr : (dl S).Pairwise (· < ·) := List.pairwise_lt_range.sublist List.filter_sublist
  exact hr.imp fun hab => by simp [leI]; omega
end
end Go.Proofs.Ytmcikhdfpmkpnaa
