/- Texts joined into one: DkSh, DkP1, DkM1, DkM2, DkM3, DkD1, DkD2, DkD3, DkD4, DkD5, DkD6, DkD7, DkD8, DkD9, DkD10, DkD11. -/
import Derived.Shelf.SlGeneric
import Derived.Shelf.SlIterI.Nil
import Derived.Shelf.SortM.Plain
import Derived.Shelf.SortM.SortNone
import Derived.Test.YtgjjjkokmgdmjaaDoorChecked
import Derived.WalkKit
import Derived.Maps.OwnSet
import Derived.Maps.OwnOps
import Derived.Maps.Views
import Derived.Maps.RangeWalk
import Derived.Lib.SlKeysI
import Derived.Laws.Tables
import Derived.Laws.CopyRow
import Derived.Laws.IdiomArrays
import Derived.WalkSpells
import Derived.WalkLawsBesides
import Derived.Deep.LoopGhost
import Derived.BigQuiet
import Derived.Laws.CopyOwn
import Derived.Laws.ResultCell
import Derived.ProofKit
import Derived.Deep.RegionHeld3
import Derived.Handy
import Derived.Deep.RegionHeld
import Derived.Laws.AppendOwnNone
/- Library functions that package disk calls: what is proved of them in the library, laid at this program. -/
namespace Go.Proofs.YtgjjjkokmgdmjaaDoor.Dk
open Go.Shelf
def keysA_ren : Go.Shelf.Ren := ⟨fun | 7 => 44 | 10 => 53 | n => n, fun | 23 => 51 | 26 => 3 | 3 => 73 | 28 => 87 | 0 => 0 | 27 => 86 | 33 => 75 | 4 => 4 | n => n, fun | n => n⟩
theorem keysA : Go.Proofs.SlLaysZI.n7 Tryd.prog keysA_ren := {
  mixed := by kernel_rfl
  f7 := ⟨Tryd.f44.name, by decide, Tryd.func44.trans (congrArg some (by kernel_rfl))⟩
  f10 := ⟨Tryd.f53.name, by decide, Tryd.func53.trans (congrArg some (by kernel_rfl))⟩
  t0 := Tryd.underlying0
  a0 := Tryd.isAgg0
  z0 := Tryd.sizeOf0
  v0 := Tryd.zeroValue0
  t4 := Tryd.underlying4
  a4 := Tryd.isAgg4
  z4 := Tryd.sizeOf4
  v4 := Tryd.zeroValue4
  t23 := Tryd.underlying51
  a23 := Tryd.isAgg51
  z23 := Tryd.sizeOf51
  v23 := Tryd.zeroValue51
  t26 := Tryd.underlying3
  a26 := Tryd.isAgg3
  z26 := Tryd.sizeOf3
  v26 := Tryd.zeroValue3
  t27 := Tryd.underlying86
  a27 := Tryd.isAgg86
  z27 := Tryd.sizeOf86
  v27 := Tryd.zeroValue86
  t28 := Tryd.underlying87
  a28 := Tryd.isAgg87
  z28 := Tryd.sizeOf87
  v28 := Tryd.zeroValue87
  t33 := Tryd.underlying75
  a33 := Tryd.isAgg75
  z33 := Tryd.sizeOf75
  v33 := Tryd.zeroValue75 }
def sortedA_ren : Go.Shelf.Ren := ⟨fun | 6 => 43 | 8 => 51 | 9 => 52 | 11 => 58 | 13 => 60 | 12 => 59 | 23 => 73 | 24 => 74 | 14 => 64 | 15 => 65 | 16 => 66 | 17 => 67 | 18 => 68 | 19 => 69 | 20 => 70 | 21 => 71 | 22 => 72 | 25 => 75 | 26 => 76 | 27 => 77 | 28 => 78 | 29 => 79 | 30 => 80 | 31 => 81 | n => n, fun | 26 => 3 | 28 => 87 | 24 => 71 | 0 => 0 | 3 => 3 | 37 => 102 | 48 => 83 | 50 => 108 | 4 => 4 | 40 => 112 | 39 => 111 | 45 => 117 | 5 => 5 | 9 => 9 | 51 => 122 | 55 => 126 | 57 => 128 | 58 => 129 | 33 => 75 | n => n, fun | n => n⟩
theorem sortedA : Go.Proofs.SlLaysZI.n6 Tryd.prog sortedA_ren := {
  mixed := by kernel_rfl
  f6 := ⟨Tryd.f43.name, by decide, Tryd.func43.trans (congrArg some (by kernel_rfl))⟩
  f8 := ⟨Tryd.f51.name, by decide, Tryd.func51.trans (congrArg some (by kernel_rfl))⟩
  f11 := ⟨Tryd.f58.name, by decide, Tryd.func58.trans (congrArg some (by kernel_rfl))⟩
  t0 := Tryd.underlying0
  a0 := Tryd.isAgg0
  z0 := Tryd.sizeOf0
  v0 := Tryd.zeroValue0
  t24 := Tryd.underlying71
  a24 := Tryd.isAgg71
  z24 := Tryd.sizeOf71
  v24 := Tryd.zeroValue71
  t26 := Tryd.underlying3
  a26 := Tryd.isAgg3
  z26 := Tryd.sizeOf3
  v26 := Tryd.zeroValue3
  t28 := Tryd.underlying87
  a28 := Tryd.isAgg87
  z28 := Tryd.sizeOf87
  v28 := Tryd.zeroValue87
  i26 := by kernel_rfl }
def sortA_ren : Go.Shelf.Ren := ⟨fun | 5 => 52 | 8 => 60 | 7 => 59 | 19 => 73 | 20 => 74 | 10 => 64 | 11 => 65 | 12 => 66 | 13 => 67 | 14 => 68 | 15 => 69 | 16 => 70 | 17 => 71 | 18 => 72 | 30 => 75 | 31 => 76 | 32 => 77 | 33 => 78 | 34 => 79 | 35 => 80 | 40 => 81 | n => n, fun | 23 => 71 | 25 => 3 | 3 => 3 | 32 => 102 | 22 => 71 | 0 => 0 | 44 => 83 | 46 => 108 | 4 => 4 | 36 => 112 | 35 => 111 | 41 => 117 | 5 => 5 | 9 => 9 | 53 => 122 | 57 => 126 | 63 => 128 | 64 => 129 | n => n, fun | n => n⟩
theorem sortA : Go.Proofs.SlLaysM.n5 Tryd.prog sortA_ren := {
  mixed := by kernel_rfl
  f5 := ⟨Tryd.f52.name, by decide, Tryd.func52.trans (congrArg some (by kernel_rfl))⟩
  f7 := ⟨Tryd.f59.name, by decide, Tryd.func59.trans (congrArg some (by kernel_rfl))⟩
  f8 := Tryd.func60.trans (congrArg some (by kernel_rfl))
  f10 := ⟨Tryd.f64.name, by decide, Tryd.func64.trans (congrArg some (by kernel_rfl))⟩
  f11 := ⟨Tryd.f65.name, by decide, Tryd.func65.trans (congrArg some (by kernel_rfl))⟩
  f12 := ⟨Tryd.f66.name, by decide, Tryd.func66.trans (congrArg some (by kernel_rfl))⟩
  f13 := ⟨Tryd.f67.name, by decide, Tryd.func67.trans (congrArg some (by kernel_rfl))⟩
  f14 := ⟨Tryd.f68.name, by decide, Tryd.func68.trans (congrArg some (by kernel_rfl))⟩
  f15 := ⟨Tryd.f69.name, by decide, Tryd.func69.trans (congrArg some (by kernel_rfl))⟩
  f16 := ⟨Tryd.f70.name, by decide, Tryd.func70.trans (congrArg some (by kernel_rfl))⟩
  f17 := ⟨Tryd.f71.name, by decide, Tryd.func71.trans (congrArg some (by kernel_rfl))⟩
  f18 := ⟨Tryd.f72.name, by decide, Tryd.func72.trans (congrArg some (by kernel_rfl))⟩
  f19 := Tryd.func73.trans (congrArg some (by kernel_rfl))
  f20 := Tryd.func74.trans (congrArg some (by kernel_rfl))
  f30 := ⟨Tryd.f75.name, by decide, Tryd.func75.trans (congrArg some (by kernel_rfl))⟩
  f31 := Tryd.func76.trans (congrArg some (by kernel_rfl))
  f32 := Tryd.func77.trans (congrArg some (by kernel_rfl))
  f33 := ⟨Tryd.f78.name, by decide, Tryd.func78.trans (congrArg some (by kernel_rfl))⟩
  f34 := ⟨Tryd.f79.name, by decide, Tryd.func79.trans (congrArg some (by kernel_rfl))⟩
  f35 := ⟨Tryd.f80.name, by decide, Tryd.func80.trans (congrArg some (by kernel_rfl))⟩
  f40 := ⟨Tryd.f81.name, by decide, Tryd.func81.trans (congrArg some (by kernel_rfl))⟩
  t0 := Tryd.underlying0
  a0 := Tryd.isAgg0
  z0 := Tryd.sizeOf0
  v0 := Tryd.zeroValue0
  t3 := Tryd.underlying3
  a3 := Tryd.isAgg3
  z3 := Tryd.sizeOf3
  v3 := Tryd.zeroValue3
  t4 := Tryd.underlying4
  a4 := Tryd.isAgg4
  z4 := Tryd.sizeOf4
  v4 := Tryd.zeroValue4
  t5 := Tryd.underlying5
  a5 := Tryd.isAgg5
  z5 := Tryd.sizeOf5
  v5 := Tryd.zeroValue5
  t9 := Tryd.underlying9
  a9 := Tryd.isAgg9
  z9 := Tryd.sizeOf9
  v9 := Tryd.zeroValue9
  t22 := Tryd.underlying71
  a22 := Tryd.isAgg71
  z22 := Tryd.sizeOf71
  v22 := Tryd.zeroValue71
  t23 := Tryd.underlying71
  a23 := Tryd.isAgg71
  z23 := Tryd.sizeOf71
  v23 := Tryd.zeroValue71
  t25 := Tryd.underlying3
  a25 := Tryd.isAgg3
  z25 := Tryd.sizeOf3
  v25 := Tryd.zeroValue3
  t32 := Tryd.underlying102
  a32 := Tryd.isAgg102
  z32 := Tryd.sizeOf102
  v32 := Tryd.zeroValue102
  t35 := Tryd.underlying111
  a35 := Tryd.isAgg111
  z35 := Tryd.sizeOf111
  v35 := Tryd.zeroValue111
  t36 := Tryd.underlying112
  a36 := Tryd.isAgg112
  z36 := Tryd.sizeOf112
  v36 := Tryd.zeroValue112
  t41 := Tryd.underlying117
  a41 := Tryd.isAgg117
  z41 := Tryd.sizeOf117
  v41 := Tryd.zeroValue117
  t44 := Tryd.underlying83
  a44 := Tryd.isAgg83
  z44 := Tryd.sizeOf83
  v44 := Tryd.zeroValue83
  t46 := Tryd.underlying108
  a46 := Tryd.isAgg108
  z46 := Tryd.sizeOf108
  v46 := Tryd.zeroValue108
  t53 := Tryd.underlying122
  a53 := Tryd.isAgg122
  z53 := Tryd.sizeOf122
  v53 := Tryd.zeroValue122
  t57 := Tryd.underlying126
  a57 := Tryd.isAgg126
  z57 := Tryd.sizeOf126
  v57 := Tryd.zeroValue126
  t63 := Tryd.underlying128
  a63 := Tryd.isAgg128
  z63 := Tryd.sizeOf128
  v63 := Tryd.zeroValue128
  t64 := Tryd.underlying129
  a64 := Tryd.isAgg129
  z64 := Tryd.sizeOf129
  v64 := Tryd.zeroValue129 }
end Go.Proofs.YtgjjjkokmgdmjaaDoor.Dk

/- A disk as plain data: sectors, what becomes of them. -/
namespace Go.Proofs.YtgjjjkokmgdmjaaDoor.Dk

/-- A sector: its sure bytes, and those that were written last, if it is dirty. -/
abbrev Sec := List Int × Option (List Int)
def Byt (l : List Int) : Prop := ∀ x ∈ l, 0 ≤ x ∧ x < 256
def Pg (l : List Int) : Prop := l.length = 128 ∧ Byt l
def OkS (s : Sec) : Prop := Pg s.1 ∧ ∀ l, s.2 = some l → Pg l
def zp : List Int := List.replicate 128 0
def fil (b : List Int) : List Int := b ++ List.replicate (128 - b.length) 0
def sec (S : List Sec) (i : Nat) : Sec := S.getD i (zp, none)
def dirt (S : List Sec) (i : Nat) : Bool := (sec S i).2.isSome
def dl (S : List Sec) : List Nat := (List.range S.length).filter (dirt S)
def place (S : List Sec) (i : Nat) : Nat := ((List.range i).filter (dirt S)).length

structure Cr where
  keep : List Bool
  torn : Int
  at' : Int
def outl (c : Cr) (k : Nat) (s l : List Int) : List Int :=
  if (k : Int) = c.torn ∧ 0 ≤ c.at' ∧ c.at' ≤ 128 then l.take c.at'.toNat ++ s.drop c.at'.toNat
  else if k < c.keep.length ∧ c.keep.getD k false = true then l else s
def crash1 (c : Cr) (k : Nat) (s : Sec) : Sec := match s.2 with | none => s | some l => (outl c k s.1 l, none)
def crash (c : Cr) (S : List Sec) : List Sec := (List.range S.length).map fun i => crash1 c (place S i) (sec S i)
/-- The first j dirty sectors are crashed. -/
def crashJ (c : Cr) (S : List Sec) : Nat → List Sec
  | 0 => S
  | j + 1 => (crashJ c S j).set ((dl S).getD j 0) (crash1 c j (sec S ((dl S).getD j 0)))
def now (s : Sec) : List Int := s.2.getD s.1
def flush (S : List Sec) : List Sec := S.map fun s => (now s, none)

theorem pg_zp : Pg zp := ⟨by simp [zp], fun x hx => by simp [zp] at hx; omega⟩
theorem pg_fil {b : List Int} (hb : Byt b) (hl : b.length ≤ 128) : Pg (fil b) := by
  refine ⟨by simp [fil]; omega, fun x hx => ?_⟩
  simp only [fil, List.mem_append, List.mem_replicate] at hx
  rcases hx with h | ⟨_, rfl⟩
  · exact hb x h
  · omega
theorem ok_zp : OkS (zp, none) := ⟨pg_zp, fun l h => by simp at h⟩
theorem sec_mem {S : List Sec} {i : Nat} (hi : i < S.length) : sec S i ∈ S := by simp [sec, List.getD, List.getElem?_eq_getElem hi]
theorem ok_sec {S : List Sec} (h : ∀ s ∈ S, OkS s) (i : Nat) : OkS (sec S i) := by
  by_cases hi : i < S.length
  · exact h _ (sec_mem hi)
  · simp only [sec, List.getD, List.getElem?_eq_none (Nat.le_of_not_lt hi), Option.getD_none]; exact ok_zp
theorem sec_set {S : List Sec} {i j : Nat} {x : Sec} (hi : i < S.length) : sec (S.set i x) j = if j = i then x else sec S j := by
  simp only [sec, List.getD, List.getElem?_set]
  by_cases h : j = i
  · subst h; simp [hi]
  · simp [h, Ne.symm h]
theorem sec_ext {S T : List Sec} (hl : S.length = T.length) (h : ∀ i, i < S.length → sec S i = sec T i) : S = T := by
  apply List.ext_getElem?
  intro i
  by_cases hi : i < S.length
  · have := h i hi
    simp only [sec, List.getD, List.getElem?_eq_getElem hi, List.getElem?_eq_getElem (show i < T.length by omega), Option.getD_some] at this
    rw [List.getElem?_eq_getElem hi, List.getElem?_eq_getElem (show i < T.length by omega), this]
  · rw [List.getElem?_eq_none (by omega), List.getElem?_eq_none (by omega)]

theorem place_succ (S : List Sec) (i : Nat) : place S (i + 1) = place S i + (if dirt S i then 1 else 0) := by
  simp only [place, List.range_succ, List.filter_append, List.length_append]
  congr 1
  by_cases h : dirt S i <;> simp [h]
theorem place_mono (S : List Sec) {i j : Nat} (h : i ≤ j) : place S i ≤ place S j := by
  induction j with
  | zero => rw [show i = 0 by omega]; exact Nat.le_refl _
  | succ j ih =>
    rw [place_succ]
    rcases Nat.lt_or_ge i (j + 1) with h' | h'
    · have := ih (by omega); omega
    · obtain rfl : i = j + 1 := by omega
      rw [place_succ]; omega
theorem place_lt (S : List Sec) {i j : Nat} (h : i < j) (hd : dirt S i = true) : place S i < place S j := by
  have := place_mono S (show i + 1 ≤ j by omega)
  rw [place_succ, hd] at this
  simp at this; omega
theorem filter_range_get (f : Nat → Bool) (n : Nat) : ∀ i, i < n → f i = true → ((List.range n).filter f)[((List.range i).filter f).length]? = some i := by
  induction n with
  | zero => intro i hi; omega
  | succ n ih =>
    intro i hi hf
    rw [List.range_succ, List.filter_append]
    rcases Nat.lt_or_ge i n with h | h
    · have h1 := ih i h hf
      have hl : ((List.range i).filter f).length < ((List.range n).filter f).length := by
        rcases Nat.lt_or_ge ((List.range i).filter f).length ((List.range n).filter f).length with q | q
        · exact q
        · rw [List.getElem?_eq_none q] at h1; cases h1
      rw [List.getElem?_append_left hl]; exact h1
    · obtain rfl : i = n := by omega
      rw [List.getElem?_append_right (Nat.le_refl _)]
      simp [hf]
theorem dl_place {S : List Sec} {i : Nat} (hi : i < S.length) (hd : dirt S i = true) : place S i < (dl S).length ∧ (dl S).getD (place S i) 0 = i := by
  have h := filter_range_get (dirt S) S.length i hi hd
  have hl : place S i < (dl S).length := by
    rcases Nat.lt_or_ge (place S i) (dl S).length with q | q
    · exact q
    · unfold place dl at q; rw [List.getElem?_eq_none q] at h; cases h
  exact ⟨hl, by unfold dl place; rw [List.getD, h]; rfl⟩
theorem dl_get {S : List Sec} {j : Nat} (hj : j < (dl S).length) : (dl S).getD j 0 < S.length ∧ dirt S ((dl S).getD j 0) = true ∧ place S ((dl S).getD j 0) = j := by
  have hm : (dl S).getD j 0 ∈ dl S := by simp [List.getD, List.getElem?_eq_getElem hj]
  have hm' : ∀ x, x ∈ dl S → x < S.length ∧ dirt S x = true := fun x hx => by simpa [dl] using hx
  obtain ⟨h1, h2⟩ := hm' _ hm
  refine ⟨h1, h2, ?_⟩
  obtain ⟨h3, h4⟩ := dl_place h1 h2
  have hnd : (dl S).Nodup := List.nodup_range.sublist List.filter_sublist
  have e : (dl S)[place S ((dl S).getD j 0)]'h3 = (dl S)[j]'hj := by
    have a1 : ∀ k (hk : k < (dl S).length), (dl S).getD k 0 = (dl S)[k]'hk := fun k hk => by simp [List.getD, List.getElem?_eq_getElem hk]
    rw [← a1 _ h3, h4, a1 j hj]
  exact (List.getElem_inj hnd).1 e
theorem crashJ_length (c : Cr) (S : List Sec) (j : Nat) : (crashJ c S j).length = S.length := by
  induction j with
  | zero => rfl
  | succ j ih => simp [crashJ, ih]
theorem crash_length (c : Cr) (S : List Sec) : (crash c S).length = S.length := by simp [crash]
theorem sec_crash (c : Cr) (S : List Sec) {i : Nat} (hi : i < S.length) : sec (crash c S) i = crash1 c (place S i) (sec S i) := by
  simp [sec, crash, List.getD, hi]
theorem sec_crashJ (c : Cr) (S : List Sec) (j : Nat) (hj : j ≤ (dl S).length) (i : Nat) (hi : i < S.length) : sec (crashJ c S j) i = if dirt S i = true ∧ place S i < j then crash1 c (place S i) (sec S i) else sec S i := by
  induction j with
  | zero => simp [crashJ]
  | succ j ih =>
    obtain ⟨h1, h2, h3⟩ := dl_get (show j < (dl S).length by omega)
    have hi' := ih (by omega)
    unfold crashJ
    rw [sec_set (by rw [crashJ_length]; exact h1)]
    by_cases he : i = (dl S).getD j 0
    · rw [if_pos he, ← he, if_pos ⟨by rw [he]; exact h2, by rw [he, h3]; omega⟩]
      rw [← he] at h3
      rw [h3]
    · rw [if_neg he, hi']
      by_cases hd : dirt S i = true
      · have hp : place S i ≠ j := fun e => he (by rw [← e]; exact (dl_place hi hd).2.symm)
        by_cases hq : place S i < j
        · rw [if_pos ⟨hd, hq⟩, if_pos ⟨hd, by omega⟩]
        · rw [if_neg (by omega), if_neg (by omega)]
      · rw [if_neg (by simp [hd]), if_neg (by simp [hd])]
theorem crash1_clean {c : Cr} {k : Nat} {s : Sec} (h : s.2.isSome = false) : crash1 c k s = s := by
  unfold crash1
  cases hs : s.2 with
  | none => rfl
  | some l => rw [hs] at h; simp at h
theorem crashJ_all (c : Cr) (S : List Sec) : crashJ c S (dl S).length = crash c S := by
  refine sec_ext (by rw [crashJ_length, crash_length]) fun i hi => ?_
  rw [crashJ_length] at hi
  rw [sec_crashJ c S _ (Nat.le_refl _) i hi, sec_crash c S hi]
  by_cases hd : dirt S i = true
  · rw [if_pos ⟨hd, (dl_place hi hd).1⟩]
  · rw [if_neg (by simp [hd])]
    exact (crash1_clean (by unfold dirt at hd; simpa using hd)).symm
theorem pg_outl {c : Cr} {k : Nat} {s l : List Int} (hs : Pg s) (hl : Pg l) : Pg (outl c k s l) := by
  unfold outl
  split
  · rename_i h
    refine ⟨?_, fun x hx => ?_⟩
    · have := hs.1; have := hl.1; simp; omega
    · rcases List.mem_append.1 hx with h | h
      · exact hl.2 x (List.mem_of_mem_take h)
      · exact hs.2 x (List.mem_of_mem_drop h)
  · split
    · exact hl
    · exact hs
theorem ok_crash1 {c : Cr} {k : Nat} {s : Sec} (h : OkS s) : OkS (crash1 c k s) := by
  unfold crash1
  cases hs : s.2 with
  | none => exact h
  | some l => exact ⟨pg_outl h.1 (h.2 l hs), fun m hm => by simp at hm⟩
theorem clean1 {c : Cr} {k : Nat} {s : Sec} : (crash1 c k s).2 = none := by
  unfold crash1
  cases hs : s.2 with
  | none => exact hs
  | some l => rfl
theorem ok_crash {c : Cr} {S : List Sec} (h : ∀ s ∈ S, OkS s) : ∀ s ∈ crash c S, OkS s := by
  intro s hs
  simp only [crash, List.mem_map] at hs
  obtain ⟨i, _, rfl⟩ := hs
  exact ok_crash1 (ok_sec h i)
theorem pg_now {s : Sec} (h : OkS s) : Pg (now s) := by
  unfold now
  cases hs : s.2 with
  | none => exact h.1
  | some l => exact h.2 l hs
theorem ok_flush {S : List Sec} (h : ∀ s ∈ S, OkS s) : ∀ s ∈ flush S, OkS s := by
  intro s hs
  simp only [flush, List.mem_map] at hs
  obtain ⟨t, ht, rfl⟩ := hs
  exact ⟨pg_now (h t ht), fun l hl => by simp at hl⟩
theorem ok_set {S : List Sec} (h : ∀ s ∈ S, OkS s) {i : Nat} {x : Sec} (hx : OkS x) : ∀ s ∈ S.set i x, OkS s := by
  intro s hs
  rcases List.mem_or_eq_of_mem_set hs with h' | rfl
  · exact h s h'
  · exact hx
theorem sec_flush {S : List Sec} {i : Nat} (hi : i < S.length) : sec (flush S) i = (now (sec S i), none) := by
  simp [sec, flush, List.getD, hi]
theorem dl_nil_of {S : List Sec} (h : ∀ i, i < S.length → dirt S i = false) : dl S = [] := by
  unfold dl
  rw [List.filter_eq_nil_iff]
  intro i hi
  rw [h i (List.mem_range.1 hi)]
  simp
theorem dl_flush (S : List Sec) : dl (flush S) = [] := dl_nil_of fun i hi => by
  have : i < S.length := by simpa [flush] using hi
  unfold dirt; rw [sec_flush this]; rfl
theorem dl_crash (c : Cr) (S : List Sec) : dl (crash c S) = [] := dl_nil_of fun i hi => by
  rw [crash_length] at hi
  unfold dirt; rw [sec_crash c S hi, clean1]; rfl
end Go.Proofs.YtgjjjkokmgdmjaaDoor.Dk

/- The map of what was written, but not flushed, as plain data. -/
namespace Go.Proofs.YtgjjjkokmgdmjaaDoor.Dk
open Go.RowKit Go.Maps

/-- A page, as a value. -/
def pc (l : List Int) : List Value := l.map (Value.int .u8)
def pv (l : List Int) : Value := .agg (pc l).toArray
theorem pc_length (l : List Int) : (pc l).length = l.length := by simp [pc]
theorem pc_one (l : List Int) : ∀ u ∈ pc l, u.oneCell' = true := by
  intro u hu; simp [pc] at hu; obtain ⟨z, _, rfl⟩ := hu; rfl
theorem pc_inj {l m : List Int} (h : pc l = pc m) : l = m := by
  unfold pc at h
  exact (List.map_inj_right (fun a b e => by simpa using e)).1 h
theorem pv_inj {l m : List Int} (h : pv l = pv m) : l = m := by
  unfold pv at h
  simp only [Value.agg.injEq] at h
  exact pc_inj (by simpa using h)

/-- Each element reads as itself. -/
def self (v : Value) : Option (DataW Value × List MemPlace) := some (.held v, [])
def key (i : Nat) : Lit := .int .i64 (i : Int)

/-- The datum D has just the dirty sectors of S. -/
structure Dirt (D : DataW Value) (S : List Sec) : Prop where
  tidy : Tidy D
  has : ∀ k : Int, Maps.has D (.int .i64 k) = (decide (0 ≤ k ∧ k < (S.length : Int)) && dirt S k.toNat)
  val : ∀ i l, i < S.length → (sec S i).2 = some l → ∀ z, D.atKey (key i) z = .held (pv l)

theorem isK (k : Int) : WideAt.IsKeyLit (.int .i64 k) := trivial
theorem Dirt.hasN {D : DataW Value} {S : List Sec} (h : Dirt D S) {i : Nat} (hi : i < S.length) : Maps.has D (key i) = dirt S i := by
  unfold key
  rw [h.has i]
  simp [hi]
theorem Dirt.empty {S : List Sec} (h : ∀ i, i < S.length → dirt S i = false) : Dirt (.map []) S := by
  refine ⟨tidy_empty, fun k => ?_, fun i l hi hl => ?_⟩
  · by_cases hk : 0 ≤ k ∧ k < (S.length : Int)
    · rw [h k.toNat (by omega)]; simp [Maps.has]
    · simp [hk, Maps.has]
  · have := h i hi; unfold dirt at this; rw [hl] at this; simp at this
theorem dirt_set {S : List Sec} {i j : Nat} {x : Sec} (hi : i < S.length) : dirt (S.set i x) j = if j = i then x.2.isSome else dirt S j := by
  unfold dirt
  rw [sec_set hi]
  split <;> rfl
theorem Dirt.put {D : DataW Value} {S : List Sec} (h : Dirt D S) {i : Nat} (hi : i < S.length) (s l : List Int) : Dirt (D.put (key i) (.held (pv l))) (S.set i (s, some l)) := by
  have hK := isK (i : Int)
  refine ⟨h.tidy.put hK _, fun k => ?_, fun j m hj hm z => ?_⟩
  · by_cases e : k = (i : Int)
    · subst e
      rw [show Maps.has (D.put (key i) (.held (pv l))) (.int .i64 (i : Int)) = true from Maps.has_put_same h.tidy.isMap hK _, dirt_set hi]
      simp [hi]
    · rw [Maps.has_put_other (by simpa [key] using e), h.has k, dirt_set hi]
      by_cases hk : 0 ≤ k ∧ k < (S.length : Int)
      · rw [if_neg (by omega)]; simp
      · simp [hk]
  · rw [sec_set hi] at hm
    by_cases e : j = i
    · subst e
      rw [if_pos rfl] at hm
      simp at hm; subst hm
      exact Maps.atKey_put_same h.tidy.isMap hK _ _
    · rw [if_neg e] at hm
      rw [Maps.atKey_put_other (by simp only [key, ne_eq, Lit.int.injEq, true_and]; omega)]
      exact h.val j m (by simpa using hj) hm z
theorem Dirt.del {D : DataW Value} {S : List Sec} (h : Dirt D S) {i : Nat} (hi : i < S.length) (s : List Int) : Dirt (D.del (key i)) (S.set i (s, none)) := by
  refine ⟨h.tidy.del _, fun k => ?_, fun j m hj hm z => ?_⟩
  · by_cases e : k = (i : Int)
    · subst e
      rw [show Maps.has (D.del (key i)) (.int .i64 (i : Int)) = false from Maps.has_del_same, dirt_set hi]
      simp
    · rw [Maps.has_del_other (by simpa [key] using e), h.has k, dirt_set hi]
      by_cases hk : 0 ≤ k ∧ k < (S.length : Int)
      · rw [if_neg (by omega)]; simp
      · simp [hk]
  · rw [sec_set hi] at hm
    by_cases e : j = i
    · subst e; rw [if_pos rfl] at hm; simp at hm
    · rw [if_neg e] at hm
      rw [Maps.atKey_del_other (by simp only [key, ne_eq, Lit.int.injEq, true_and]; omega)]
      exact h.val j m (by simpa using hj) hm z
theorem Dirt.none {D : DataW Value} {S : List Sec} (h : Dirt D S) {i : Nat} (hi : i < S.length) (hd : dirt S i = false) (z : DataW Value) : D.atKey (key i) z = z := Maps.atKey_of_not_has (by rw [h.hasN hi]; exact hd) z
theorem Dirt.same {D : DataW Value} {S T : List Sec} (h : Dirt D S) (hl : S.length = T.length) (hs : ∀ i, i < S.length → (sec S i).2 = (sec T i).2) : Dirt D T := by
  refine ⟨h.tidy, fun k => ?_, fun i l hi hm => h.val i l (by omega) (by rw [hs i (by omega)]; exact hm)⟩
  rw [h.has k, hl]
  by_cases hk : 0 ≤ k ∧ k < (T.length : Int)
  · have := hs k.toNat (by omega)
    unfold dirt; rw [this]
  · simp [hk]

section
variable {P : Program} {kt : TypeId} {w : World} {b n : Nat} {D : DataW Value} {S : List Sec}
theorem own_size {H : Type} {R : Value → Option (DataW H × List MemPlace)} {D : DataW H} (h : w.ownsMap P kt R b n D) : w.ownsMap P kt R b (Maps.size D) D := by
  obtain ⟨es, clock, hb, F, hs, rfl⟩ := h
  exact ⟨es, clock, hb, F, by simp [Maps.size, length_sorted], rfl⟩
theorem Dirt.perm (h : Dirt D S) (hown : w.ownsMap P kt self b n D) (hk : P.underlying kt = some (.int .i64)) : ((dl S).map (fun i : Nat => (i : Int))).Perm (intKeys D) := by
  obtain ⟨es, hD, hpw, _⟩ := hown.entries (int_keyed hk)
  obtain ⟨es', hD', hko⟩ := hown.keysOf
  obtain rfl : es = es' := by rw [hD] at hD'; simpa using hD'
  subst hD
  have hnd : (dl S).Nodup := List.nodup_range.sublist List.filter_sublist
  refine perm_intKeys hpw (fun p hp => by obtain ⟨v, hv⟩ := hko p hp; obtain ⟨x, _, hx, _⟩ := Maps.keyOf_i64 hk hv; exact ⟨x, hx⟩) ?_ (fun x => ?_)
  · exact List.pairwise_map.2 (hnd.imp fun hne e => hne (by omega))
  · rw [h.has x]
    simp only [List.mem_map, dl, List.mem_filter, List.mem_range, Bool.and_eq_true, decide_eq_true_eq]
    constructor
    · rintro ⟨i, ⟨h1, h2⟩, rfl⟩
      exact ⟨by omega, by simpa using h2⟩
    · rintro ⟨h1, h2⟩
      exact ⟨x.toNat, ⟨by omega, h2⟩, by omega⟩
theorem size_keys {H : Type} {R : Value → Option (DataW H × List MemPlace)} {D : DataW H} (h : w.ownsMap P kt R b n D) : Maps.size D = (intKeys D).length := by
  obtain ⟨es, clock, hb, F, hs, rfl⟩ := h
  simp [Maps.size, intKeys]
theorem dl_le (S : List Sec) : (dl S).length ≤ S.length := by
  have := List.length_filter_le (dirt S) (List.range S.length)
  simpa [dl] using this
theorem Dirt.size (h : Dirt D S) (hown : w.ownsMap P kt self b n D) (hk : P.underlying kt = some (.int .i64)) : Maps.size D = (dl S).length := by
  rw [size_keys hown, ← (h.perm hown hk).length_eq]; simp
/-- The keys, sorted. -/
theorem Dirt.sorted (h : Dirt D S) (hown : w.ownsMap P kt self b n D) (hk : P.underlying kt = some (.int .i64)) {ss : List Int} (hp : ss.Perm (intKeys D)) : ss.mergeSort (fun x y => decide (x ≤ y)) = (dl S).map (fun i : Nat => (i : Int)) := by
  have hq := hp.trans (h.perm hown hk).symm
  have e := mergeSort_of_perm_i hq
  show ss.mergeSort leI = _
  rw [e]
  refine List.mergeSort_of_pairwise ?_
  refine List.pairwise_map.2 ?_
  have hr : (dl S).Pairwise (· < ·) := List.pairwise_lt_range.sublist List.filter_sublist
  exact hr.imp fun hab => by simp [leI]; omega
end
end Go.Proofs.YtgjjjkokmgdmjaaDoor.Dk

/- Rows of pages in memory; a page is read, and written, as a value. -/
namespace Go.Proofs.YtgjjjkokmgdmjaaDoor.Dk
open Go.RowKit Go.Maps

/-- Set aside, so that the walk does not use it. -/
structure Hid (p : Prop) : Prop where
  out : p

def fl (ps : List (List Int)) : List Value := ps.flatMap pc
def P128 (ps : List (List Int)) : Prop := ∀ p ∈ ps, p.length = 128
theorem fl_cons (p : List Int) (ps : List (List Int)) : fl (p :: ps) = pc p ++ fl ps := rfl
theorem fl_append (ps qs : List (List Int)) : fl (ps ++ qs) = fl ps ++ fl qs := by simp [fl]
theorem fl_length {ps : List (List Int)} (h : P128 ps) : (fl ps).length = ps.length * 128 := by
  induction ps with
  | nil => rfl
  | cons p ps ih =>
    rw [fl_cons, List.length_append, ih (fun q hq => h q (by simp [hq])), pc_length, h p (by simp)]
    simp; omega
theorem fl_one (ps : List (List Int)) : ∀ u ∈ fl ps, u.oneCell' = true := by
  intro u hu
  simp only [fl, List.mem_flatMap] at hu
  obtain ⟨p, _, hp⟩ := hu
  exact pc_one p u hp
theorem fl_split {ps : List (List Int)} (h : P128 ps) : ∀ {i : Nat}, i < ps.length → ∃ A B, fl ps = A ++ pc (ps.getD i []) ++ B ∧ A.length = i * 128 ∧ ∀ p : List Int, fl (ps.set i p) = A ++ pc p ++ B := by
  induction ps with
  | nil => intro i hi; simp at hi
  | cons q ps ih =>
    intro i hi
    match i with
    | 0 => exact ⟨[], fl ps, by simp [fl_cons], by simp, fun p => by simp [fl_cons]⟩
    | i + 1 =>
      obtain ⟨A, B, h1, h2, h3⟩ := ih (fun x hx => h x (by simp [hx])) (i := i) (by simpa using hi)
      refine ⟨pc q ++ A, B, ?_, ?_, fun p => ?_⟩
      · rw [fl_cons, h1]; simp
      · rw [List.length_append, pc_length, h q (by simp), h2]; omega
      · rw [List.set_cons_succ, fl_cons, h3]; simp

/-- The block g holds the pages ps, and has room for cap of them. -/
def Rows (w : World) (g cap : Nat) (e : TypeId) (ps : List (List Int)) : Prop :=
  P128 ps ∧ ∃ cur rest, w.heap[g]? = some (.cells cur e (0, 0)) ∧ cur.toList = fl ps ++ rest ∧ cur.size = cap * 128 ∧ ps.length ≤ cap ∧ cap ≤ maxLen

section
variable {w w' : World} {g cap : Nat} {e : TypeId} {ps : List (List Int)}
theorem Rows.lt (h : Rows w g cap e ps) : g < w.heap.size := by
  obtain ⟨_, cur, rest, hg, _⟩ := h
  exact (Array.getElem?_eq_some_iff.1 hg).1
theorem Rows.kept (h : Rows w g cap e ps) (hb : w'.heap[g]? = w.heap[g]?) : Rows w' g cap e ps := by
  obtain ⟨hp, cur, rest, hg, r⟩ := h
  exact ⟨hp, cur, rest, hb.trans hg, r⟩
theorem Rows.cells (h : Rows w g cap e ps) {i : Nat} (hi : i < ps.length) : ∀ j v, (pc (ps.getD i []))[j]? = some v → w.cell? ⟨g, i * 128 + j, none⟩ = some v := by
  intro j v hv
  obtain ⟨hp, cur, rest, hg, hc, _⟩ := h
  obtain ⟨A, B, h1, h2, _⟩ := fl_split hp hi
  have hj : j < (pc (ps.getD i [])).length := by
    rcases Nat.lt_or_ge j (pc (ps.getD i [])).length with h | h
    · exact h
    · rw [List.getElem?_eq_none h] at hv; cases hv
  rw [cell_of_row w g _ cur e (0, 0) hg, ← Array.getElem?_toList, hc, h1, ← h2, List.append_assoc, List.append_assoc, List.getElem?_append_right (by omega), Nat.add_sub_cancel_left, List.getElem?_append_left hj]
  exact hv
theorem Rows.frozen (h : Rows w g cap e ps) (j : Nat) : w.frozen? ⟨g, j, none⟩ = false := by
  obtain ⟨_, cur, rest, hg, _⟩ := h
  exact frozen_of_row w g j cur e hg
theorem Rows.set (h : Rows w g cap e ps) {i : Nat} (hi : i < ps.length) {p : List Int} (hpl : p.length = 128) {cur : Array Value} (hg : w.heap[g]? = some (.cells cur e (0, 0))) :
    i * 128 + (pc p).length ≤ cur.size ∧ Rows (w.setRow g (cur.toList.take (i * 128) ++ pc p ++ cur.toList.drop (i * 128 + (pc p).length)).toArray) g cap e (ps.set i p) := by
  obtain ⟨hp, cur', rest, hg', hc, hs, hle, hm⟩ := h
  rw [hg] at hg'
  obtain rfl : cur = cur' := by simpa using hg'
  obtain ⟨A, B, h1, h2, h3⟩ := fl_split hp hi
  have hl : (pc (ps.getD i [])).length = 128 := by
    rw [pc_length]; exact hp _ (by simp [List.getD, List.getElem?_eq_getElem hi])
  have hpp : (pc p).length = 128 := by rw [pc_length, hpl]
  have hsz : cur.size = (fl ps ++ rest).length := by rw [← hc]; simp
  have e1 : cur.toList.take (i * 128) ++ pc p ++ cur.toList.drop (i * 128 + (pc p).length) = fl (ps.set i p) ++ rest := by
    rw [hc, h1, h3 p, hpp, ← h2]
    rw [show A ++ pc (ps.getD i []) ++ B ++ rest = A ++ (pc (ps.getD i []) ++ (B ++ rest)) by simp, List.take_left, ← hl, List.drop_append, List.drop_eq_nil_of_le (by omega), Nat.add_sub_cancel_left, List.drop_left]
    simp
  refine ⟨?_, fun q hq => ?_, _, rest, setRow_heap w g cur _ e (0, 0) hg, by rw [List.toList_toArray]; exact e1, ?_, by simpa using hle, hm⟩
  · rw [hpp, hsz, List.length_append, fl_length hp]
    have := Nat.mul_le_mul_right 128 (show i + 1 ≤ ps.length by omega)
    omega
  · rcases List.mem_or_eq_of_mem_set hq with h | rfl
    · exact hp q h
    · exact hpl
  · rw [e1, List.size_toArray, List.length_append, fl_length (ps := ps.set i p) (fun q hq => by
      rcases List.mem_or_eq_of_mem_set hq with h | rfl
      · exact hp q h
      · exact hpl), List.length_set, ← hs, hsz, List.length_append, fl_length hp]
end

section
variable {P : Program}
/-- A load of a page. -/
theorem wpList_load_page {ops : Array Oper} {rest : List Oper} {o : Oper} {a : Act} {w : World} {Q : Exit → Act → World → Prop} (hgd : o.guard = none) (ty : TypeId) (x : Operand) (ho : o.op = .load ty x)
    (g off : Nat) (hx : a.eval x = .pointer (some ⟨g, off, none⟩)) (p : List Int) (d : TypeDesc) (hc : ∀ j v, (pc p)[j]? = some v → w.cell? ⟨g, off + j, none⟩ = some v)
    (hu : P.underlying ty = some d) (hd : (match d with | .struct _ | .array _ _ => true | _ => false) = true) (hi : (P.info? ty).map (·.size) = some p.length)
    (h : wpList P ops Q rest (a.put o.dst (pv p)) w) : wpList P ops Q (o :: rest) a w := by
  refine wpList_plain hgd fun K hK => ?_
  have hl : (loadCells ⟨g, off, none⟩ p.length).run P w = .ok (pc p).toArray w := by
    have := run_loadCells_list (P := P) w ⟨g, off, none⟩ (pc p) (fun j v hv => by
      have hadd : (⟨g, off, none⟩ : Addr).add j = ⟨g, off + j, none⟩ := by unfold Addr.add; split <;> simp_all
      rw [hadd]; exact hc j v hv)
    rwa [pc_length] at this
  have hlv : (loadVar ty ⟨g, off, none⟩).run P w = .ok (pv p) w := by
    cases hq : P.info? ty with
    | none => simp [hq] at hi
    | some i =>
      have hs : i.size = p.length := by simpa [hq] using hi
      have hagg : (isAgg ty).run P w = .ok true w := by
        unfold isAgg
        rw [Sem.run_bind, run_underlying hu w]
        cases d <;> simp_all
      simp [loadVar, Sem.run_bind, hagg, sizeOf, typeInfo, hq, hs, hl, pv]
  unfold Oper.wp execOp
  simp only [ho, hx, Instr.loadAt, Instr.sureAddr, Sem.run_bind, Sem.run_pure, Result.andThen_ok, hlv]
  exact hK _ _ h
/-- A store of a page. -/
theorem wpList_store_page {ops : Array Oper} {rest : List Oper} {o : Oper} {a : Act} {w : World} {Q : Exit → Act → World → Prop} (hgd : o.guard = none) (ty : TypeId) (x y : Operand) (ho : o.op = .store ty x y)
    (g off : Nat) (p : List Int) (hx : a.eval x = .pointer (some ⟨g, off, none⟩)) (hy : a.eval y = pv p)
    (t : TypeId) (cur : Array Value) (hg : w.heap[g]? = some (.cells cur t (0, 0))) (hi : (P.info? ty).map (·.size) = some p.length)
    (hle : off + (pc p).length ≤ cur.size)
    (h : wpList P ops Q rest (a.put o.dst undef) (w.setRow g (cur.toList.take off ++ pc p ++ cur.toList.drop (off + (pc p).length)).toArray)) : wpList P ops Q (o :: rest) a w := by
  refine wpList_plain hgd fun K hK => ?_
  have hst := run_storeCells_at P g off t (pc p) 0 cur w hg (by simpa using hle) (pc_one p)
  have hsv : (storeVar ty ⟨g, off, none⟩ (pv p)).run P w = .ok () (w.setRow g (cur.toList.take off ++ pc p ++ cur.toList.drop (off + (pc p).length)).toArray) := by
    cases hq : P.info? ty with
    | none => simp [hq] at hi
    | some i =>
      have hs : (pc p).length = i.size := by rw [pc_length]; simp [hq] at hi; omega
      simp [storeVar, sizeOf, typeInfo, hq, Value.cells, pv, hs] at hst ⊢
      exact hst
  unfold Oper.wp execOp
  simp only [ho, hx, hy, Instr.storeAt, Instr.sureAddr, Sem.run_bind, Sem.run_pure, Result.andThen_ok, hsv]
  exact hK _ _ h
end
end Go.Proofs.YtgjjjkokmgdmjaaDoor.Dk

/- clear of a map. -/
namespace Go.Proofs.YtgjjjkokmgdmjaaDoor.Dk
open Go.RowKit Go.Maps Go.ChangeMaps Go.MapKept

theorem run_clear_map {P : Program} {w : World} {t kt e ty : TypeId} {b : Nat} {es : Array MapEntry} {clock : Nat} (ht : P.underlying t = some (.map kt e)) (hb : w.heap[b]? = some (.map es clock)) :
    (Builtin.clear_ #[t] ty #[.map (some b)]).run P w = .ok (.tuple #[]) (setBlock w b (.map #[] clock)) := by
  have hs : (setObj b (.map #[] clock)).run P w = .ok () (setBlock w b (.map #[] clock)) := run_setObj_map _ hb
  simp [Builtin.clear_, run_underlying ht, MapKept.run_getObj_map hb, hs, Result.andThen]
/-- 'clear(m)'. -/
theorem own_clear {P : Program} {w : World} {t kt e ty : TypeId} {b n : Nat} {D : DataW Value} (ht : P.underlying t = some (.map kt e)) (h : w.ownsMap P kt self b n D) :
    ∃ w', (Builtin.clear_ #[t] ty #[.map (some b)]).run P w = .ok (.tuple #[]) w' ∧ w'.ownsMap P kt self b 0 (.map []) ∧ w.mapTurned w' b := by
  obtain ⟨es, clock, hb, F, hs, rfl⟩ := h
  exact ⟨_, run_clear_map ht hb, ⟨#[], clock, heap_setBlock_same hb _, ⟨by simp, stamped_empty clock, by simp⟩, Nat.le_refl _, rfl⟩, ⟨es, clock, #[], clock, hb, rfl⟩⟩
end Go.Proofs.YtgjjjkokmgdmjaaDoor.Dk

/- Package disk's Dirty: the keys of a map of ints, sorted; maps.Clone. -/
namespace Go.Proofs.YtgjjjkokmgdmjaaDoor.Dk
open Go.RowKit Go.Maps Go.Sort Go.Shelf

theorem sorts (m : Nat) : AnyZI.SortsIn Tryd.prog sortedA_ren Fence.wide m :=
  ⟨fun blk off cap ss W hH hblk hsz => callsIn_wide.2 (AnyM.slices_Sort_int sortA blk off cap ss W hH hblk hsz),
   fun p cap W => callsIn_wide.2 (AnyM.slices_Sort_int_none sortA p cap W)⟩

theorem keys_any (mb : Option Nat) (W : World) : Calls Tryd.prog 44 #[.map mb] W fun e w' => e = .returned (.func (.func 53) #[] #[.pointer (some ⟨W.heap.size, 0, none⟩)]) ∧ w' = W.alloc (.cells #[.map mb] 51) :=
  (callsIn_wide (n := 5)).1 (AnyZI.keys_in keysA Fence.wide 5 trivial rfl mb W)

theorem sorted_any (b nn : Nat) (D : DataW Value) (w : World) (hown : w.ownsMap Tryd.prog 3 self b nn D) (hmax : Maps.size D ≤ 4096) :
    Calls Tryd.prog 43 #[.func (.func 53) #[] #[.pointer (some ⟨w.heap.size, 0, none⟩)]] (w.alloc (.cells #[.map (some b)] 51)) fun e w' => ∃ (v : Value) (ss : List Int), e = .returned v ∧ ss.Perm (intKeys D) ∧
      w'.ownsRow w.heap.size 3 1 v ss.length ((ss.mergeSort (fun x y => decide (x ≤ y))).map (Value.int .i64)) ∧ Below w.heap.size w w' := by
  have hbl := hown.lt
  have hseq : SeqGives Fence.wide 2 Tryd.prog 53 #[.pointer (some ⟨w.heap.size, 0, none⟩)] encZ (fun ss => ss.Perm (intKeys D)) (Maps.size D) (w.alloc (.cells #[.map (some b)] 51)) :=
    AnyZI.keys_gives (ρ := keysA_ren) { keysA with } Fence.wide _ trivial rfl (by omega) w.heap.size b nn D _ (by simp) (by simp) (by
      obtain ⟨es, clock, hb, Ft, hs, hD⟩ := hown
      exact ⟨es, clock, (Below.heap_alloc _ _ b hbl).trans hb, Ft, hs, hD⟩)
  have cS := AnyZI.sorted_in sortedA Fence.wide 5 trivial trivial trivial trivial rfl (by omega) (sorts _) (enters_of Tryd.func52 (by kernel_rfl) rfl) 53 #[.pointer (some ⟨w.heap.size, 0, none⟩)] trivial (enters_of Tryd.func53 (by kernel_rfl) rfl) _ _ (by unfold maxLen; omega) (by omega) _ hseq
  change CallsIn _ _ Tryd.prog 43 _ _ _ at cS
  refine ((callsIn_wide (n := 5)).1 cS).mono ?_
  rintro e w' ⟨v, ss, rfl, hS, hrow, hnil, hb⟩
  exact ⟨v, ss, rfl, hS, ownsRow_base_a hrow (by simp), ((Below.refl _ w).alloc (Nat.le_refl _) _).trans (hb.mono (by simp))⟩

end Go.Proofs.YtgjjjkokmgdmjaaDoor.Dk

/- A disk in memory; what it tells of itself. -/
namespace Go.Proofs.YtgjjjkokmgdmjaaDoor.Dk
open Go.RowKit Go.Maps Go.Sort Go.Shelf

/-- A disk, as plain data. -/
structure Dk where
  S : List Sec
  trip : Int
  down : Bool
  life : Int

/-- What was there stays, but for some blocks. -/
structure Chg (X : List Nat) (w w' : World) : Prop where
  os : w'.os = w.os
  tape : w'.tape = w.tape
  output : w'.output = w.output
  size : w.heap.size ≤ w'.heap.size
  block : ∀ k, k < w.heap.size → k ∉ X → w'.heap[k]? = w.heap[k]?

theorem Chg.refl (X : List Nat) (w : World) : Chg X w w := ⟨rfl, rfl, rfl, Nat.le_refl _, fun _ _ _ => rfl⟩
theorem Chg.trans {X : List Nat} {w w1 w2 : World} (h : Chg X w w1) (k : Chg X w1 w2) : Chg X w w2 :=
  ⟨k.os.trans h.os, k.tape.trans h.tape, k.output.trans h.output, Nat.le_trans h.size k.size, fun i hi hx => (k.block i (Nat.lt_of_lt_of_le hi h.size) hx).trans (h.block i hi hx)⟩
theorem Chg.ofBelow {X : List Nat} {w w' : World} (h : Below w.heap.size w w') : Chg X w w' := ⟨h.os, h.tape, h.output, h.size, fun k hk _ => h.block k hk⟩
theorem Chg.below {X : List Nat} {w w' : World} (h : Chg X w w') {B : Nat} (hB : B ≤ w.heap.size) (hX : ∀ x ∈ X, B ≤ x) : Below B w w' :=
  ⟨h.os, h.tape, h.output, h.size, fun k hk => h.block k (by omega) (fun hx => by have := hX k hx; omega)⟩
theorem Chg.mono {X Y : List Nat} {w w' : World} (h : Chg X w w') (hX : ∀ x ∈ X, x ∈ Y ∨ w.heap.size ≤ x) : Chg Y w w' :=
  ⟨h.os, h.tape, h.output, h.size, fun k hk hy => h.block k hk (fun hx => by rcases hX k hx with h | h; exact hy h; omega)⟩
theorem Chg.thenNew {X Y : List Nat} {w w1 w2 : World} (h : Chg X w w1) (k : Chg Y w1 w2) (hY : ∀ x ∈ Y, x ∈ X ∨ w.heap.size ≤ x) : Chg X w w2 :=
  ⟨k.os.trans h.os, k.tape.trans h.tape, k.output.trans h.output, Nat.le_trans h.size k.size, fun i hi hx => (k.block i (Nat.lt_of_lt_of_le hi h.size) (fun hy => by rcases hY i hy with q | q; exact hx q; omega)).trans (h.block i hi hx)⟩
theorem Chg.cell {X : List Nat} {w w' : World} (h : Chg X w w') {a : Addr} (ha : a.block < w.heap.size) (hx : a.block ∉ X) : w'.cell? a = w.cell? a := World.cell?_of_block (h.block _ ha hx)
theorem Chg.setCell {X : List Nat} {w w' : World} (h : Chg X w w') {a : Addr} (ha : a.block ∈ X ∨ w.heap.size ≤ a.block) (v : Value) : Chg X w (w'.setCell a v) :=
  ⟨h.os, h.tape, h.output, by simpa using h.size, fun k hk hx => (heap_setCell_other w' a k v (fun e => by subst e; rcases ha with q | q; exact hx q; omega)).trans (h.block k hk hx)⟩
theorem Chg.setRow {X : List Nat} {w w' : World} (h : Chg X w w') {g : Nat} (hg : g ∈ X ∨ w.heap.size ≤ g) (cs : Array Value) : Chg X w (w'.setRow g cs) :=
  ⟨h.os, h.tape, h.output, by simpa using h.size, fun k hk hx => (setRow_other w' g k cs (fun e => by subst e; rcases hg with q | q; exact hx q; omega)).trans (h.block k hk hx)⟩
theorem Chg.ofMap {w w' : World} {b : Nat} (h : w.mapTurned w' b) : Chg [b] w w' := by
  have g := h.grown
  exact ⟨g.os, g.tape, g.output, g.size, fun k hk hx => g.block k hk (fun e => hx (by simp only [Option.some.injEq] at e; simp [e]))⟩
theorem Chg.drew {X : List Nat} {w w' : World} (h : Chg X w w') : Chg X w w'.drew := ⟨h.os, h.tape, h.output, h.size, h.block⟩

/-- The disk at block p: its sure pages in block g, its map in block bm. -/
structure AtX (w : World) (p g bm base cap : Nat) (tc : Int) (n : Nat) (D : DataW Value) (d : Dk) : Prop where
  row : w.heap[p]? = some (.cells #[.slice (some ⟨g, 0, none⟩) d.S.length cap, .map (some bm), .int .i64 tc, .bool d.down, .int .i64 d.life] 53 (0, 0))
  rows : Rows w g cap 73 (d.S.map (·.1))
  map : w.ownsMap Tryd.prog 3 self bm n D
  drt : Dirt D d.S
  ok : ∀ s ∈ d.S, OkS s
  len : d.S.length ≤ 4096
  trip : d.down = false → tc = d.trip
  rng : 0 ≤ tc ∧ tc ≤ 9223372036854775807
  bp : base ≤ p ∧ base ≤ g ∧ base ≤ bm
def At (w : World) (p g bm base : Nat) (d : Dk) : Prop := ∃ cap tc n D, AtX w p g bm base cap tc n D d

theorem AtX.at {w : World} {p g bm base cap : Nat} {tc : Int} {n : Nat} {D : DataW Value} {d : Dk} (h : AtX w p g bm base cap tc n D d) : At w p g bm base d := ⟨cap, tc, n, D, h⟩
section
variable {w w' : World} {p g bm base cap : Nat} {tc : Int} {n : Nat} {D : DataW Value} {d : Dk}
theorem AtX.lt (h : AtX w p g bm base cap tc n D d) : p < w.heap.size ∧ g < w.heap.size ∧ bm < w.heap.size := ⟨(Array.getElem?_eq_some_iff.1 h.row).1, h.rows.lt, h.map.lt⟩
theorem AtX.ne (h : AtX w p g bm base cap tc n D d) : p ≠ g ∧ p ≠ bm ∧ g ≠ bm := by
  have hr := h.row
  obtain ⟨_, cur, rest, hg, _⟩ := h.rows
  obtain ⟨es, clock, hb, _⟩ := h.map
  refine ⟨fun e => ?_, fun e => ?_, fun e => ?_⟩
  · rw [e, hg] at hr; simp at hr
  · rw [e, hb] at hr; simp at hr
  · rw [e, hb] at hg; simp at hg
theorem AtX.kept (h : AtX w p g bm base cap tc n D d) (h1 : w'.heap[p]? = w.heap[p]?) (h2 : w'.heap[g]? = w.heap[g]?) (h3 : w'.heap[bm]? = w.heap[bm]?) : AtX w' p g bm base cap tc n D d := by
  obtain ⟨es, clock, hb, r⟩ := h.map
  exact { h with row := h1.trans h.row, rows := h.rows.kept h2, map := ⟨es, clock, h3.trans hb, r⟩ }
theorem AtX.below (h : AtX w p g bm base cap tc n D d) (hb : Below w.heap.size w w') : AtX w' p g bm base cap tc n D d :=
  h.kept (hb.block p h.lt.1) (hb.block g h.lt.2.1) (hb.block bm h.lt.2.2)
theorem AtX.chg (h : AtX w p g bm base cap tc n D d) {X : List Nat} (hc : Chg X w w') (hx : p ∉ X ∧ g ∉ X ∧ bm ∉ X) : AtX w' p g bm base cap tc n D d :=
  h.kept (hc.block p h.lt.1 hx.1) (hc.block g h.lt.2.1 hx.2.1) (hc.block bm h.lt.2.2 hx.2.2)
theorem AtX.cells (h : AtX w p g bm base cap tc n D d) : w.cell? ⟨p, 0, none⟩ = some (.slice (some ⟨g, 0, none⟩) d.S.length cap) ∧ w.cell? ⟨p, 1, none⟩ = some (.map (some bm)) ∧ w.cell? ⟨p, 2, none⟩ = some (.int .i64 tc) ∧ w.cell? ⟨p, 3, none⟩ = some (.bool d.down) ∧ w.cell? ⟨p, 4, none⟩ = some (.int .i64 d.life) := by
  have hr := h.row
  refine ⟨?_, ?_, ?_, ?_, ?_⟩ <;> simp [World.cell?, hr]
theorem AtX.frozen (h : AtX w p g bm base cap tc n D d) (j : Nat) : w.frozen? ⟨p, j, none⟩ = false := frozen_of_row w p j _ 53 h.row
theorem AtX.size (h : AtX w p g bm base cap tc n D d) : Maps.size D = (dl d.S).length := h.drt.size h.map Tryd.underlying3
end
theorem At.below {w w' : World} {p g bm base : Nat} {d : Dk} (h : At w p g bm base d) (hb : Below w.heap.size w w') : At w' p g bm base d := by
  obtain ⟨cap, tc, n, D, h⟩ := h
  exact (h.below hb).at
theorem At.chg {w w' : World} {p g bm base : Nat} {d : Dk} (h : At w p g bm base d) {X : List Nat} (hc : Chg X w w') (hx : p ∉ X ∧ g ∉ X ∧ bm ∉ X) : At w' p g bm base d := by
  obtain ⟨cap, tc, n, D, h⟩ := h
  exact (h.chg hc hx).at
theorem At.lt {w : World} {p g bm base : Nat} {d : Dk} (h : At w p g bm base d) : p < w.heap.size ∧ g < w.heap.size ∧ bm < w.heap.size := by
  obtain ⟨cap, tc, n, D, h⟩ := h
  exact h.lt

def OwnI (w : World) (base : Nat) (v : Value) (l : List Int) : Prop := w.ownsRow base 3 1 v l.length (l.map (Value.int .i64))
def dlI (S : List Sec) : List Int := (dl S).map (fun i : Nat => (i : Int))

section
variable {w : World} {p g bm base : Nat} {d : Dk}
theorem sectors_any (h : At w p g bm base d) : Calls Tryd.prog 19 #[.pointer (some ⟨p, 0, none⟩)] w fun e w' => e = .returned (.int .i64 d.S.length) ∧ w = w' := by
  obtain ⟨cap, tc, n, D, h⟩ := h
  obtain ⟨c0, _⟩ := h.cells
  clear h
  go_enter Tryd.func19, Tryd.ntmps19
  go_wp2
  go_ret
  exact ⟨rfl, rfl⟩
theorem life_any (h : At w p g bm base d) : Calls Tryd.prog 20 #[.pointer (some ⟨p, 0, none⟩)] w fun e w' => e = .returned (.int .i64 d.life) ∧ w = w' := by
  obtain ⟨cap, tc, n, D, h⟩ := h
  obtain ⟨_, _, _, _, c4⟩ := h.cells
  clear h
  go_enter Tryd.func20, Tryd.ntmps20
  go_wp2
  go_ret
  exact ⟨rfl, rfl⟩
theorem down_any (h : At w p g bm base d) : Calls Tryd.prog 18 #[.pointer (some ⟨p, 0, none⟩)] w fun e w' => e = .returned (.bool d.down) ∧ w = w' := by
  obtain ⟨cap, tc, n, D, h⟩ := h
  obtain ⟨_, _, _, c3, _⟩ := h.cells
  clear h
  go_enter Tryd.func18, Tryd.ntmps18
  go_wp2
  go_ret
  exact ⟨rfl, rfl⟩
theorem ready_any (h : At w p g bm base d) : Calls Tryd.prog 28 #[.pointer (some ⟨p, 0, none⟩)] w fun e w' => e = .returned (.int .i64 (if d.down then 7 else 0)) ∧ w = w' := by
  obtain ⟨cap, tc, n, D, h⟩ := h
  obtain ⟨_, _, _, c3, _⟩ := h.cells
  clear h
  go_enter Tryd.func28, Tryd.ntmps28
  cases hd : d.down <;> rw [hd] at c3
  · go_wp2
    go_ret
    exact ⟨rfl, rfl⟩
  · go_wp2
    go_ret
    exact ⟨rfl, rfl⟩
theorem has_any (h : At w p g bm base d) (i : Int) : Calls Tryd.prog 31 #[.pointer (some ⟨p, 0, none⟩), .int .i64 i] w fun e w' => e = .returned (.bool (decide (0 ≤ i ∧ i < (d.S.length : Int)))) ∧ w = w' := by
  obtain ⟨cap, tc, n, D, h⟩ := h
  obtain ⟨c0, _⟩ := h.cells
  clear h
  go_enter Tryd.func31, Tryd.ntmps31
  by_cases h1 : 0 ≤ i
  · go_wp2
    go_ret
    exact ⟨by simp [h1], rfl⟩
  · go_wp2
    go_ret
    exact ⟨by simp; omega, rfl⟩
def fitE (d : Dk) (i : Int) (n : Nat) : Int := if 0 ≤ i ∧ i < (d.S.length : Int) then (if 128 < n then 6 else 0) else 2
theorem fits_any (h : At w p g bm base d) (i : Int) (ao : Option Addr) (n cap : Nat) : Calls Tryd.prog 32 #[.pointer (some ⟨p, 0, none⟩), .int .i64 i, .slice ao n cap] w fun e w' => e = .returned (.int .i64 (fitE d i n)) ∧ w = w' := by
  have t := has_any h i
  clear h
  unfold fitE
  go_enter Tryd.func32, Tryd.ntmps32
  by_cases h1 : 0 ≤ i ∧ i < (d.S.length : Int)
  · rw [decide_eq_true h1] at t
    rw [if_pos h1]
    by_cases h2 : 128 < n
    · have h2z : (128 : Int) < (n : Int) := by omega
      rw [if_pos h2]
      go_wp2_with (go_at_call 31; refine t.mono ?_; rintro e w' ⟨rfl, rfl⟩)
      go_ret
      exact ⟨rfl, rfl⟩
    · have h2z : ¬ (128 : Int) < (n : Int) := by omega
      rw [if_neg h2]
      go_wp2_with (go_at_call 31; refine t.mono ?_; rintro e w' ⟨rfl, rfl⟩)
      go_ret
      exact ⟨rfl, rfl⟩
  · rw [decide_eq_false h1] at t
    rw [if_neg h1]
    go_wp2_with (go_at_call 31; refine t.mono ?_; rintro e w' ⟨rfl, rfl⟩)
    go_ret
    exact ⟨rfl, rfl⟩
theorem dirty_any (h : At w p g bm base d) : Calls Tryd.prog 29 #[.pointer (some ⟨p, 0, none⟩)] w fun e w' => ∃ v, e = .returned v ∧ OwnI w' w.heap.size v (dlI d.S) ∧ Below w.heap.size w w' := by
  obtain ⟨cap, tc, n, D, h⟩ := h
  obtain ⟨_, c1, _⟩ := h.cells
  have t := sorted_any bm n D w h.map (by rw [h.size]; exact Nat.le_trans (dl_le _) h.len)
  have HS : Hid (∀ ss : List Int, ss.Perm (intKeys D) → ss.mergeSort (fun x y => decide (x ≤ y)) = dlI d.S) := ⟨fun ss hp => h.drt.sorted h.map Tryd.underlying3 hp⟩
  clear h
  go_enter Tryd.func29, Tryd.ntmps29
  go_wp2_with (first
    | (go_at_call 44; refine (keys_any (some bm) w).mono ?_; rintro e w' ⟨rfl, rfl⟩)
    | (go_at_call 43; refine t.mono ?_; rintro e w' ⟨v, ss, rfl, hp, hrow, hb⟩))
  go_ret
  refine ⟨v, rfl, ?_, hb⟩
  rw [HS.out ss hp] at hrow
  have hl : ss.length = (dlI d.S).length := by rw [← HS.out ss hp]; simp
  unfold OwnI
  rw [← hl]
  exact hrow
end
end Go.Proofs.YtgjjjkokmgdmjaaDoor.Dk

/- A page as a variable; package disk's filled. -/
namespace Go.Proofs.YtgjjjkokmgdmjaaDoor.Dk
open Go.RowKit Go.Maps Go.Sort Go.Shelf

def pa (l : List Int) : Array Value := (pc l).toArray
theorem pa_size (l : List Int) : (pa l).size = l.length := by simp [pa, pc]
theorem pa_one (l : List Int) : (pa l).all (·.oneCell') = true := by
  unfold pa
  rw [List.all_toArray, List.all_eq_true]
  exact pc_one l
theorem zp_arr : pa zp = Array.replicate 128 (.int .u8 0) := by
  unfold pa pc zp
  rw [List.map_replicate]
  apply Array.ext'
  simp
theorem info68 : (Tryd.prog.info? 73).map (·.size) = some 128 := by kernel_rfl
theorem info5 : (Tryd.prog.info? 5).map (·.size) = some 1 := by kernel_rfl
theorem zc68 : Tryd.zeroCells73 = pa zp := by rw [zp_arr]; kernel_rfl
theorem run_alloc68 (w : World) : (Instr.alloc 73 true (.tuple #[])).run Tryd.prog w = .ok (.pointer (some ⟨w.heap.size, 0, none⟩)) (w.alloc (.cells (pa zp) 73)) := by
  simp [Instr.alloc, newVar, newRow, Value.cells, zc68]
theorem run_box68 (w : World) (l : List Int) : (Instr.box 73 (pv l)).run Tryd.prog w = .ok (.pointer (some ⟨w.heap.size, 0, none⟩)) (w.alloc (.cells (pa l) 73)) := by
  simp [Instr.box, newVar, newRow, Value.cells, pv, pa]

section
variable {ops : Array Oper} {rest : List Oper} {o : Oper} {a : Act} {w : World} {Q : Exit → Act → World → Prop}
theorem wpl_alloc68 (hg : o.guard = none) (ho : o.op = .alloc 73) (h : wpList Tryd.prog ops Q rest (a.put o.dst (.pointer (some ⟨w.heap.size, 0, none⟩))) (w.alloc (.cells (pa zp) 73))) : wpList Tryd.prog ops Q (o :: rest) a w :=
  wpList_plain hg fun _ hK => by
    unfold Oper.wp execOp
    simp only [ho, run_alloc68, Sem.run_bind, Result.andThen_ok]
    exact hK _ _ h
theorem wpl_box68 (hg : o.guard = none) (x : Operand) (l : List Int) (ho : o.op = .box 73 x) (hx : a.eval x = pv l) (h : wpList Tryd.prog ops Q rest (a.put o.dst (.pointer (some ⟨w.heap.size, 0, none⟩))) (w.alloc (.cells (pa l) 73))) : wpList Tryd.prog ops Q (o :: rest) a w :=
  wpList_plain hg fun _ hK => by
    unfold Oper.wp execOp
    simp only [ho, hx, run_box68, Sem.run_bind, Result.andThen_ok]
    exact hK _ _ h
end

theorem below_setRow' {B : Nat} {w0 w : World} (h : Below B w0 w) {g : Nat} (hg : B ≤ g) (cs : Array Value) : Below B w0 (w.setRow g cs) :=
  h.trans ⟨rfl, rfl, rfl, by simp, fun k hk => setRow_other w g k cs (by omega)⟩

/-- The variable at block g holds the page l. -/
def Var (w : World) (g : Nat) (l : List Int) : Prop := w.heap[g]? = some (.cells (pa l) 73 (0, 0))
theorem Var.new (w : World) (l : List Int) : Var (w.alloc (.cells (pa l) 73)) w.heap.size l := heap_alloc_new w _
theorem Var.lt {w : World} {g : Nat} {l : List Int} (h : Var w g l) : g < w.heap.size := (Array.getElem?_eq_some_iff.1 h).1
theorem Var.alloc {w : World} {g : Nat} {l : List Int} (h : Var w g l) (o : Obj) : Var (w.alloc o) g l := (heap_alloc_old w o g h.lt).trans h
theorem Var.below {w w' : World} {g : Nat} {l : List Int} (h : Var w g l) (hb : Below w.heap.size w w') : Var w' g l := (hb.block g h.lt).trans h

/-- A slice of bytes that reads b. -/
def Bs (w : World) (v : Value) (bs : List Int) : Prop :=
  ∃ a cap, v = .slice a bs.length cap ∧ bs.length ≤ cap ∧ cap ≤ maxLen ∧ (a = none → cap = 0) ∧ (∀ x, a = some x → ∀ i, i < bs.length → w.cell? (x.add i) = some (.int .u8 (bs.getD i 0))) ∧ Byt bs
theorem Bs.below {w w' : World} {v : Value} {bs : List Int} (h : Bs w v bs) (hb : Below w.heap.size w w') : Bs w' v bs := by
  obtain ⟨a, cap, rfl, hl, hm, hn, hc, hy⟩ := h
  exact ⟨a, cap, rfl, hl, hm, hn, fun x hx i hi => (hb.cell (World.block_lt_of_cell? _ _ (hc x hx i hi))).trans (hc x hx i hi), hy⟩

theorem copy_fil (b : List Int) : ((pa zp).toList.take 0 ++ pc b ++ (pa zp).toList.drop (0 + (pc b).length)).toArray = pa (fil b) := by
  have e : (pa zp).toList = List.replicate 128 (.int .u8 0) := by unfold pa pc zp; rw [List.map_replicate]
  rw [e, List.drop_replicate, List.take_zero, List.nil_append, Nat.zero_add, pc_length]
  unfold pa fil
  congr 1
  unfold pc
  rw [List.map_append, List.map_replicate]

set_option maxHeartbeats 1000000 in
set_option maxRecDepth 100000 in
theorem filled_any (v : Value) (b : List Int) (w : World) (h : Bs w v b) (hb : b.length ≤ 128) : Calls Tryd.prog 33 #[v] w fun e w' => e = .returned (pv (fil b)) ∧ Below w.heap.size w w' := by
  have h' := h.below (w' := (w.alloc (.cells (pa zp) 73)).alloc (.cells (pa zp) 73)) (((Below.refl _ w).alloc (Nat.le_refl _) _).alloc (by simp) _)
  obtain ⟨a, cap, rfl, hl, hm, hn, hc, hy⟩ := h'
  have HL : Hid (b.length ≤ 128) := ⟨hb⟩
  have hv1 : ((w.alloc (.cells (pa zp) 73)).alloc (.cells (pa zp) 73)).heap[w.heap.size + 1]? = some (.cells (pa zp) 73 (0, 0)) := by
    have := heap_alloc_new (w.alloc (.cells (pa zp) 73)) (.cells (pa zp) 73)
    rw [show (w.alloc (.cells (pa zp) 73)).heap.size = w.heap.size + 1 by simp] at this
    exact this
  have hcopy : (Builtin.copy_ #[23, 23] 3 #[.slice (some ⟨w.heap.size + 1, 0, none⟩) 128 128, .slice a b.length cap]).run Tryd.prog ((w.alloc (.cells (pa zp) 73)).alloc (.cells (pa zp) 73)) = .ok (goInt b.length) (((w.alloc (.cells (pa zp) 73)).alloc (.cells (pa zp) 73)).setRow (w.heap.size + 1) (pa (fil b))) := by
    cases a with
    | none =>
      have := hn rfl
      subst this
      have hb0 : b = [] := List.length_eq_zero_iff.1 (by omega)
      subst hb0
      have e : pa (fil []) = pa zp := rfl
      rw [e, setRow_self _ _ _ 73 (0, 0) hv1]
      exact run_copy_nil Tryd.prog _ 23 23 3 5 _ 128 128 Tryd.underlying23 (by rw [info5]; rfl)
    | some x =>
      have := run_copy_row (P := Tryd.prog) ((w.alloc (.cells (pa zp) 73)).alloc (.cells (pa zp) 73)) 23 23 3 5 (w.heap.size + 1) 0 128 128 x b.length cap (pa zp) 73 (pc b) Tryd.underlying23 info5 hv1 (by rw [pc_length]; exact (Nat.min_eq_left hb).symm) (fun j u hj => by
        have hjl : j < b.length := by
          rcases Nat.lt_or_ge j b.length with q | q
          · exact q
          · rw [List.getElem?_eq_none (by rw [pc_length]; exact q)] at hj; cases hj
        rw [hc x rfl j hjl]
        simp [pc, List.getElem?_eq_getElem hjl] at hj
        subst hj
        simp [List.getD, List.getElem?_eq_getElem hjl]) (by rw [pa_size, pc_length]; simp [zp]; omega) (pc_one b)
      rw [copy_fil b, pc_length] at this
      exact this
  obtain ⟨w1, HW1⟩ : ∃ w1, Hid ((w.alloc (.cells Tryd.zeroCells73 73)).alloc (.cells Tryd.zeroCells73 73) = w1) := ⟨_, ⟨rfl⟩⟩
  rw [← zc68, HW1.out] at hcopy hv1
  have hx1 : (w1.setRow (w.heap.size + 1) (pa (fil b))).heap[w.heap.size + 1]? = some (.cells (pa (fil b)) 73 (0, 0)) := setRow_heap w1 _ _ _ 73 (0, 0) hv1
  have hx0 : (w1.setRow (w.heap.size + 1) (pa (fil b))).heap[w.heap.size]? = some (.cells Tryd.zeroCells73 73 (0, 0)) := by
    rw [setRow_other _ _ _ _ (by omega), ← HW1.out, heap_alloc_old _ _ _ (by simp)]
    exact heap_alloc_new w _
  have hfl : (fil b).length = 128 := by unfold fil; simp; omega
  have hpl : (Tryd.prog.info? 73).map (·.size) = some (pa (fil b)).size := by rw [pa_size, hfl]; exact info68
  have hbel : Below w.heap.size w w1 := by rw [← HW1.out]; exact ((Below.refl _ w).alloc (Nat.le_refl _) _).alloc (by simp) _
  clear hc hn hl h
  go_enter Tryd.func33, Tryd.ntmps33
  go_wp2
  rw [HW1.out, hcopy]
  simp only [Result.andThen]
  rw [Oper.upon_value]
  generalize hw2 : w1.setRow (w.heap.size + 1) (pa (fil b)) = w2 at hx1 hx0
  have HW2 : Hid (w1.setRow (w.heap.size + 1) (pa (fil b)) = w2) := ⟨hw2⟩
  clear hw2 hcopy
  go_wp2_with (first
    | (refine wpList_load_row rfl 73 (.tmp 3) rfl (w.heap.size + 1) rfl 73 (pa (fil b)) (0, 0) _ hx1 Tryd.underlying73 rfl hpl ?_)
    | (refine wpList_store_row rfl 73 (.tmp 2) (.tmp 7) rfl w.heap.size (pa (fil b)) rfl rfl 73 Tryd.zeroCells73 hx0 hpl (by rw [zc68, pa_size, pa_size, hfl]; rfl) (pa_one _) ?_))
  have hx2 := setRow_heap w2 w.heap.size _ (pa (fil b)) 73 (0, 0) hx0
  refine bodyPost_ret (v := .agg (pa (fil b))) (results_cell_row (p := 2) Tryd.results33 _ _ w.heap.size 73 _ (0, 0) (.array 128 5) (by kernel_rfl) hx2 Tryd.underlying73 rfl hpl) rfl ⟨rfl, ?_⟩
  rw [← HW2.out]
  exact below_setRow' (below_setRow' hbel (by omega) _) (Nat.le_refl _) _
end Go.Proofs.YtgjjjkokmgdmjaaDoor.Dk

/- What a store leaves of a disk; package disk's Write$1. -/
namespace Go.Proofs.YtgjjjkokmgdmjaaDoor.Dk
open Go.RowKit Go.Maps Go.Sort Go.Shelf

theorem wf_i {i : Nat} (h : i < 5000) : (Lit.int .i64 (i : Int)).wf = true := by
  have e1 : IntKind.max .i64 = 9223372036854775807 := by decide
  have e2 : IntKind.min .i64 = -9223372036854775808 := by decide
  simp only [Lit.wf, e1, e2, Bool.and_eq_true, decide_eq_true_eq]
  omega
section
variable {w w' : World} {p g bm base cap : Nat} {tc : Int} {n : Nat} {D : DataW Value} {d : Dk}
theorem AtX.turn (h : AtX w p g bm base cap tc n D d) (ht : w.mapTurned w' bm) {n' : Nat} {D' : DataW Value} (hm : w'.ownsMap Tryd.prog 3 self bm n' D') {S' : List Sec} (hd : Dirt D' S') (hl : S'.map (·.1) = d.S.map (·.1)) (hok : ∀ s ∈ S', OkS s) :
    AtX w' p g bm base cap tc n' D' { d with S := S' } := by
  have hc := Chg.ofMap ht
  have hlen : S'.length = d.S.length := by have := congrArg List.length hl; simpa using this
  obtain ⟨n1, n2, n3⟩ := h.ne
  obtain ⟨l1, l2, l3⟩ := h.lt
  refine ⟨?_, ?_, hm, hd, hok, ?_, h.trip, h.rng, h.bp⟩
  · show w'.heap[p]? = _
    rw [hc.block p l1 (by simp [n2]), hlen]; exact h.row
  · show Rows w' g cap 73 (S'.map (·.1))
    rw [hl]; exact h.rows.kept (hc.block g l2 (by simp [n3]))
  · show S'.length ≤ 4096
    rw [hlen]; exact h.len
theorem AtX.put (h : AtX w p g bm base cap tc n D d) {i : Nat} (hi : i < d.S.length) {l : List Int} (hl : Pg l) :
    ∃ w', (Instr.mapUpdate 51 (.map (some bm)) (.int .i64 (i : Int)) (pv l)).run Tryd.prog w = .ok () w' ∧ Chg [bm] w w' ∧ ∃ n' D', AtX w' p g bm base cap tc n' D' { d with S := d.S.set i ((sec d.S i).1, some l) } := by
  have hlen := h.len
  have hsz := h.size
  have hdl := dl_le d.S
  obtain ⟨w', h1, h2, h3⟩ := (own_size h.map).store (int_keyed Tryd.underlying3) Tryd.underlying51 (by unfold maxLen; omega) (key := .int .i64 (i : Int)) (kl := key i) (d := .held (pv l)) (ps := []) (keyOf_int_mk Tryd.underlying3 (wf_i (by omega))) rfl
  refine ⟨w', h1, Chg.ofMap h3, _, _, h.turn h3 h2 (h.drt.put hi _ l) ?_ (ok_set h.ok ⟨(ok_sec h.ok i).1, fun m hm => by simp at hm; subst hm; exact hl⟩)⟩
  apply List.ext_getElem?
  intro j
  rw [List.getElem?_map, List.getElem?_map, List.getElem?_set]
  by_cases e : i = j
  · subst e; simp [hi, sec, List.getD]
  · simp [e]
theorem AtX.delete (h : AtX w p g bm base cap tc n D d) {i : Nat} (hi : i < d.S.length) (ty : TypeId) :
    ∃ w', (Builtin.delete_ #[51, 3] ty #[.map (some bm), .int .i64 (i : Int)]).run Tryd.prog w = .ok (.tuple #[]) w' ∧ Chg [bm] w w' ∧ ∃ n' D', AtX w' p g bm base cap tc n' D' { d with S := d.S.set i ((sec d.S i).1, none) } := by
  have hlen := h.len
  obtain ⟨w', h1, h2, h3⟩ := h.map.drop (int_keyed Tryd.underlying3) Tryd.underlying51 (key := .int .i64 (i : Int)) (kl := key i) (keyOf_int_mk Tryd.underlying3 (wf_i (by omega))) ty
  refine ⟨w', h1, Chg.ofMap h3, _, _, h.turn h3 h2 (h.drt.del hi _) ?_ (ok_set h.ok ⟨(ok_sec h.ok i).1, fun m hm => by simp at hm⟩)⟩
  apply List.ext_getElem?
  intro j
  rw [List.getElem?_map, List.getElem?_map, List.getElem?_set]
  by_cases e : i = j
  · subst e; simp [hi, sec, List.getD]
  · simp [e]
theorem AtX.look (h : AtX w p g bm base cap tc n D d) {i : Nat} (hi : i < d.S.length) :
    (Instr.lookup 51 (.map (some bm)) (.int .i64 (i : Int)) true).run Tryd.prog w = .ok (.tuple #[pv ((sec d.S i).2.getD zp), .bool (dirt d.S i)]) w ∧ (Instr.lookup 51 (.map (some bm)) (.int .i64 (i : Int)) false).run Tryd.prog w = .ok (pv ((sec d.S i).2.getD zp)) w := by
  have hlen := h.len
  have hz : (zeroValue 73).run Tryd.prog w = .ok (pv zp) w := by
    show _ = Result.ok (Value.agg (pa zp)) w
    rw [← zc68]; exact Tryd.zeroValue73 w
  have hk : keyOf Tryd.prog 3 (.int .i64 (i : Int)) = some (key i) := keyOf_int_mk Tryd.underlying3 (wf_i (by omega))
  obtain ⟨v, ps, h1, h2⟩ := h.map.look_ok (int_keyed Tryd.underlying3) Tryd.underlying51 hz (zd := .held (pv zp)) (zp := []) rfl hk
  obtain ⟨v', ps', h1', h2'⟩ := h.map.lookup (int_keyed Tryd.underlying3) Tryd.underlying51 hz (zd := .held (pv zp)) (zp := []) rfl hk
  have e : D.atKey (key i) (.held (pv zp)) = .held (pv ((sec d.S i).2.getD zp)) := by
    cases hs : (sec d.S i).2 with
    | none => rw [h.drt.none hi (by unfold dirt; rw [hs]; rfl)]; rfl
    | some l => exact h.drt.val i l hi hs _
  rw [e] at h2 h2'
  simp only [self, Option.some.injEq, Prod.mk.injEq, DataW.held.injEq] at h2 h2'
  rw [h2.1, h.drt.hasN hi] at h1
  rw [h2'.1] at h1'
  exact ⟨h1, h1'⟩
theorem map_set_fst {S : List Sec} {i : Nat} {x : Sec} : (S.set i x).map (·.1) = (S.map (·.1)).set i x.1 := by rw [List.map_set]
theorem AtX.page (h : AtX w p g bm base cap tc n D d) {i : Nat} (hi : i < d.S.length) {l : List Int} (hl : Pg l) {cur : Array Value} (hg : w.heap[g]? = some (.cells cur 73 (0, 0))) :
    i * 128 + (pc l).length ≤ cur.size ∧ AtX (w.setRow g (cur.toList.take (i * 128) ++ pc l ++ cur.toList.drop (i * 128 + (pc l).length)).toArray) p g bm base cap tc n D { d with S := d.S.set i (l, (sec d.S i).2) } := by
  obtain ⟨a, b⟩ := h.rows.set (i := i) (by simpa using hi) hl.1 hg
  obtain ⟨n1, n2, n3⟩ := h.ne
  refine ⟨a, ?_, ?_, ?_, ?_, ok_set h.ok ⟨hl, (ok_sec h.ok i).2⟩, by simpa using h.len, h.trip, h.rng, h.bp⟩
  · rw [setRow_other _ _ _ _ n1]
    simpa using h.row
  · show Rows _ g cap 73 ((d.S.set i (l, (sec d.S i).2)).map (·.1))
    rw [map_set_fst]; exact b
  · obtain ⟨es, clock, hb, r⟩ := h.map
    exact ⟨es, clock, (setRow_other _ _ _ _ (Ne.symm n3)).trans hb, r⟩
  · refine h.drt.same (by simp) fun j hj => ?_
    show _ = (sec (d.S.set i (l, (sec d.S i).2)) j).2
    rw [sec_set hi]
    split
    · rename_i e; subst e; rfl
    · rfl
theorem AtX.cur (h : AtX w p g bm base cap tc n D d) : ∃ cur, w.heap[g]? = some (.cells cur 73 (0, 0)) := by
  obtain ⟨_, cur, _, hg, _⟩ := h.rows
  exact ⟨cur, hg⟩
/-- A field is stored. -/
theorem AtX.other (h : AtX w p g bm base cap tc n D d) (j : Nat) (v : Value) : Rows (w.setCell ⟨p, j, none⟩ v) g cap 73 (d.S.map (·.1)) ∧ (w.setCell ⟨p, j, none⟩ v).ownsMap Tryd.prog 3 self bm n D := by
  obtain ⟨n1, n2, n3⟩ := h.ne
  refine ⟨h.rows.kept (heap_setCell_other w ⟨p, j, none⟩ g v (Ne.symm n1)), ?_⟩
  obtain ⟨es, clock, hb, r⟩ := h.map
  exact ⟨es, clock, (heap_setCell_other w ⟨p, j, none⟩ bm v (Ne.symm n2)).trans hb, r⟩
theorem AtX.setTrip (h : AtX w p g bm base cap tc n D d) (t tr : Int) (ht : d.down = false → t = tr) (hr : 0 ≤ t ∧ t ≤ 9223372036854775807) : AtX (w.setCell ⟨p, 2, none⟩ (.int .i64 t)) p g bm base cap t n D { d with trip := tr } :=
  ⟨heap_setCell_same w p 2 _ 53 _ h.row, (h.other 2 _).1, (h.other 2 _).2, h.drt, h.ok, h.len, ht, hr, h.bp⟩
theorem AtX.setDown (h : AtX w p g bm base cap tc n D d) (b : Bool) (tr : Int) (ht : b = false → tc = tr) : AtX (w.setCell ⟨p, 3, none⟩ (.bool b)) p g bm base cap tc n D { d with down := b, trip := tr } :=
  ⟨heap_setCell_same w p 3 _ 53 _ h.row, (h.other 3 _).1, (h.other 3 _).2, h.drt, h.ok, h.len, ht, h.rng, h.bp⟩
theorem AtX.setLife (h : AtX w p g bm base cap tc n D d) (l : Int) : AtX (w.setCell ⟨p, 4, none⟩ (.int .i64 l)) p g bm base cap tc n D { d with life := l } :=
  ⟨heap_setCell_same w p 4 _ 53 _ h.row, (h.other 4 _).1, (h.other 4 _).2, h.drt, h.ok, h.len, h.trip, h.rng, h.bp⟩
end

def setWr (d : Dk) (i : Nat) (l : List Int) : Dk := { d with S := d.S.set i ((sec d.S i).1, some l) }

set_option maxHeartbeats 1000000 in
set_option maxRecDepth 100000 in
theorem write1_any {w : World} {p g bm base : Nat} {d : Dk} (h : At w p g bm base d) (b0 b1 b2 i : Nat) (v : Value) (b : List Int) (hi : i < d.S.length) (hv : Bs w v b) (hb : b.length ≤ 128)
    (k0 : w.cell? ⟨b0, 0, none⟩ = some v) (k1 : w.cell? ⟨b1, 0, none⟩ = some (.pointer (some ⟨p, 0, none⟩))) (k2 : w.cell? ⟨b2, 0, none⟩ = some (.int .i64 (i : Int))) :
    Calls Tryd.prog 38 #[.pointer (some ⟨b0, 0, none⟩), .pointer (some ⟨b1, 0, none⟩), .pointer (some ⟨b2, 0, none⟩)] w fun e w' => e = .returned (.tuple #[]) ∧ At w' p g bm base (setWr d i (fil b)) ∧ Chg [bm] w w' := by
  obtain ⟨cap, tc, n, D, h⟩ := h
  obtain ⟨_, c1, _⟩ := h.cells
  have HX : Hid (AtX w p g bm base cap tc n D d) := ⟨h⟩
  have hf := filled_any v b w.drew hv hb
  obtain ⟨a0, cp0, rfl, _, _, _, _, hby⟩ := hv
  have HP : Hid (Pg (fil b)) := ⟨pg_fil hby hb⟩
  have hS0 : w.drew.cell? ⟨b0, 0, none⟩ = some (.slice a0 b.length cp0) ∧ w.drew.cell? ⟨b1, 0, none⟩ = some (.pointer (some ⟨p, 0, none⟩)) ∧ w.drew.cell? ⟨b2, 0, none⟩ = some (.int .i64 (i : Int)) ∧ w.drew.cell? ⟨p, 1, none⟩ = some (.map (some bm)) := ⟨k0, k1, k2, c1⟩
  have hlt0 : ∀ a u, w.drew.cell? a = some u → a.block < w.drew.heap.size := fun a u hu => World.block_lt_of_cell? _ _ hu
  clear h hby
  generalize b.length = bl at hf hS0 k0
  go_enter Tryd.func38, Tryd.ntmps38
  go_wp2
  refine wp_region_held_drew (S := fun w' => w'.cell? ⟨b0, 0, none⟩ = some (.slice a0 bl cp0) ∧ w'.cell? ⟨b1, 0, none⟩ = some (.pointer (some ⟨p, 0, none⟩)) ∧ w'.cell? ⟨b2, 0, none⟩ = some (.int .i64 (i : Int)) ∧ w'.cell? ⟨p, 1, none⟩ = some (.map (some bm))) (by kernel_rfl) hS0 (fun hS => ?_)
  refine wpAnyH_take (i := 0) (v := .pointer (some ⟨p, 0, none⟩)) rfl (by kernel_rfl) (by kernel_rfl) (by kernel_rfl) (fun _ _ _ h => h) (Or.inl ⟨by kernel_rfl, fun wx hx => by obtain ⟨hx0, hx1, hx2, hx3⟩ := hx; go_simp⟩) hS ?_
  refine wpAnyH_take (i := 1) (v := .pointer (some ⟨p, 0, none⟩)) rfl (by kernel_rfl) (by kernel_rfl) (by kernel_rfl) (fun _ _ _ h => h) (Or.inl ⟨by kernel_rfl, fun wx _ => by go_simp⟩) hS ?_
  refine wpAnyH_take (i := 2) (v := .pointer (some ⟨p, 1, none⟩)) rfl (by kernel_rfl) (by kernel_rfl) (by kernel_rfl) (fun _ _ _ h => h) (Or.inl ⟨by kernel_rfl, fun wx _ => by go_simp⟩) hS ?_
  refine wpAnyH_take (i := 3) (v := .map (some bm)) rfl (by kernel_rfl) (by kernel_rfl) (by kernel_rfl) (fun _ _ _ h => h) (Or.inl ⟨by kernel_rfl, fun wx hx => by obtain ⟨hx0, hx1, hx2, hx3⟩ := hx; go_simp⟩) hS ?_
  refine wpAnyH_take (i := 4) (v := .int .i64 (i : Int)) rfl (by kernel_rfl) (by kernel_rfl) (by kernel_rfl) (fun _ _ _ h => h) (Or.inl ⟨by kernel_rfl, fun wx hx => by obtain ⟨hx0, hx1, hx2, hx3⟩ := hx; go_simp⟩) hS ?_
  refine wpAnyH_take (i := 5) (v := .slice a0 bl cp0) rfl (by kernel_rfl) (by kernel_rfl) (by kernel_rfl) (fun _ _ _ h => h) (Or.inl ⟨by kernel_rfl, fun wx hx => by obtain ⟨hx0, hx1, hx2, hx3⟩ := hx; go_simp⟩) hS ?_
  refine wpAnyH_ready (rs := [6]) (by kernel_rfl) (by simp) (AllReadyH.cons rfl (fun Kc hK => ?_) AllReadyH.nil)
  go_simp
  refine hf.mono ?_
  rintro e w1 ⟨rfl, hb1⟩
  have hX1 : AtX w1 p g bm base cap tc n D d := (HX.out.kept (w' := w.drew) rfl rfl rfl).below hb1
  have hS1 : w1.cell? ⟨b0, 0, none⟩ = some (.slice a0 bl cp0) ∧ w1.cell? ⟨b1, 0, none⟩ = some (.pointer (some ⟨p, 0, none⟩)) ∧ w1.cell? ⟨b2, 0, none⟩ = some (.int .i64 (i : Int)) ∧ w1.cell? ⟨p, 1, none⟩ = some (.map (some bm)) :=
    ⟨(hb1.cell (hlt0 _ _ hS0.1)).trans hS0.1, (hb1.cell (hlt0 _ _ hS0.2.1)).trans hS0.2.1, (hb1.cell (hlt0 _ _ hS0.2.2.1)).trans hS0.2.2.1, (hb1.cell (hlt0 _ _ hS0.2.2.2)).trans hS0.2.2.2⟩
  refine hK.out _ _ hS1 (fun hS => ?_)
  clear hK hf
  obtain ⟨w2, hrun, hch, n', D', hX2⟩ := hX1.put hi HP.out
  have hlt1 : ∀ a u, w1.cell? a = some u → a.block < w1.heap.size := fun a u hu => World.block_lt_of_cell? _ _ hu
  have hS2 : w2.cell? ⟨b0, 0, none⟩ = some (.slice a0 bl cp0) ∧ w2.cell? ⟨b1, 0, none⟩ = some (.pointer (some ⟨p, 0, none⟩)) ∧ w2.cell? ⟨b2, 0, none⟩ = some (.int .i64 (i : Int)) ∧ w2.cell? ⟨p, 1, none⟩ = some (.map (some bm)) := by
    have hnm : ∀ a u, w1.cell? a = some u → a.block ∉ [bm] := fun a u hu hm => by
      obtain ⟨es, clock, hbm, _⟩ := hX1.map
      simp only [List.mem_singleton] at hm
      unfold World.cell? at hu
      rw [hm, hbm] at hu
      simp at hu
    exact ⟨(hch.cell (hlt1 _ _ hS1.1) (hnm _ _ hS1.1)).trans hS1.1, (hch.cell (hlt1 _ _ hS1.2.1) (hnm _ _ hS1.2.1)).trans hS1.2.1, (hch.cell (hlt1 _ _ hS1.2.2.1) (hnm _ _ hS1.2.2.1)).trans hS1.2.2.1, (hch.cell (hlt1 _ _ hS1.2.2.2) (hnm _ _ hS1.2.2.2)).trans hS1.2.2.2⟩
  have HR : Hid (At w2 p g bm base (setWr d i (fil b)) ∧ Chg [bm] w w2) := ⟨hX2.at, ((Chg.refl [bm] w).drew.trans (Chg.ofBelow hb1)).trans hch⟩
  clear hX2 hX1 hch hb1
  refine wpAnyH_ready (rs := [7]) (by kernel_rfl) (by simp) (AllReadyH.cons rfl (fun Kc hK => ?_) AllReadyH.nil)
  go_simp
  refine hK.out _ _ hS2 (fun hS => ?_)
  clear hK
  refine wpAnyH_done (by kernel_rfl) ?_ _
  go_wp2
  go_returns
  exact ⟨rfl, HR.out⟩
end Go.Proofs.YtgjjjkokmgdmjaaDoor.Dk

/- Package disk's unlessTripped, Trip, Write. -/
namespace Go.Proofs.YtgjjjkokmgdmjaaDoor.Dk
open Go.RowKit Go.Maps Go.Sort Go.Shelf

def dec (t : Int) : Int := if 1 < t then t - 1 else t

section
variable {w : World} {p g bm base : Nat} {d : Dk}
set_option maxHeartbeats 1000000 in
theorem unless_trip (h : At w p g bm base d) (hd : d.down = false) (ht : d.trip = 1) (fv : Value) :
    Calls Tryd.prog 37 #[.pointer (some ⟨p, 0, none⟩), fv] w fun e w' => e = .returned (.int .i64 7) ∧ At w' p g bm base { d with down := true } ∧ Chg [p] w w' := by
  obtain ⟨cap, tc, n, D, h⟩ := h
  obtain ⟨_, _, c2, _⟩ := h.cells
  have f3 := h.frozen 3
  obtain ⟨_, _, _, c3, _⟩ := h.cells
  have htc : tc = 1 := by rw [h.trip hd, ht]
  subst htc
  have HR : Hid (At (w.setCell ⟨p, 3, none⟩ (.bool true)) p g bm base { d with down := true } ∧ Chg [p] w (w.setCell ⟨p, 3, none⟩ (.bool true))) := ⟨(h.setDown true d.trip (fun e => by cases e)).at, (Chg.refl [p] w).setCell (.inl (by simp)) _⟩
  clear h
  go_enter Tryd.func37, Tryd.ntmps37
  go_wp2
  go_ret
  exact ⟨rfl, HR.out⟩

set_option maxHeartbeats 1000000 in
theorem unless_step (h : At w p g bm base d) (hd : d.down = false) (ht : d.trip ≠ 1) (f : FuncId) (cs lb : Array Value) (eg : ∀ args w, (callFunc f args).run Tryd.prog w = .ok (.enter f args) w) (R : World → Prop)
    (hs : ∀ W, At W p g bm base { d with trip := dec d.trip } → Chg [p] w W → Calls Tryd.prog f (cs ++ lb) W fun e w' => e = .returned (.tuple #[]) ∧ R w') :
    Calls Tryd.prog 37 #[.pointer (some ⟨p, 0, none⟩), .func (.func f) cs lb] w fun e w' => e = .returned (.int .i64 0) ∧ R w' := by
  obtain ⟨cap, tc, n, D, h⟩ := h
  obtain ⟨_, _, c2, _⟩ := h.cells
  have f2 := h.frozen 2
  have hr := h.rng
  have htc := h.trip hd
  subst htc
  have hne : ¬ d.trip = 1 := ht
  by_cases hgt : 1 < d.trip
  · have hw : wrap64 (d.trip - 1) = d.trip - 1 := IntWalk.wrap64_in _ ⟨by omega, by omega⟩
    have hdec : dec d.trip = d.trip - 1 := if_pos hgt
    rw [hdec] at hs
    have t := hs (w.setCell ⟨p, 2, none⟩ (.int .i64 (d.trip - 1))) (h.setTrip _ _ (fun _ => rfl) ⟨by omega, by omega⟩).at ((Chg.refl [p] w).setCell (.inl (by simp)) _)
    clear h hs
    generalize d.trip = tr at *
    go_enter Tryd.func37, Tryd.ntmps37
    go_wp2_with fail
    refine t.mono ?_
    rintro e w1 ⟨rfl, hR⟩
    go_wp2
    go_ret
    exact ⟨rfl, hR⟩
  · have hdec : dec d.trip = d.trip := if_neg hgt
    rw [hdec] at hs
    have t := hs w h.at (Chg.refl [p] w)
    clear h hs
    generalize d.trip = tr at *
    go_enter Tryd.func37, Tryd.ntmps37
    go_wp2_with fail
    refine t.mono ?_
    rintro e w1 ⟨rfl, hR⟩
    go_wp2
    go_ret
    exact ⟨rfl, hR⟩

/-- Trip. -/
def trpE (d : Dk) (n : Int) : Int := if d.down then 7 else if n < 0 then 2 else 0
def trpD (d : Dk) (n : Int) : Dk := if d.down then d else if n < 0 then d else { d with trip := n }
set_option maxHeartbeats 1000000 in
theorem trip_any (h : At w p g bm base d) (n : Int) (hn : n ≤ 9223372036854775807) :
    Calls Tryd.prog 9 #[.pointer (some ⟨p, 0, none⟩), .int .i64 n] w fun e w' => e = .returned (.int .i64 (trpE d n)) ∧ At w' p g bm base (trpD d n) ∧ Chg [p] w w' := by
  have t := ready_any h
  obtain ⟨cap, tc, m, D, h⟩ := h
  obtain ⟨_, _, c2, _⟩ := h.cells
  have f2 := h.frozen 2
  unfold trpE trpD
  cases hd : d.down with
  | true =>
    rw [hd] at t
    have HA : Hid (At w p g bm base d) := ⟨h.at⟩
    clear h
    go_enter Tryd.func9, Tryd.ntmps9
    go_wp2_with (go_at_call 28; refine t.mono ?_; rintro e w' ⟨rfl, rfl⟩)
    go_ret
    exact ⟨rfl, HA.out, Chg.refl _ _⟩
  | false =>
    rw [hd] at t
    by_cases hn0 : n < 0
    · have HA : Hid (At w p g bm base d) := ⟨h.at⟩
      clear h
      go_enter Tryd.func9, Tryd.ntmps9
      go_wp2_with (go_at_call 28; refine t.mono ?_; rintro e w' ⟨rfl, rfl⟩)
      go_ret
      exact ⟨rfl, HA.out, Chg.refl _ _⟩
    · have HR : Hid (At (w.setCell ⟨p, 2, none⟩ (.int .i64 n)) p g bm base { d with trip := n }) := ⟨(h.setTrip n n (fun _ => rfl) ⟨by omega, hn⟩).at⟩
      clear h
      go_enter Tryd.func9, Tryd.ntmps9
      go_wp2_with (go_at_call 28; refine t.mono ?_; rintro e w' ⟨rfl, rfl⟩)
      go_ret
      exact ⟨rfl, by rw [hd] at HR; exact HR.out, (Chg.refl [p] w).setCell (.inl (by simp)) _⟩
end
end Go.Proofs.YtgjjjkokmgdmjaaDoor.Dk

/- Package disk's Write. -/
namespace Go.Proofs.YtgjjjkokmgdmjaaDoor.Dk
open Go.RowKit Go.Maps Go.Sort Go.Shelf

def wrE (d : Dk) (i : Int) (n : Nat) : Int := if d.down then 7 else if fitE d i n ≠ 0 then fitE d i n else if d.trip = 1 then 7 else 0
def wrD (d : Dk) (i : Int) (b : List Int) : Dk := if d.down then d else if fitE d i b.length ≠ 0 then d else if d.trip = 1 then { d with down := true } else setWr { d with trip := dec d.trip } i.toNat (fil b)
theorem fitE_zero {d : Dk} {i : Int} {n : Nat} (h : fitE d i n = 0) : 0 ≤ i ∧ i < (d.S.length : Int) ∧ n ≤ 128 := by
  unfold fitE at h
  split at h
  · rename_i h1
    split at h
    · omega
    · omega
  · omega

theorem k_new (w : World) (v : Value) (t : TypeId) : (w.alloc (.cells #[v] t)).cell? ⟨w.heap.size, 0, none⟩ = some v := by
  rw [cell_of_row _ _ _ _ _ _ (heap_alloc_new w (.cells #[v] t))]; rfl
theorem k_old {w : World} {a : Addr} {v : Value} (h : w.cell? a = some v) (o : Obj) : (w.alloc o).cell? a = some v :=
  (((Below.refl _ w).alloc (Nat.le_refl _) o).cell (World.block_lt_of_cell? w a h)).trans h
theorem size_alloc (w : World) (o : Obj) : (w.alloc o).heap.size = w.heap.size + 1 := by simp
theorem box3 (w : World) (v0 v1 v2 : Value) (t0 t1 t2 : TypeId) : (((w.alloc (.cells #[v0] t0)).alloc (.cells #[v1] t1)).alloc (.cells #[v2] t2)).cell? ⟨w.heap.size, 0, none⟩ = some v0 ∧ (((w.alloc (.cells #[v0] t0)).alloc (.cells #[v1] t1)).alloc (.cells #[v2] t2)).cell? ⟨w.heap.size + 1, 0, none⟩ = some v1 ∧ (((w.alloc (.cells #[v0] t0)).alloc (.cells #[v1] t1)).alloc (.cells #[v2] t2)).cell? ⟨w.heap.size + 1 + 1, 0, none⟩ = some v2 := by
  refine ⟨k_old (k_old (k_new _ _ _) _) _, k_old ?_ _, ?_⟩
  · have := k_new (w.alloc (.cells #[v0] t0)) v1 t1
    rwa [size_alloc] at this
  · have := k_new ((w.alloc (.cells #[v0] t0)).alloc (.cells #[v1] t1)) v2 t2
    rwa [size_alloc, size_alloc] at this

theorem At.noByte {w : World} {p g bm base : Nat} {d : Dk} (h : At w p g bm base d) {a : Addr} {z : Int} (hc : w.cell? a = some (.int .u8 z)) : a.block ≠ p := by
  intro e
  obtain ⟨cap, tc, n, D, h⟩ := h
  obtain ⟨b, off, spot⟩ := a
  have hs : spot = none := World.cell?_spot hc
  simp only at e
  subst hs e
  rw [cell_of_row w b off _ 53 (0, 0) h.row] at hc
  match off with
  | 0 => simp at hc
  | 1 => simp at hc
  | 2 => simp at hc
  | 3 => simp at hc
  | 4 => simp at hc
  | k + 5 => simp at hc
theorem Bs.chg {w w' : World} {v : Value} {bs : List Int} {X : List Nat} (h : Bs w v bs) (hc : Chg X w w') (hx : ∀ a z, w.cell? a = some (.int .u8 z) → a.block ∉ X) : Bs w' v bs := by
  obtain ⟨a, cap, rfl, hl, hm, hn, hcell, hy⟩ := h
  exact ⟨a, cap, rfl, hl, hm, hn, fun x hxa i hi => (hc.cell (World.block_lt_of_cell? _ _ (hcell x hxa i hi)) (hx _ _ (hcell x hxa i hi))).trans (hcell x hxa i hi), hy⟩

section
variable {w : World} {p g bm base : Nat} {d : Dk}
set_option maxHeartbeats 2000000 in
theorem write_any (h : At w p g bm base d) (i : Int) (v : Value) (b : List Int) (hv : Bs w v b) :
    Calls Tryd.prog 23 #[.pointer (some ⟨p, 0, none⟩), .int .i64 i, v] w fun e w' => e = .returned (.int .i64 (wrE d i b.length)) ∧ At w' p g bm base (wrD d i b) ∧ Chg [p, bm] w w' := by
  have hpl := h.lt
  obtain ⟨ao, cp, rfl, hrest⟩ := hv
  have hv : Bs w (.slice ao b.length cp) b := ⟨ao, cp, rfl, hrest⟩
  have hbel : Below w.heap.size w (((w.alloc (.cells #[.pointer (some ⟨p, 0, none⟩)] 25)).alloc (.cells #[.int .i64 i] 3)).alloc (.cells #[.slice ao b.length cp] 23)) := (((Below.refl _ w).alloc (Nat.le_refl _) _).alloc (by simp) _).alloc (by simp; omega) _
  have h0 := h.below hbel
  have t1 := ready_any h0
  obtain ⟨k0, k1, k2⟩ := box3 w (.pointer (some ⟨p, 0, none⟩)) (.int .i64 i) (.slice ao b.length cp) 25 3 23
  have HF : Hid (∃ W0, W0 = (((w.alloc (.cells #[.pointer (some ⟨p, 0, none⟩)] 25)).alloc (.cells #[.int .i64 i] 3)).alloc (.cells #[.slice ao b.length cp] 23)) ∧ At W0 p g bm base d ∧ Below w.heap.size w W0 ∧ Bs W0 (.slice ao b.length cp) b ∧ W0.cell? ⟨w.heap.size, 0, none⟩ = some (.pointer (some ⟨p, 0, none⟩)) ∧ W0.cell? ⟨w.heap.size + 1, 0, none⟩ = some (.int .i64 i) ∧ W0.cell? ⟨w.heap.size + 1 + 1, 0, none⟩ = some (.slice ao b.length cp)) := ⟨_, rfl, h0, hbel, hv.below hbel, k0, k1, k2⟩
  clear h h0 hv k0 k1 k2 hbel hrest
  unfold wrE wrD
  cases hd : d.down with
  | true =>
    rw [hd] at t1
    go_enter Tryd.func23, Tryd.ntmps23
    go_wp2_with (go_at_call 28; refine t1.mono ?_; rintro e w' ⟨rfl, hw⟩; obtain ⟨W0, e0, hA, hB, -⟩ := HF.out; rw [← e0] at hw; subst hw; clear e0 HF t1)
    go_ret
    exact ⟨rfl, hA, Chg.ofBelow hB⟩
  | false =>
    rw [hd] at t1
    by_cases hf : fitE d i b.length = 0
    · obtain ⟨hi0, hi1, hbl⟩ := fitE_zero hf
      simp only [hf, ne_eq, not_true, if_false, Bool.false_eq_true]
      obtain ⟨j, rfl⟩ : ∃ j : Nat, i = j := ⟨i.toNat, by omega⟩
      have hj : j < d.S.length := by omega
      by_cases ht : d.trip = 1
      · simp only [ht, if_true]
        have HD : Hid (d.down = false ∧ d.trip = 1) := ⟨hd, ht⟩
        clear hd ht
        go_enter Tryd.func23, Tryd.ntmps23
        go_wp2_with (first
          | (go_at_call 28; refine t1.mono ?_; rintro e w' ⟨rfl, hw⟩; obtain ⟨W0, e0, hA, hB, hV, k0, k1, k2⟩ := HF.out; rw [← e0] at hw; subst hw; clear e0 HF t1; have t2 := fits_any hA (j : Int) ao b.length cp; rw [hf] at t2; have t3 := unless_trip hA HD.out.1 HD.out.2 (.func (.func 38) #[] #[.pointer (some ⟨w.heap.size + 1 + 1, 0, none⟩), .pointer (some ⟨w.heap.size, 0, none⟩), .pointer (some ⟨w.heap.size + 1, 0, none⟩)]); have HC : Hid (∀ w', Chg [p] W0 w' → Chg [p, bm] w w') := ⟨fun w' h => (Chg.ofBelow hB).trans (h.mono (fun x hx => .inl (by simp at hx; simp [hx])))⟩; clear hA hB hV)
          | (go_at_call 32; refine t2.mono ?_; rintro e w' ⟨rfl, rfl⟩; clear t2)
          | (go_at_call 37; refine t3.mono ?_; rintro e w' ⟨rfl, hA2, hc2⟩; clear t3))
        go_ret
        rw [HD.out.2] at hA2
        exact ⟨rfl, hA2, HC.out _ hc2⟩
      · simp only [ht, if_false]
        have HD : Hid (d.down = false ∧ d.trip ≠ 1) := ⟨hd, ht⟩
        clear hd ht
        have step : ∀ W0, At W0 p g bm base d → Below w.heap.size w W0 → Bs W0 (.slice ao b.length cp) b → W0.cell? ⟨w.heap.size, 0, none⟩ = some (.pointer (some ⟨p, 0, none⟩)) → W0.cell? ⟨w.heap.size + 1, 0, none⟩ = some (.int .i64 (j : Int)) → W0.cell? ⟨w.heap.size + 1 + 1, 0, none⟩ = some (.slice ao b.length cp) →
            Calls Tryd.prog 37 #[.pointer (some ⟨p, 0, none⟩), .func (.func 38) #[] #[.pointer (some ⟨w.heap.size + 1 + 1, 0, none⟩), .pointer (some ⟨w.heap.size, 0, none⟩), .pointer (some ⟨w.heap.size + 1, 0, none⟩)]] W0 fun e w' => e = .returned (.int .i64 0) ∧ At w' p g bm base (setWr { d with trip := dec d.trip } j (fil b)) ∧ Chg [p, bm] w w' := by
          intro W0 hA hB hV k0 k1 k2
          refine unless_step hA HD.out.1 HD.out.2 38 #[] _ (enters_of Tryd.func38 (by kernel_rfl) rfl) (fun w' => At w' p g bm base (setWr { d with trip := dec d.trip } j (fil b)) ∧ Chg [p, bm] w w') (fun W hAW hcW => ?_)
          have hx : ∀ q, p < q → q ∉ [p] := fun q hq hm => by simp at hm; omega
          have l0 := World.block_lt_of_cell? W0 _ k0
          have l1 := World.block_lt_of_cell? W0 _ k1
          have l2 := World.block_lt_of_cell? W0 _ k2
          refine (write1_any hAW (w.heap.size + 1 + 1) w.heap.size (w.heap.size + 1) j _ b hj (hV.chg hcW (fun a z hz => by have := hA.noByte hz; simpa using this)) hbl ((hcW.cell l2 (hx _ (by simp; omega))).trans k2) ((hcW.cell l0 (hx _ (by simp; omega))).trans k0) ((hcW.cell l1 (hx _ (by simp; omega))).trans k1)).mono ?_
          rintro e w' ⟨rfl, hA2, hc2⟩
          exact ⟨rfl, hA2, ((Chg.ofBelow hB).trans (hcW.mono (fun x hx => .inl (by simp at hx; simp [hx])))).trans (hc2.mono (fun x hx => .inl (by simp at hx; simp [hx])))⟩
        have HS : Hid _ := ⟨step⟩
        clear step
        go_enter Tryd.func23, Tryd.ntmps23
        go_wp2_with (first
          | (go_at_call 28; refine t1.mono ?_; rintro e w' ⟨rfl, hw⟩; obtain ⟨W0, e0, hA, hB, hV, k0, k1, k2⟩ := HF.out; rw [← e0] at hw; subst hw; clear e0 HF t1; have t2 := fits_any hA (j : Int) ao b.length cp; rw [hf] at t2; have t3 := HS.out W0 hA hB hV k0 k1 k2; clear hA hB hV HS)
          | (go_at_call 32; refine t2.mono ?_; rintro e w' ⟨rfl, rfl⟩; clear t2)
          | (go_at_call 37; refine t3.mono ?_; rintro e w' ⟨rfl, hA2, hc2⟩; clear t3))
        go_ret
        rw [HD.out.1] at hA2
        exact ⟨rfl, hA2, hc2⟩
    · simp only [hf, ne_eq, not_false_eq_true, if_true, if_false, Bool.false_eq_true]
      obtain ⟨fe, HFE⟩ : ∃ fe, Hid (fitE d i b.length = fe) := ⟨_, ⟨rfl⟩⟩
      have hfe : fe ≠ 0 := by rw [← HFE.out]; exact hf
      rw [HFE.out]
      clear hf hd
      go_enter Tryd.func23, Tryd.ntmps23
      go_wp2_with (first
        | (go_at_call 28; refine t1.mono ?_; rintro e w' ⟨rfl, hw⟩; obtain ⟨W0, e0, hA, hB, hV, k0, k1, k2⟩ := HF.out; rw [← e0] at hw; subst hw; clear e0 HF t1; have t2 := fits_any hA i ao b.length cp; rw [HFE.out] at t2)
        | (go_at_call 32; refine t2.mono ?_; rintro e w' ⟨rfl, rfl⟩; clear t2))
      go_ret
      exact ⟨rfl, hA, Chg.ofBelow hB⟩
end
end Go.Proofs.YtgjjjkokmgdmjaaDoor.Dk

/- Package disk's settle. -/
namespace Go.Proofs.YtgjjjkokmgdmjaaDoor.Dk
open Go.RowKit Go.Maps Go.Sort Go.Shelf

section
variable {w : World} {g off : Nat} {l : List Int}
theorem run_loadVar_gen {P : Program} {ty : TypeId} {d : TypeDesc} (hu : P.underlying ty = some d) (hd : (match d with | .struct _ | .array _ _ => true | _ => false) = true) (hi : (P.info? ty).map (·.size) = some l.length) (hc : ∀ j v, (pc l)[j]? = some v → w.cell? ⟨g, off + j, none⟩ = some v) : (loadVar ty ⟨g, off, none⟩).run P w = .ok (pv l) w := by
  have hld : (loadCells ⟨g, off, none⟩ l.length).run P w = .ok (pc l).toArray w := by
    have := run_loadCells_list (P := P) w ⟨g, off, none⟩ (pc l) (fun j v hv => by
      have hadd : (⟨g, off, none⟩ : Addr).add j = ⟨g, off + j, none⟩ := by unfold Addr.add; split <;> simp_all
      rw [hadd]; exact hc j v hv)
    rwa [pc_length] at this
  cases hq : P.info? ty with
  | none => simp [hq] at hi
  | some i =>
    have hs : i.size = l.length := by simpa [hq] using hi
    have hagg : (isAgg ty).run P w = .ok true w := by
      unfold isAgg
      rw [Sem.run_bind, run_underlying hu w]
      cases d <;> simp_all
    simp [loadVar, Sem.run_bind, hagg, sizeOf, typeInfo, hq, hs, hld, pv]
theorem run_loadVar_page (hl : l.length = 128) (hc : ∀ j v, (pc l)[j]? = some v → w.cell? ⟨g, off + j, none⟩ = some v) : (loadVar 73 ⟨g, off, none⟩).run Tryd.prog w = .ok (pv l) w :=
  run_loadVar_gen Tryd.underlying73 rfl (by rw [hl]; exact info68) hc
theorem run_loadAt_page (hl : l.length = 128) (hc : ∀ j v, (pc l)[j]? = some v → w.cell? ⟨g, off + j, none⟩ = some v) : (Instr.loadAt 73 (.pointer (some ⟨g, off, none⟩))).run Tryd.prog w = .ok (pv l) w := by
  simp only [Instr.loadAt, Instr.sureAddr, Sem.run_bind, Sem.run_pure, Result.andThen_ok, run_loadVar_page hl hc]
theorem var_cells (h : w.heap[g]? = some (.cells (pa l) 73 (0, 0))) : ∀ j v, (pc l)[j]? = some v → w.cell? ⟨g, 0 + j, none⟩ = some v := by
  intro j v hv
  rw [Nat.zero_add, cell_of_row w g j _ 73 (0, 0) h]
  simpa [pa] using hv
theorem run_storeVar_gen {P : Program} {ty : TypeId} (hi : (P.info? ty).map (·.size) = some l.length) {cur : Array Value} {t : TypeId} (hg : w.heap[g]? = some (.cells cur t (0, 0))) (hle : off + (pc l).length ≤ cur.size) :
    (storeVar ty ⟨g, off, none⟩ (pv l)).run P w = .ok () (w.setRow g (cur.toList.take off ++ pc l ++ cur.toList.drop (off + (pc l).length)).toArray) := by
  have hst := run_storeCells_at P g off t (pc l) 0 cur w hg (by simpa using hle) (pc_one l)
  cases hq : P.info? ty with
  | none => simp [hq] at hi
  | some i =>
    have hs : (pc l).length = i.size := by rw [pc_length]; simp [hq] at hi; omega
    simp [storeVar, sizeOf, typeInfo, hq, Value.cells, pv, hs] at hst ⊢
    exact hst
theorem run_storeCells_page {P : Program} {cur : Array Value} {t : TypeId} (hg : w.heap[g]? = some (.cells cur t (0, 0))) (hle : off + (pc l).length ≤ cur.size) :
    (storeCells ⟨g, off, none⟩ (pa l).toList).run P w = .ok () (w.setRow g (cur.toList.take off ++ pc l ++ cur.toList.drop (off + (pc l).length)).toArray) := by
  have hst := run_storeCells_at P g off t (pc l) 0 cur w hg (by simpa using hle) (pc_one l)
  unfold pa
  exact hst
theorem run_storeAt_page (hl : l.length = 128) {cur : Array Value} {t : TypeId} (hg : w.heap[g]? = some (.cells cur t (0, 0))) (hle : off + (pc l).length ≤ cur.size) :
    (Instr.storeAt 73 (.pointer (some ⟨g, off, none⟩)) (pv l)).run Tryd.prog w = .ok () (w.setRow g (cur.toList.take off ++ pc l ++ cur.toList.drop (off + (pc l).length)).toArray) := by
  have hsv := run_storeVar_gen (P := Tryd.prog) (ty := 73) (by rw [hl]; exact info68) hg hle
  simp only [Instr.storeAt, Instr.sureAddr, Sem.run_bind, Sem.run_pure, Result.andThen_ok, hsv]
end

section
variable {P : Program} {md : Region.Mode} {ops : Array Oper} {Q : Exit → Act → World → Prop} {S : World → Prop} {fuel : Nat} {listed : Array Bool} {a : Act} {w : World} {i : Nat} {o : Oper} {rs : List Nat}
theorem readyH_plain (ho : ops[i]? = some o) (hg : o.guard = none)
    (h : ∀ K' : Act → World → Prop, (∀ a w, S w → (S w → wpAnyH P md ops Q S fuel (listed.setIfInBounds i true) a w) → K' a w) → Oper.wp P o a w K' Q)
    (hs : AllReadyH P md ops Q S fuel listed a w rs) : AllReadyH P md ops Q S fuel listed a w (i :: rs) :=
  AllReadyH.cons ho (fun K' hK => by
    have hw : Region.wanted o (yielded ops a.tmps) = true := by unfold Region.wanted; rw [hg]
    rw [if_pos hw]; exact h K' hK.out) hs
theorem exec_load_page {g off : Nat} {l : List Int} {ρ : Operand → Value} (x : Operand) (ho : o.op = .load 73 x) (hx : ρ x = .pointer (some ⟨g, off, none⟩)) (hl : l.length = 128) (hc : ∀ j v, (pc l)[j]? = some v → w.cell? ⟨g, off + j, none⟩ = some v) : (execOp ρ o).run Tryd.prog w = .ok (.value (pv l)) w := by
  unfold execOp
  simp only [ho, hx, run_loadAt_page hl hc, Sem.run_bind, Sem.run_pure, Result.andThen_ok]
theorem wp_load_page {K : Act → World → Prop} {g off : Nat} {l : List Int} (x : Operand) (ho : o.op = .load 73 x) (hx : a.eval x = .pointer (some ⟨g, off, none⟩)) (hl : l.length = 128) (hc : ∀ j v, (pc l)[j]? = some v → w.cell? ⟨g, off + j, none⟩ = some v) (h : K (a.put o.dst (.agg (pa l))) w) : Oper.wp Tryd.prog o a w K Q := by
  unfold Oper.wp
  rw [exec_load_page (l := l) x ho hx hl hc]
  exact h
theorem readyH_store_page (ho : ops[i]? = some o) (hg : o.guard = none) (x y : Operand) (hop : o.op = .store 73 x y) (g off : Nat) (l : List Int) (hx : a.eval x = .pointer (some ⟨g, off, none⟩)) (hy : a.eval y = pv l) (w' : World)
    (hst : (Instr.storeAt 73 (.pointer (some ⟨g, off, none⟩)) (pv l)).run Tryd.prog w = .ok () w') (hS : S w')
    (h : S w' → wpAnyH Tryd.prog md ops Q S fuel (listed.setIfInBounds i true) (a.put o.dst undef) w') (hs : AllReadyH Tryd.prog md ops Q S fuel listed a w rs) : AllReadyH Tryd.prog md ops Q S fuel listed a w (i :: rs) :=
  readyH_plain ho hg (fun K' hK => by
    unfold Oper.wp execOp
    simp only [hop, hx, hy, hst, Sem.run_bind, Sem.run_pure, Result.andThen_ok]
    exact hK _ _ hS h) hs
end

/-- The pages, where those that are no longer left have been settled. -/
def pgs (S : List Sec) (left : Lit → Bool) : List (List Int) := (List.range S.length).map fun i => if dirt S i && !left (key i) then now (sec S i) else (sec S i).1
theorem pgs_length (S : List Sec) (left : Lit → Bool) : (pgs S left).length = S.length := by simp [pgs]
theorem pgs_start (S : List Sec) (left : Lit → Bool) (h : ∀ i, i < S.length → dirt S i = true → left (key i) = true) : pgs S left = S.map (·.1) := by
  apply List.ext_getElem?
  intro i
  by_cases hi : i < S.length
  · simp only [pgs, List.getElem?_map, List.getElem?_range hi, Option.map_some, List.getElem?_eq_getElem hi]
    have e : sec S i = S[i] := by simp [sec, List.getD, List.getElem?_eq_getElem hi]
    by_cases hd : dirt S i = true
    · rw [h i hi hd, e]; simp
    · rw [e]; simp [hd]
  · simp [pgs, hi]
theorem pgs_end (S : List Sec) (left : Lit → Bool) (h : ∀ k, left k = false) : pgs S left = (flush S).map (·.1) := by
  apply List.ext_getElem?
  intro i
  by_cases hi : i < S.length
  · simp only [pgs, flush, List.getElem?_map, List.getElem?_range hi, Option.map_some, List.getElem?_eq_getElem hi]
    have e : sec S i = S[i] := by simp [sec, List.getD, List.getElem?_eq_getElem hi]
    rw [h]
    by_cases hd : dirt S i = true
    · rw [hd, e]; simp
    · have : (sec S i).2 = none := by unfold dirt at hd; cases hs : (sec S i).2 with
        | none => rfl
        | some l => rw [hs] at hd; simp at hd
      simp only [hd, e]
      rw [e] at this
      simp [now, this]
  · simp [pgs, flush, hi]
theorem pgs_step (S : List Sec) (left : Lit → Bool) {i : Nat} {l : List Int} (hl : (sec S i).2 = some l) : pgs S (fun z => left z && !z.sameKey (key i)) = (pgs S left).set i l := by
  apply List.ext_getElem?
  intro j
  by_cases hj : j < S.length
  · rw [List.getElem?_set]
    simp only [pgs, List.getElem?_map, List.getElem?_range hj, Option.map_some, List.length_map, List.length_range]
    by_cases e : i = j
    · subst e
      have hd : dirt S i = true := by unfold dirt; rw [hl]; rfl
      simp [hd, hj, key, Lit.sameKey, now, hl]
    · have hk : (key j).sameKey (key i) = false := by simp [key, Lit.sameKey]; omega
      simp [e, hk]
  · simp [pgs, hj]
end Go.Proofs.YtgjjjkokmgdmjaaDoor.Dk

/- Package disk's settle, walked. -/
namespace Go.Proofs.YtgjjjkokmgdmjaaDoor.Dk
open Go.RowKit Go.Maps Go.Sort Go.Shelf

theorem Chg.ofGrown {w w' : World} {r : Option Nat} (h : w.grownBy w' r) {X : List Nat} (hx : ∀ k, r = some k → k ∈ X) : Chg X w w' := ⟨h.os, h.tape, h.output, h.size, fun k hk hn => h.block k hk (fun e => hn (hx k e.symm))⟩
theorem Chg.toGrown {w w' : World} {g : Nat} (h : Chg [g] w w') : w.grownBy w' (some g) := ⟨h.os, h.tape, h.output, h.size, fun k hk hn => h.block k hk (fun e => hn (by simp at e; rw [e]))⟩
theorem Chg.toGrown0 {w w' : World} (h : Chg [] w w') (r : Option Nat) : w.grownBy w' r := ⟨h.os, h.tape, h.output, h.size, fun k hk _ => h.block k hk (by simp)⟩

def flD (d : Dk) : Dk := { d with S := flush d.S }

set_option maxHeartbeats 4000000 in
set_option maxRecDepth 100000 in
theorem settle_any {w : World} {p g bm base : Nat} {d : Dk} (h : At w p g bm base d) :
    Calls Tryd.prog 42 #[.pointer (some ⟨p, 0, none⟩)] w fun e w' => e = .returned (.tuple #[]) ∧ At w' p g bm base (flD d) ∧ Chg [g, bm] w w' := by
  obtain ⟨cap, tc, n, D, h⟩ := h
  obtain ⟨c0, c1, _⟩ := h.cells
  obtain ⟨l1, l2, l3⟩ := h.lt
  obtain ⟨n1, n2, n3⟩ := h.ne
  have hown := h.map
  have HX : Hid (AtX w p g bm base cap tc n D d) := ⟨h⟩
  have HS0 : Hid (pgs d.S (Maps.has D) = d.S.map (·.1)) := ⟨pgs_start _ _ (fun i hi hd => by rw [h.drt.hasN hi]; exact hd)⟩
  have hlen := h.len
  obtain ⟨N, hN⟩ : ∃ N, d.S.length = N := ⟨_, rfl⟩
  rw [hN] at c0 hlen
  clear h
  go_enter Tryd.func42, Tryd.ntmps42
  go_wp2_with (first
    | (at_range; refine wpList_range_own _ rfl _ 51 rfl 3 73 (int_keyed Tryd.underlying3) Tryd.underlying51 _ bm n _ rfl hown ?_; intro w0 hrg0 hg0 hs0)
    | go_in)
  clear hown
  have HR0 : Hid (Rows w0 g cap 73 (pgs d.S (Maps.has D)) ∧ Chg [g] w w0) := ⟨by rw [HS0.out]; exact HX.out.rows.kept (hg0.block g l2 (by simp)), Chg.ofGrown hg0 (fun k hk => by cases hk)⟩
  go_frame
  go_loopw [2, 3] (fun _ _ wr => ∃ (left : Lit → Bool) (cnt : Nat), wr.ranges Tryd.prog 3 self bm w.heap.size n D left cnt ∧ Hid (Rows wr g cap 73 (pgs d.S left) ∧ Chg [g] w wr))
    (fun _ _ wr => wr.rangeLeft bm w.heap.size)
  case atStart => exact ⟨_, _, hrg0, HR0⟩
  case round =>
    clear hrg0 hg0 hs0 HR0
    obtain ⟨left, cnt, hrg, HR⟩ := hrel
    go_wp2_with (first
      | (at_next; refine wpList_next_ranges _ rfl _ rfl 3 (int_keyed Tryd.underlying3) self (Value.int .i64) (fun v : Value => v) (fun key kl hkey => by obtain ⟨x, rfl, _⟩ := Maps.keyOf_int_inv Tryd.underlying3 hkey; exact ⟨x, rfl⟩) (fun v y _ => ⟨v, rfl⟩) bm w.heap.size n D left cnt rfl hrg ?_ ?_)
      | go_in)
    · intro _ hl0
      have hn1 : p ∉ [g] := by simp [n1]
      have d1 : wr.cell? ⟨p, 1, none⟩ = some (.map (some bm)) := (HR.out.2.cell l1 hn1).trans c1
      obtain ⟨w2, hclr, hown2, hturn⟩ := own_clear (ty := 0) Tryd.underlying51 hrg.owns
      have HR2 : Hid (At w2 p g bm base (flD d) ∧ Chg [g, bm] w w2) := ⟨by
        have hc2 := Chg.ofMap hturn
        have hl1 : p < wr.heap.size := Nat.lt_of_lt_of_le l1 HR.out.2.size
        have hl2 : g < wr.heap.size := HR.out.1.lt
        refine ⟨⟨cap, tc, 0, .map [], ?_, ?_, hown2, Dirt.empty (fun i hi => ?_), ok_flush HX.out.ok, ?_, HX.out.trip, HX.out.rng, HX.out.bp⟩, (HR.out.2.mono (fun x hx => .inl (by simp at hx; simp [hx]))).trans (hc2.mono (fun x hx => .inl (by simp at hx; simp [hx])))⟩
        · rw [hc2.block p hl1 (by simp [n2]), HR.out.2.block p l1 hn1]
          have e : (flD d).S.length = d.S.length := by simp [flD, flush]
          rw [e]; exact HX.out.row
        · show Rows w2 g cap 73 ((flush d.S).map (·.1))
          rw [← pgs_end d.S left hl0]
          exact HR.out.1.kept (hc2.block g hl2 (by simp [n3]))
        · have hi' : i < d.S.length := by simpa [flD, flush] using hi
          show dirt (flush d.S) i = false
          unfold dirt
          rw [sec_flush hi']; rfl
        · show (flush d.S).length ≤ 4096
          simp only [flush, List.length_map]; omega⟩
      clear hown2 hturn hrg
      go_wp2
      go_returns
      exact ⟨rfl, HR2.out⟩
    · intro x c kl y y2 w1 cnt1 hkey hlk hRv hat hrg1 hlt hg1 hs1 hen
      obtain ⟨x', ex, rfl, _⟩ := Maps.keyOf_int_inv Tryd.underlying3 hkey
      simp only [Value.int.injEq, true_and] at ex
      subst ex
      simp only [self, Option.some.injEq, Prod.mk.injEq] at hRv
      obtain ⟨rfl, rfl⟩ := hRv
      have hhas : Maps.has D (.int .i64 x) = true := Maps.has_true_of_atKey hat
      rw [HX.out.drt.has x] at hhas
      simp only [Bool.and_eq_true, decide_eq_true_eq] at hhas
      obtain ⟨⟨hx0, hx1⟩, hxd⟩ := hhas
      obtain ⟨i, rfl⟩ : ∃ i : Nat, x = i := ⟨x.toNat, by omega⟩
      have hi : i < d.S.length := by omega
      obtain ⟨l, hl⟩ : ∃ l, (sec d.S i).2 = some l := by
        unfold dirt at hxd
        exact Option.isSome_iff_exists.1 (by simpa using hxd)
      have hc := (hat (.held c)).symm.trans (HX.out.drt.val i l hi hl _)
      simp only [DataW.held.injEq] at hc
      subst hc
      have hPg : Pg l := (ok_sec HX.out.ok i).2 l hl
      have hpa : (Tryd.prog.info? 73).map (·.size) = some (pa l).size := by rw [pa_size, hPg.1]; exact info68
      have hiz : (i : Int) < (N : Int) := by omega
      have hi0 : (0 : Int) ≤ (i : Int) := by omega
      have hmeas : cnt1 < wr.rangeLeft bm w.heap.size := by rw [hrg.left_eq]; exact hlt
      have hrn : w.heap.size < wr.heap.size := hrg.lt
      have hR1 : Rows w1 g cap 73 (pgs d.S left) := HR.out.1.kept (hg1.block g HR.out.1.lt (by simp; omega))
      have hc1 : Chg [g] w w1 := HR.out.2.thenNew (Chg.ofGrown (X := [w.heap.size]) hg1 (fun k hk => by cases hk; simp)) (fun k hk => by simp at hk; exact .inr (by omega))
      obtain ⟨v1, Hv1⟩ : ∃ v1, Hid (v1 = (w1.alloc (.cells Tryd.zeroCells73 73)).setRow w1.heap.size (pa l)) := ⟨_, ⟨rfl⟩⟩
      have hgl1 : g < w1.heap.size := hR1.lt
      have hb1 : Below w1.heap.size w1 v1 := by rw [Hv1.out]; exact below_setRow' ((Below.refl _ w1).alloc (Nat.le_refl _) _) (Nat.le_refl _) _
      have hvar : v1.heap[w1.heap.size]? = some (.cells (pa l) 73 (0, 0)) := by rw [Hv1.out]; exact setRow_heap _ _ _ _ 73 (0, 0) (heap_alloc_new w1 _)
      have hR2 : Rows v1 g cap 73 (pgs d.S left) := hR1.kept (hb1.block g hgl1)
      have hc2 : Chg [g] w v1 := hc1.trans (Chg.ofBelow hb1)
      have hrg2 : v1.ranges Tryd.prog 3 self bm w.heap.size n D (fun z => left z && !z.sameKey (key i)) cnt1 := hrg1.kept ((Chg.ofBelow (X := []) hb1).toGrown0 none) (by simp) (by simp)
      have d0 : v1.cell? ⟨p, 0, none⟩ = some (.slice (some ⟨g, 0, none⟩) N cap) := (hc2.cell l1 (by simp [n1])).trans c0
      obtain ⟨cur, hcur⟩ : ∃ cur, v1.heap[g]? = some (.cells cur 73 (0, 0)) := by obtain ⟨_, cur, _, hh, _⟩ := hR2; exact ⟨cur, hh⟩
      obtain ⟨hle, hR3⟩ := hR2.set (i := i) (by rw [pgs_length]; exact hi) hPg.1 hcur
      rw [← pgs_step d.S left hl] at hR3
      have hst := run_storeCells_page (P := Tryd.prog) (w := v1.drew) hcur hle
      have hpz : (pa l).size = 128 := by rw [pa_size, hPg.1]
      have hvd : v1.drew.cell? ⟨p, 0, none⟩ = some (.slice (some ⟨g, 0, none⟩) N cap) ∧ v1.drew.heap[w1.heap.size]? = some (.cells (pa l) 73 (0, 0)) := ⟨d0, hvar⟩
      obtain ⟨v2, Hv2⟩ : ∃ v2, Hid (v2 = v1.drew.setRow g (cur.toList.take (i * 128) ++ pc l ++ cur.toList.drop (i * 128 + (pc l).length)).toArray) := ⟨_, ⟨rfl⟩⟩
      have hgw : g ≠ w1.heap.size := by omega
      have HE : Hid (Rows v2 g cap 73 (pgs d.S (fun z => left z && !z.sameKey (key i))) ∧ Chg [g] w v2) := ⟨by rw [Hv2.out]; exact hR3, by rw [Hv2.out]; exact hc2.drew.setRow (.inl (by simp)) _⟩
      have hrg3 : v2.ranges Tryd.prog 3 self bm w.heap.size n D (fun z => left z && !z.sameKey (key i)) cnt1 := by
        rw [Hv2.out]
        exact hrg2.kept ((Chg.refl [g] v1).drew.setRow (.inl (by simp)) _).toGrown (by simp; exact Ne.symm n3) (by simp; omega)
      have hv2d : v2.cell? ⟨p, 0, none⟩ = some (.slice (some ⟨g, 0, none⟩) N cap) ∧ v2.heap[w1.heap.size]? = some (.cells (pa l) 73 (0, 0)) := by
        rw [Hv2.out]
        refine ⟨?_, (setRow_other _ _ _ _ (Ne.symm hgw)).trans hvar⟩
        have e : (v1.drew.setRow g (cur.toList.take (i * 128) ++ pc l ++ cur.toList.drop (i * 128 + (pc l).length)).toArray).heap[p]? = v1.heap[p]? := setRow_other _ _ _ _ n1
        exact (World.cell?_of_block (a := ⟨p, 0, none⟩) e).trans d0
      rw [← Hv2.out] at hst
      clear hR3 hR2 hR1 hc1 hc2 hrg1 hrg2 hat hkey hlk hrg hlt hcur hle hb1 hg1 hs1 hxd hx0 hx1 hgl1
      go_wp2_with (first
        | (refine wpList_store_row rfl 73 (.tmp 3) (.tmp 13) rfl w1.heap.size (pa l) rfl rfl 73 Tryd.zeroCells73 (heap_alloc_new w1 _) hpa (by rw [zc68, pa_size, pa_size, hPg.1]; rfl) (pa_one _) ?_; rw [← Hv1.out])
        | go_in)
      refine wp_region_held_drew (S := fun w' => w'.cell? ⟨p, 0, none⟩ = some (.slice (some ⟨g, 0, none⟩) N cap) ∧ w'.heap[w1.heap.size]? = some (.cells (pa l) 73 (0, 0))) (by kernel_rfl) hvd (fun hS => ?_)
      refine wpAnyH_take (i := 0) (v := .pointer (some ⟨p, 0, none⟩)) rfl (by kernel_rfl) (by kernel_rfl) (by kernel_rfl) (fun _ _ _ h => h) (Or.inl ⟨by kernel_rfl, fun _ _ => by kernel_rfl⟩) hS ?_
      refine wpAnyH_take (i := 1) (v := .pointer (some ⟨p, 0, none⟩)) rfl (by kernel_rfl) (by kernel_rfl) (by kernel_rfl) (fun _ _ _ h => h) (Or.inl ⟨by kernel_rfl, fun wx _ => by go_simp⟩) hS ?_
      refine wpAnyH_take (i := 2) (v := .pointer (some ⟨p, 0, none⟩)) rfl (by kernel_rfl) (by kernel_rfl) (by kernel_rfl) (fun _ _ _ h => h) (Or.inl ⟨by kernel_rfl, fun wx _ => by go_simp⟩) hS ?_
      refine wpAnyH_take (i := 3) (v := .slice (some ⟨g, 0, none⟩) N cap) rfl (by kernel_rfl) (by kernel_rfl) (by kernel_rfl) (fun _ _ _ h => h) (Or.inl ⟨by kernel_rfl, fun wx hx => by obtain ⟨hx0, _⟩ := hx; go_simp⟩) hS ?_
      refine wpAnyH_take (i := 4) (v := .int .i64 (i : Int)) rfl (by kernel_rfl) (by kernel_rfl) (by kernel_rfl) (fun _ _ _ h => h) (Or.inl ⟨by kernel_rfl, fun _ _ => by kernel_rfl⟩) hS ?_
      refine wpAnyH_take (i := 5) (v := .agg (pa l)) rfl (by kernel_rfl) (by kernel_rfl) (by kernel_rfl) (fun _ _ _ h => h) (Or.inl ⟨by kernel_rfl, fun wx hx => exec_load_page (.tmp 3) rfl (by kernel_rfl) hPg.1 (var_cells hx.2)⟩) hS ?_
      refine wpAnyH_take (i := 6) (v := .pointer (some ⟨g, i * 128, none⟩)) rfl (by kernel_rfl) (by kernel_rfl) (by kernel_rfl) (fun _ _ _ h => h) (Or.inl ⟨by kernel_rfl, fun wx _ => by go_simp⟩) hS ?_
      refine wpAnyH_ready (rs := [7]) (by kernel_rfl) (by simp) (AllReadyH.cons rfl (fun Kc hK => ?_) AllReadyH.nil)
      go_simp
      refine hK.out _ _ hv2d (fun hS => ?_)
      clear hK
      refine wpAnyH_done (by kernel_rfl) ?_ _
      go_wp2
      go_roundw
      case rel => exact ⟨_, cnt1, hrg3, HE⟩
      case measure => rw [hrg3.left_eq]; exact hmeas
end Go.Proofs.YtgjjjkokmgdmjaaDoor.Dk

/- Package disk's Flush and Read. -/
namespace Go.Proofs.YtgjjjkokmgdmjaaDoor.Dk
open Go.RowKit Go.Maps Go.Sort Go.Shelf

def fluE (d : Dk) : Int := if d.down then 7 else if d.trip = 1 then 7 else 0
def fluD (d : Dk) : Dk := if d.down then d else if d.trip = 1 then { d with down := true } else flD { d with trip := dec d.trip }

section
variable {w : World} {p g bm base : Nat} {d : Dk}
set_option maxHeartbeats 1000000 in
theorem flush_any (h : At w p g bm base d) :
    Calls Tryd.prog 27 #[.pointer (some ⟨p, 0, none⟩)] w fun e w' => e = .returned (.int .i64 (fluE d)) ∧ At w' p g bm base (fluD d) ∧ Chg [p, g, bm] w w' := by
  have t1 := ready_any h
  unfold fluE fluD
  cases hd : d.down with
  | true =>
    rw [hd] at t1
    have HA : Hid (At w p g bm base d) := ⟨h⟩
    clear h
    go_enter Tryd.func27, Tryd.ntmps27
    go_wp2_with (go_at_call 28; refine t1.mono ?_; rintro e w' ⟨rfl, rfl⟩)
    go_ret
    exact ⟨rfl, HA.out, Chg.refl _ _⟩
  | false =>
    rw [hd] at t1
    simp only [Bool.false_eq_true, if_false]
    by_cases ht : d.trip = 1
    · simp only [ht, if_true]
      have t3 := unless_trip h hd ht (.func (.func 42) #[.pointer (some ⟨p, 0, none⟩)] #[])
      rw [ht] at t3
      clear h
      go_enter Tryd.func27, Tryd.ntmps27
      go_wp2_with (first
        | (go_at_call 28; refine t1.mono ?_; rintro e w' ⟨rfl, rfl⟩; clear t1)
        | (go_at_call 37; refine t3.mono ?_; rintro e w' ⟨rfl, hA2, hc2⟩; clear t3))
      go_ret
      exact ⟨rfl, hA2, hc2.mono (fun x hx => .inl (by simp at hx; simp [hx]))⟩
    · simp only [ht, if_false]
      have t3 := unless_step h hd ht 42 #[.pointer (some ⟨p, 0, none⟩)] #[] (enters_of Tryd.func42 (by kernel_rfl) rfl) (fun w' => At w' p g bm base (flD { d with trip := dec d.trip }) ∧ Chg [p, g, bm] w w') (fun W hAW hcW => by
        refine (settle_any hAW).mono ?_
        rintro e w' ⟨rfl, hA2, hc2⟩
        exact ⟨rfl, hA2, (hcW.mono (fun x hx => .inl (by simp at hx; simp [hx]))).trans (hc2.mono (fun x hx => .inl (by simp at hx; rcases hx with h | h <;> simp [h])))⟩)
      rw [hd] at t3
      clear h
      go_enter Tryd.func27, Tryd.ntmps27
      go_wp2_with (first
        | (go_at_call 28; refine t1.mono ?_; rintro e w' ⟨rfl, rfl⟩; clear t1)
        | (go_at_call 37; refine t3.mono ?_; rintro e w' ⟨rfl, hA2, hc2⟩; clear t3))
      go_ret
      exact ⟨rfl, hA2, hc2⟩
end

/-- The call owns the bytes v. -/
def OwnB (w : World) (base : Nat) (v : Value) (xs : List Int) : Prop := w.ownsRow base 5 1 v xs.length (xs.map (Value.int .u8))
theorem info5b : (Tryd.prog.info? 5).map (fun i => (i.zero, i.size, i.bytes)) = some (some (.int .u8 0), 1, 1) := by kernel_rfl
theorem info_parts' {P : Program} {e : TypeId} {z : Value} {k b : Nat} (h : (P.info? e).map (fun i => (i.zero, i.size, i.bytes)) = some (some z, k, b)) : ∃ i, P.info? e = some i ∧ i.zero = some z ∧ i.size = k ∧ i.bytes = b := by
  cases hi : P.info? e with
  | none => rw [hi] at h; simp at h
  | some i => rw [hi] at h; simp at h; exact ⟨i, rfl, h.1, h.2.1, h.2.2⟩
theorem own_ge {w : World} {base : Nat} {e : TypeId} {k : Nat} {v : Value} {n : Nat} {xs : List Value} (h : w.ownsRow base e k v n xs) : ∀ j, v.ownBlock = some j → base ≤ j := fun k hk => (h.lt k hk).1

section
variable {w : World} {ops : Array Oper} {rest : List Oper} {o : Oper} {a : Act} {Q : Exit → Act → World → Prop}
/-- 'append(v, src...)' of bytes, v the call's own. -/
theorem wp_appS (hgd : o.guard = none) (s x : Operand)
    (ho : o.op = .call { callee := .builtin .append, args := #[s, x], argTypes := #[23, 23] })
    {base : Nat} {v u : Value} {xs ys : List Int} (hs : a.eval s = v) (hown : OwnB w base v xs)
    (hx : a.eval x = u) (hu : Bs w u ys) (hlen : xs.length + ys.length ≤ 140737488355328) (hbase : base ≤ w.heap.size)
    (h : ∀ v' w', OwnB w' base v' (xs ++ ys) → Below base w w' → wpList Tryd.prog ops Q rest (a.put o.dst v') w') :
    wpList Tryd.prog ops Q (o :: rest) a w := by
  obtain ⟨i0, hi, hz0, hz1, hz2⟩ := info_parts' info5b
  obtain ⟨ao, cap, rfl, hl, hm, hn, hc, _⟩ := hu
  cases ao with
  | none =>
    have hcap := hn rfl
    subst hcap
    have hy : ys = [] := List.length_eq_zero_iff.1 (by omega)
    subst hy
    exact wpList_append_own_none hgd s x 23 ho base 5 i0 1 Tryd.underlying23 hi v xs.length _ hs hown hx (h v w (by simpa [OwnB] using hown) (Below.refl _ _))
  | some ad =>
    refine wpList_append_own _ hgd s x 23 ho base 5 i0 (.int .u8 0) 1 1 Tryd.underlying23 hi hz0 hz1 hz2 rfl (by decide) v xs.length _ hs hown ad ys.length cap (ys.map (Value.int .u8)) hx (by simp) ?_ ?_ ?_ ?_ hbase ?_
    · intro j u hj
      have hjl : j < ys.length := by
        rcases Nat.lt_or_ge j ys.length with h | h
        · exact h
        · simp [List.getElem?_eq_none (show (ys.map (Value.int .u8)).length ≤ j by simpa using h)] at hj
      rw [hc ad rfl j hjl]
      simp [List.getElem?_eq_getElem hjl] at hj
      subst hj
      simp [List.getD, List.getElem?_eq_getElem hjl]
    · intro u hu; simp at hu; obtain ⟨z, _, rfl⟩ := hu; rfl
    · unfold maxLen; omega
    · omega
    · intro v' w' h1 h2 _
      refine h v' w' (by unfold OwnB; simpa using h1) ?_
      exact (Below.refl base w).grown h2 hbase (own_ge hown)
end
theorem add_plain (b off i : Nat) : (⟨b, off, none⟩ : Addr).add i = ⟨b, off + i, none⟩ := by unfold Addr.add; split <;> simp_all
theorem OwnB.bs {w : World} {base : Nat} {v : Value} {bs : List Int} (h : OwnB w base v bs) (hy : Byt bs) : Bs w v bs := by
  obtain ⟨_, h⟩ := h
  rcases h with ⟨rfl, h0⟩ | ⟨g, cap, cur, rfl, hb, hh, hc, hm, hcs, ht⟩
  · rw [List.length_eq_zero_iff.1 h0]; exact ⟨none, 0, rfl, Nat.le_refl _, Nat.zero_le _, fun _ => rfl, fun x h => (by cases h), fun x h => by simp at h⟩
  · refine ⟨_, _, rfl, hc, hm, by simp, fun x hx i hi => ?_, hy⟩
    cases hx
    have e1 : (⟨g, 0, none⟩ : Addr).add i = ⟨g, i, none⟩ := by rw [add_plain]; simp
    have e2 : (cur.toList.take (bs.length * 1))[i]? = (bs.map (Value.int .u8))[i]? := by rw [ht]
    rw [List.getElem?_take, if_pos (by omega)] at e2
    rw [e1]
    simp [World.cell?, hh, List.getD_eq_getElem?_getD, List.getElem?_eq_getElem hi] at e2 ⊢
    exact e2
/-- A page variable, sliced, reads its bytes. -/
theorem var_bs {w : World} {g : Nat} {l : List Int} (h : w.heap[g]? = some (.cells (pa l) 73 (0, 0))) (hl : Pg l) : Bs w (.slice (some ⟨g, 0, none⟩) 128 128) l := by
  refine ⟨_, 128, by rw [hl.1], by rw [hl.1]; exact Nat.le_refl _, by unfold maxLen; omega, by simp, fun x hx i hi => ?_, hl.2⟩
  cases hx
  rw [add_plain]
  exact var_cells h i _ (by simp [pc, List.getElem?_eq_getElem hi, List.getD])

def rdE (d : Dk) (i : Int) : Int := if d.down then 7 else if 0 ≤ i ∧ i < (d.S.length : Int) then 0 else 2
def rdB (d : Dk) (i : Int) : List Int := if d.down then [] else if 0 ≤ i ∧ i < (d.S.length : Int) then now (sec d.S i.toNat) else []
end Go.Proofs.YtgjjjkokmgdmjaaDoor.Dk

/- Package disk's Read. -/
namespace Go.Proofs.YtgjjjkokmgdmjaaDoor.Dk
open Go.RowKit Go.Maps Go.Sort Go.Shelf

theorem own_nil (w : World) (base : Nat) : OwnB w base (.slice none 0 0) [] := World.ownsRow_nil _ _ _ _
theorem map_fst_getD {S : List Sec} {i : Nat} (hi : i < S.length) : (S.map (·.1)).getD i [] = (sec S i).1 := by simp [sec, List.getD, List.getElem?_eq_getElem hi]

section
variable {w : World} {p g bm base : Nat} {d : Dk}
set_option maxHeartbeats 2000000 in
set_option maxRecDepth 100000 in
theorem read_any (h : At w p g bm base d) (i : Int) :
    Calls Tryd.prog 14 #[.pointer (some ⟨p, 0, none⟩), .int .i64 i] w fun e w' => ∃ v, e = .returned (.tuple #[v, .int .i64 (rdE d i)]) ∧ OwnB w' w.heap.size v (rdB d i) ∧ Below w.heap.size w w' := by
  have t1 := ready_any h
  have t2 := has_any h i
  unfold rdE rdB
  cases hd : d.down with
  | true =>
    rw [hd] at t1
    clear h t2
    go_enter Tryd.func14, Tryd.ntmps14
    go_wp2_with (go_at_call 28; refine t1.mono ?_; rintro e w' ⟨rfl, rfl⟩)
    go_ret2
    exact ⟨_, rfl, own_nil _ _, Below.refl _ _⟩
  | false =>
    rw [hd] at t1
    simp only [Bool.false_eq_true, if_false]
    by_cases hi : 0 ≤ i ∧ i < (d.S.length : Int)
    · rw [decide_eq_true hi] at t2
      simp only [hi, and_self, if_true]
      obtain ⟨j, rfl⟩ : ∃ j : Nat, i = j := ⟨i.toNat, by omega⟩
      have hj : j < d.S.length := by omega
      obtain ⟨hi0, hi1⟩ := hi
      obtain ⟨cap, tc, n, D, h⟩ := h
      obtain ⟨c0, c1, _⟩ := h.cells
      have hlook := (h.look hj).1
      have hok := ok_sec h.ok j
      have hrc := h.rows.cells (i := j) (by simpa using hj)
      rw [map_fst_getD hj] at hrc
      have hgl := h.lt.2.1
      clear h
      have e1 : (j : Int).toNat = j := rfl
      rw [e1]
      generalize d.S.length = N at c0 hi1
      have hb1 : Below w.heap.size w (w.alloc (.cells Tryd.zeroCells73 73)) := (Below.refl _ w).alloc (Nat.le_refl _) _
      cases hs : (sec d.S j).2 with
      | some l =>
        have hPg := hok.2 l hs
        have hdt : dirt d.S j = true := by unfold dirt; rw [hs]; rfl
        have hnw : now (sec d.S j) = l := by unfold now; rw [hs]; rfl
        rw [hs, hdt] at hlook
        rw [hnw]
        simp only [Option.getD_some] at hlook
        have hpa : (Tryd.prog.info? 73).map (·.size) = some (pa l).size := by rw [pa_size, hPg.1]; exact info68
        obtain ⟨v1, Hv1⟩ : ∃ v1, Hid (v1 = (w.alloc (.cells Tryd.zeroCells73 73)).setRow w.heap.size (pa l)) := ⟨_, ⟨rfl⟩⟩
        have hvar : v1.heap[w.heap.size]? = some (.cells (pa l) 73 (0, 0)) := by rw [Hv1.out]; exact setRow_heap _ _ _ _ 73 (0, 0) (heap_alloc_new w _)
        have HB1 : Hid (Below w.heap.size w v1) := ⟨by rw [Hv1.out]; exact below_setRow' hb1 (Nat.le_refl _) _⟩
        have hbs := var_bs hvar hPg
        clear hrc hok
        go_enter Tryd.func14, Tryd.ntmps14
        go_wp2_with (first
          | (go_at_call 28; refine t1.mono ?_; rintro e w' ⟨rfl, rfl⟩; clear t1)
          | (go_at_call 31; refine t2.mono ?_; rintro e w' ⟨rfl, rfl⟩; clear t2)
          | (refine wpList_store_row rfl 73 (.tmp 7) (.tmp 25) rfl w.heap.size (pa l) rfl rfl 73 Tryd.zeroCells73 (heap_alloc_new w _) hpa (by rw [zc68, pa_size, pa_size, hPg.1]; rfl) (pa_one _) ?_; rw [← Hv1.out])
          | (at_builtin; refine wp_appS (base := w.heap.size) rfl (.const (.slice none 0 0)) (.tmp 36) rfl rfl (own_nil _ _) rfl hbs (by have := hPg.1; simp; omega) (by have := HB1.out.size; omega) ?_; intro v' w' hv' hb'))
        go_ret2
        exact ⟨v', rfl, by simpa using hv', HB1.out.trans hb'⟩
      | none =>
        have hPg := hok.1
        have hdt : dirt d.S j = false := by unfold dirt; rw [hs]; rfl
        have hnw : now (sec d.S j) = (sec d.S j).1 := by unfold now; rw [hs]; rfl
        rw [hs, hdt] at hlook
        rw [hnw]
        simp only [Option.getD_none] at hlook
        generalize (sec d.S j).1 = l at hrc hPg
        have hpa : (Tryd.prog.info? 73).map (·.size) = some (pa l).size := by rw [pa_size, hPg.1]; exact info68
        have hpz : (Tryd.prog.info? 73).map (·.size) = some (pa zp).size := by rw [pa_size]; exact info68
        obtain ⟨v0, Hv0⟩ : ∃ v0, Hid (v0 = (w.alloc (.cells Tryd.zeroCells73 73)).setRow w.heap.size (pa zp)) := ⟨_, ⟨rfl⟩⟩
        have hv0 : v0.heap[w.heap.size]? = some (.cells (pa zp) 73 (0, 0)) := by rw [Hv0.out]; exact setRow_heap _ _ _ _ 73 (0, 0) (heap_alloc_new w _)
        have HB0 : Hid (Below w.heap.size w v0) := ⟨by rw [Hv0.out]; exact below_setRow' hb1 (Nat.le_refl _) _⟩
        have hrc0 : ∀ k v, (pc l)[k]? = some v → v0.cell? ⟨g, j * 128 + k, none⟩ = some v := fun k v hv => (HB0.out.cell (p := ⟨g, j * 128 + k, none⟩) hgl).trans (hrc k v hv)
        have d0 : v0.cell? ⟨p, 0, none⟩ = some (.slice (some ⟨g, 0, none⟩) N cap) := (HB0.out.cell (World.block_lt_of_cell? _ _ c0)).trans c0
        obtain ⟨v1, Hv1⟩ : ∃ v1, Hid (v1 = v0.setRow w.heap.size (pa l)) := ⟨_, ⟨rfl⟩⟩
        have hvar : v1.heap[w.heap.size]? = some (.cells (pa l) 73 (0, 0)) := by rw [Hv1.out]; exact setRow_heap _ _ _ _ 73 (0, 0) hv0
        have HB1 : Hid (Below w.heap.size w v1) := ⟨by rw [Hv1.out]; exact below_setRow' HB0.out (Nat.le_refl _) _⟩
        have hbs := var_bs hvar hPg
        clear hrc hok
        go_enter Tryd.func14, Tryd.ntmps14
        go_wp2_with (first
          | (go_at_call 28; refine t1.mono ?_; rintro e w' ⟨rfl, rfl⟩; clear t1)
          | (go_at_call 31; refine t2.mono ?_; rintro e w' ⟨rfl, rfl⟩; clear t2)
          | (refine wpList_store_row rfl 73 (.tmp 7) (.tmp 25) rfl w.heap.size (pa zp) rfl rfl 73 Tryd.zeroCells73 (heap_alloc_new w _) hpz (by rw [zc68]) (pa_one _) ?_; rw [← Hv0.out])
          | (refine wpList_load_page rfl 73 (.tmp 34) rfl g (j * 128) rfl l _ hrc0 Tryd.underlying73 rfl (by rw [hPg.1]; exact info68) ?_)
          | (refine wpList_store_row rfl 73 (.tmp 7) (.tmp 35) rfl w.heap.size (pa l) rfl rfl 73 (pa zp) hv0 hpa (by rw [pa_size, pa_size, hPg.1]; rfl) (pa_one _) ?_; rw [← Hv1.out])
          | (at_builtin; refine wp_appS (base := w.heap.size) rfl (.const (.slice none 0 0)) (.tmp 36) rfl rfl (own_nil _ _) rfl hbs (by have := hPg.1; simp; omega) (by have := HB1.out.size; omega) ?_; intro v' w' hv' hb'))
        go_ret2
        exact ⟨v', rfl, by simpa using hv', HB1.out.trans hb'⟩
    · rw [decide_eq_false hi] at t2
      simp only [hi, if_false]
      clear h
      go_enter Tryd.func14, Tryd.ntmps14
      go_wp2_with (first
        | (go_at_call 28; refine t1.mono ?_; rintro e w' ⟨rfl, rfl⟩; clear t1)
        | (go_at_call 31; refine t2.mono ?_; rintro e w' ⟨rfl, rfl⟩; clear t2))
      go_ret2
      exact ⟨_, rfl, own_nil _ _, Below.refl _ _⟩
end
end Go.Proofs.YtgjjjkokmgdmjaaDoor.Dk

/- Package disk's Rot. -/
namespace Go.Proofs.YtgjjjkokmgdmjaaDoor.Dk
open Go.RowKit Go.Maps Go.Sort Go.Shelf

def setSure (d : Dk) (i : Nat) (l : List Int) : Dk := { d with S := d.S.set i (l, none) }
def rotD (d : Dk) (i : Int) (b : List Int) : Dk := if fitE d i b.length ≠ 0 then d else setSure d i.toNat (fil b)

section
variable {w : World} {p g bm base : Nat} {d : Dk}
set_option maxHeartbeats 2000000 in
set_option maxRecDepth 100000 in
theorem rot_any (h : At w p g bm base d) (i : Int) (v : Value) (b : List Int) (hv : Bs w v b) :
    Calls Tryd.prog 15 #[.pointer (some ⟨p, 0, none⟩), .int .i64 i, v] w fun e w' => e = .returned (.int .i64 (fitE d i b.length)) ∧ At w' p g bm base (rotD d i b) ∧ Chg [p, g, bm] w w' := by
  have HV : Hid (Bs w v b) := ⟨hv⟩
  obtain ⟨ao, cp, rfl, _, _, _, _, hby⟩ := hv
  have t2 := fits_any h i ao b.length cp
  unfold rotD
  by_cases hf : fitE d i b.length = 0
  · obtain ⟨hi0, hi1, hbl⟩ := fitE_zero hf
    rw [hf] at t2
    simp only [hf, ne_eq, not_true, if_false]
    obtain ⟨j, rfl⟩ : ∃ j : Nat, i = j := ⟨i.toNat, by omega⟩
    have hj : j < d.S.length := by omega
    have e1 : (j : Int).toNat = j := rfl
    rw [e1]
    have hPg : Pg (fil b) := pg_fil hby hbl
    have t3 : Calls Tryd.prog 33 #[.slice ao b.length cp] w.drew fun e w' => e = .returned (.agg (pa (fil b))) ∧ Below w.drew.heap.size w.drew w' := filled_any _ b w.drew HV.out hbl
    obtain ⟨cap, tc, n, D, h⟩ := h
    obtain ⟨c0, c1, _⟩ := h.cells
    obtain ⟨n1, n2, n3⟩ := h.ne
    obtain ⟨l1, l2, l3⟩ := h.lt
    have HX : Hid (AtX w p g bm base cap tc n D d) := ⟨h⟩
    have hpz : (pa (fil b)).size = 128 := by rw [pa_size, hPg.1]
    clear h hby HV hf
    generalize hN : d.S.length = N at c0 hi1
    have hS0 : w.drew.cell? ⟨p, 0, none⟩ = some (.slice (some ⟨g, 0, none⟩) N cap) := c0
    generalize b.length = bl at t2 t3
    generalize fil b = fb at t3 hPg hpz
    go_enter Tryd.func15, Tryd.ntmps15
    go_wp2_with (go_at_call 32; refine t2.mono ?_; rintro e w' ⟨rfl, rfl⟩; clear t2)
    refine wp_region_held_drew (S := fun w' => w'.cell? ⟨p, 0, none⟩ = some (.slice (some ⟨g, 0, none⟩) N cap)) (by kernel_rfl) hS0 (fun hS => ?_)
    refine wpAnyH_take (i := 0) (v := .pointer (some ⟨p, 0, none⟩)) rfl (by kernel_rfl) (by kernel_rfl) (by kernel_rfl) (fun _ _ _ h => h) (Or.inl ⟨by kernel_rfl, fun _ _ => by kernel_rfl⟩) hS ?_
    refine wpAnyH_take (i := 1) (v := .pointer (some ⟨p, 0, none⟩)) rfl (by kernel_rfl) (by kernel_rfl) (by kernel_rfl) (fun _ _ _ h => h) (Or.inl ⟨by kernel_rfl, fun wx _ => by go_simp⟩) hS ?_
    refine wpAnyH_take (i := 2) (v := .pointer (some ⟨p, 0, none⟩)) rfl (by kernel_rfl) (by kernel_rfl) (by kernel_rfl) (fun _ _ _ h => h) (Or.inl ⟨by kernel_rfl, fun wx _ => by go_simp⟩) hS ?_
    refine wpAnyH_take (i := 3) (v := .slice (some ⟨g, 0, none⟩) N cap) rfl (by kernel_rfl) (by kernel_rfl) (by kernel_rfl) (fun _ _ _ h => h) (Or.inl ⟨by kernel_rfl, fun wx hx => by go_simp⟩) hS ?_
    refine wpAnyH_take (i := 4) (v := .int .i64 (j : Int)) rfl (by kernel_rfl) (by kernel_rfl) (by kernel_rfl) (fun _ _ _ h => h) (Or.inl ⟨by kernel_rfl, fun _ _ => by kernel_rfl⟩) hS ?_
    refine wpAnyH_take (i := 5) (v := .slice ao bl cp) rfl (by kernel_rfl) (by kernel_rfl) (by kernel_rfl) (fun _ _ _ h => h) (Or.inl ⟨by kernel_rfl, fun _ _ => by kernel_rfl⟩) hS ?_
    refine wpAnyH_ready (rs := [6]) (by kernel_rfl) (by simp) (AllReadyH.cons rfl (fun Kc hK => ?_) AllReadyH.nil)
    go_simp
    refine t3.mono ?_
    rintro e w1 ⟨rfl, hb1⟩
    have hX1 : AtX w1 p g bm base cap tc n D d := (HX.out.kept (w' := w.drew) rfl rfl rfl).below hb1
    have d0 : w1.cell? ⟨p, 0, none⟩ = some (.slice (some ⟨g, 0, none⟩) N cap) := (hb1.cell (p := ⟨p, 0, none⟩) l1).trans c0
    have hc1 : Chg [p, g, bm] w w1 := (Chg.refl _ w).drew.trans (Chg.ofBelow hb1)
    obtain ⟨cur, hcur⟩ := hX1.cur
    obtain ⟨hle, hX2⟩ := hX1.page hj hPg hcur
    have hst := run_storeCells_page (P := Tryd.prog) (w := w1) hcur hle
    obtain ⟨v2, Hv2⟩ : ∃ v2, Hid (v2 = w1.setRow g (cur.toList.take (j * 128) ++ pc fb ++ cur.toList.drop (j * 128 + (pc fb).length)).toArray) := ⟨_, ⟨rfl⟩⟩
    rw [← Hv2.out] at hst hX2
    have hc2 : Chg [p, g, bm] w v2 := by rw [Hv2.out]; exact hc1.setRow (.inl (by simp)) _
    have d2 : v2.cell? ⟨p, 0, none⟩ = some (.slice (some ⟨g, 0, none⟩) N cap) := by have := hX2.cells.1; simpa [hN] using this
    have d1 : v2.cell? ⟨p, 1, none⟩ = some (.map (some bm)) := hX2.cells.2.1
    obtain ⟨v3, hdel, hc3, n', D', hX3⟩ := hX2.delete (i := j) (by simpa using hj) 0
    have HR : Hid (At v3 p g bm base (setSure d j fb) ∧ Chg [p, g, bm] w v3) := ⟨by
      refine ⟨?_, hc2.trans (hc3.mono (fun x hx => .inl (by simp at hx; simp [hx])))⟩
      have := hX3.at
      have e : { d with S := (d.S.set j (fb, (sec d.S j).2)).set j ((sec (d.S.set j (fb, (sec d.S j).2)) j).1, none) } = setSure d j fb := by
        unfold setSure
        rw [sec_set hj]
        simp
      rw [← e]; exact this⟩
    have hiz : (j : Int) < (N : Int) := by omega
    refine hK.out _ _ d0 (fun hS => ?_)
    clear hK t3 hX1 hX2 hX3 hc1 hc2 hc3 hb1 hcur hle
    refine wpAnyH_take (i := 7) (v := .pointer (some ⟨g, j * 128, none⟩)) rfl (by kernel_rfl) (by kernel_rfl) (by kernel_rfl) (fun _ _ _ h => h) (Or.inl ⟨by kernel_rfl, fun wx _ => by go_simp⟩) hS ?_
    refine wpAnyH_ready (rs := [8]) (by kernel_rfl) (by simp) (AllReadyH.cons rfl (fun Kc hK => ?_) AllReadyH.nil)
    go_simp
    refine hK.out _ _ d2 (fun hS => ?_)
    clear hK
    refine wpAnyH_done (by kernel_rfl) ?_ _
    go_wp2
    go_ret
    exact ⟨rfl, HR.out⟩
  · simp only [hf, ne_eq, not_false_eq_true, if_true]
    have HA : Hid (At w p g bm base d) := ⟨h⟩
    generalize fitE d i b.length = fe at t2 hf
    clear h
    go_enter Tryd.func15, Tryd.ntmps15
    go_wp2_with (go_at_call 32; refine t2.mono ?_; rintro e w' ⟨rfl, rfl⟩; clear t2)
    go_ret
    exact ⟨rfl, HA.out, Chg.refl _ _⟩
end
end Go.Proofs.YtgjjjkokmgdmjaaDoor.Dk
