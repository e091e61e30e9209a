/- A disk as plain data: sectors, what becomes of them. -/
import Derived.WalkKit
namespace Go.Proofs.Ytmcikhdfpmkpnaa

/-- A sector: its sure bytes, and those that were written last, if it is dirty. -/
abbrev Sec := List Int × Option (List Int)
def Byt (l : List Int) : Prop := ∀ x ∈ l, 0 ≤ x ∧ x < 256
def Pg (l : List Int) : Prop := l.length = 128 ∧ Byt l
def OkS (s : Sec) : Prop := Pg s.1 ∧ ∀ l, s.2 = some l → Pg l
def zp : List Int := List.replicate 128 0
def fil (b : List Int) : List Int := b ++ List.replicate (128 - b.length) 0
def sec (S : List Sec) (i : Nat) : Sec := S.getD i (zp, none)
def dirt (S : List Sec) (i : Nat) : Bool := (sec S i).2.isSome
def dl (S : List Sec) : List Nat := (List.range S.length).filter (dirt S)
def place (S : List Sec) (i : Nat) : Nat := ((List.range i).filter (dirt S)).length

structure Cr where
  keep : List Bool
  torn : Int
  at' : Int
def outl (c : Cr) (k : Nat) (s l : List Int) : List Int :=
  if (k : Int) = c.torn ∧ 0 ≤ c.at' ∧ c.at' ≤ 128 then l.take c.at'.toNat ++ s.drop c.at'.toNat
  else if k < c.keep.length ∧ c.keep.getD k false = true then l else s
def crash1 (c : Cr) (k : Nat) (s : Sec) : Sec := match s.2 with | none => s | some l => (outl c k s.1 l, none)
def crash (c : Cr) (S : List Sec) : List Sec := (List.range S.length).map fun i => crash1 c (place S i) (sec S i)
/-- The first j dirty sectors are crashed. -/
def crashJ (c : Cr) (S : List Sec) : Nat → List Sec
  | 0 => S
  | j + 1 => (crashJ c S j).set ((dl S).getD j 0) (crash1 c j (sec S ((dl S).getD j 0)))
def now (s : Sec) : List Int := s.2.getD s.1
def flush (S : List Sec) : List Sec := S.map fun s => (now s, none)

theorem pg_zp : Pg zp := ⟨by simp [zp], fun x hx => by simp [zp] at hx; omega⟩
theorem pg_fil {b : List Int} (hb : Byt b) (hl : b.length ≤ 128) : Pg (fil b) := by
  refine ⟨by simp [fil]; omega, fun x hx => ?_⟩
  simp only [fil, List.mem_append, List.mem_replicate] at hx
  rcases hx with h | ⟨_, rfl⟩
  · exact hb x h
  · omega
theorem ok_zp : OkS (zp, none) := ⟨pg_zp, fun l h => by simp at h⟩
theorem sec_mem {S : List Sec} {i : Nat} (hi : i < S.length) : sec S i ∈ S := by simp [sec, List.getD, List.getElem?_eq_getElem hi]
theorem ok_sec {S : List Sec} (h : ∀ s ∈ S, OkS s) (i : Nat) : OkS (sec S i) := by
  by_cases hi : i < S.length
  · exact h _ (sec_mem hi)
  · simp only [sec, List.getD, List.getElem?_eq_none (Nat.le_of_not_lt hi), Option.getD_none]; exact ok_zp
theorem sec_set {S : List Sec} {i j : Nat} {x : Sec} (hi : i < S.length) : sec (S.set i x) j = if j = i then x else sec S j := by
  simp only [sec, List.getD, List.getElem?_set]
  by_cases h : j = i
  · subst h; simp [hi]
  · simp [h, Ne.symm h]
theorem sec_ext {S T : List Sec} (hl : S.length = T.length) (h : ∀ i, i < S.length → sec S i = sec T i) : S = T := by
  apply List.ext_getElem?
  intro i
  by_cases hi : i < S.length
  · have := h i hi
    simp only [sec, List.getD, List.getElem?_eq_getElem hi, List.getElem?_eq_getElem (show i < T.length by omega), Option.getD_some] at this
    rw [List.getElem?_eq_getElem hi, List.getElem?_eq_getElem (show i < T.length by omega), this]
  · rw [List.getElem?_eq_none (by omega), List.getElem?_eq_none (by omega)]

theorem place_succ (S : List Sec) (i : Nat) : place S (i + 1) = place S i + (if dirt S i then 1 else 0) := by
  simp only [place, List.range_succ, List.filter_append, List.length_append]
  congr 1
  by_cases h : dirt S i <;> simp [h]
theorem place_mono (S : List Sec) {i j : Nat} (h : i ≤ j) : place S i ≤ place S j := by
  induction j with
  | zero => rw [show i = 0 by omega]; exact Nat.le_refl _
  | succ j ih =>
    rw [place_succ]
    rcases Nat.lt_or_ge i (j + 1) with h' | h'
    · have := ih (by omega); omega
    · obtain rfl : i = j + 1 := by omega
      rw [place_succ]; omega
theorem place_lt (S : List Sec) {i j : Nat} (h : i < j) (hd : dirt S i = true) : place S i < place S j := by
  have := place_mono S (show i + 1 ≤ j by omega)
  rw [place_succ, hd] at this
  simp at this; omega
theorem filter_range_get (f : Nat → Bool) (n : Nat) : ∀ i, i < n → f i = true → ((List.range n).filter f)[((List.range i).filter f).length]? = some i := by
  induction n with
  | zero => intro i hi; omega
  | succ n ih =>
    intro i hi hf
    rw [List.range_succ, List.filter_append]
    rcases Nat.lt_or_ge i n with h | h
    · have h1 := ih i h hf
      have hl : ((List.range i).filter f).length < ((List.range n).filter f).length := by
        rcases Nat.lt_or_ge ((List.range i).filter f).length ((List.range n).filter f).length with q | q
        · exact q
        · rw [List.getElem?_eq_none q] at h1; cases h1
      rw [List.getElem?_append_left hl]; exact h1
    · obtain rfl : i = n := by omega
      rw [List.getElem?_append_right (Nat.le_refl _)]
      simp [hf]
theorem dl_place {S : List Sec} {i : Nat} (hi : i < S.length) (hd : dirt S i = true) : place S i < (dl S).length ∧ (dl S).getD (place S i) 0 = i := by
  have h := filter_range_get (dirt S) S.length i hi hd
  have hl : place S i < (dl S).length := by
    rcases Nat.lt_or_ge (place S i) (dl S).length with q | q
    · exact q
    · unfold place dl at q; rw [List.getElem?_eq_none q] at h; cases h
  exact ⟨hl, by unfold dl place; rw [List.getD, h]; rfl⟩
theorem dl_get {S : List Sec} {j : Nat} (hj : j < (dl S).length) : (dl S).getD j 0 < S.length ∧ dirt S ((dl S).getD j 0) = true ∧ place S ((dl S).getD j 0) = j := by
  have hm : (dl S).getD j 0 ∈ dl S := by simp [List.getD, List.getElem?_eq_getElem hj]
  have hm' : ∀ x, x ∈ dl S → x < S.length ∧ dirt S x = true := fun x hx => by simpa [dl] using hx
  obtain ⟨h1, h2⟩ := hm' _ hm
  refine ⟨h1, h2, ?_⟩
  obtain ⟨h3, h4⟩ := dl_place h1 h2
  have hnd : (dl S).Nodup := List.nodup_range.sublist List.filter_sublist
  have e : (dl S)[place S ((dl S).getD j 0)]'h3 = (dl S)[j]'hj := by
    have a1 : ∀ k (hk : k < (dl S).length), (dl S).getD k 0 = (dl S)[k]'hk := fun k hk => by simp [List.getD, List.getElem?_eq_getElem hk]
    rw [← a1 _ h3, h4, a1 j hj]
  exact (List.getElem_inj hnd).1 e
theorem crashJ_length (c : Cr) (S : List Sec) (j : Nat) : (crashJ c S j).length = S.length := by
  induction j with
  | zero => rfl
  | succ j ih => simp [crashJ, ih]
theorem crash_length (c : Cr) (S : List Sec) : (crash c S).length = S.length := by simp [crash]
theorem sec_crash (c : Cr) (S : List Sec) {i : Nat} (hi : i < S.length) : sec (crash c S) i = crash1 c (place S i) (sec S i) := by
  simp [sec, crash, List.getD, hi]
theorem sec_crashJ (c : Cr) (S : List Sec) (j : Nat) (hj : j ≤ (dl S).length) (i : Nat) (hi : i < S.length) : sec (crashJ c S j) i = if dirt S i = true ∧ place S i < j then crash1 c (place S i) (sec S i) else sec S i := by
  induction j with
  | zero => simp [crashJ]
  | succ j ih =>
    obtain ⟨h1, h2, h3⟩ := dl_get (show j < (dl S).length by omega)
    have hi' := ih (by omega)
    unfold crashJ
    rw [sec_set (by rw [crashJ_length]; exact h1)]
    by_cases he : i = (dl S).getD j 0
    · rw [if_pos he, ← he, if_pos ⟨by rw [he]; exact h2, by rw [he, h3]; omega⟩]
      rw [← he] at h3
      rw [h3]
    · rw [if_neg he, hi']
      by_cases hd : dirt S i = true
      · have hp : place S i ≠ j := fun e => he (by rw [← e]; exact (dl_place hi hd).2.symm)
        by_cases hq : place S i < j
        · rw [if_pos ⟨hd, hq⟩, if_pos ⟨hd, by omega⟩]
        · rw [if_neg (by omega), if_neg (by omega)]
      · rw [if_neg (by simp [hd]), if_neg (by simp [hd])]
theorem crash1_clean {c : Cr} {k : Nat} {s : Sec} (h : s.2.isSome = false) : crash1 c k s = s := by
  unfold crash1
  cases hs : s.2 with
  | none => rfl
  | some l => rw [hs] at h; simp at h
theorem crashJ_all (c : Cr) (S : List Sec) : crashJ c S (dl S).length = crash c S := by
  refine sec_ext (by rw [crashJ_length, crash_length]) fun i hi => ?_
  rw [crashJ_length] at hi
  rw [sec_crashJ c S _ (Nat.le_refl _) i hi, sec_crash c S hi]
  by_cases hd : dirt S i = true
  · rw [if_pos ⟨hd, (dl_place hi hd).1⟩]
  · rw [if_neg (by simp [hd])]
    exact (crash1_clean (by unfold dirt at hd; simpa using hd)).symm
theorem pg_outl {c : Cr} {k : Nat} {s l : List Int} (hs : Pg s) (hl : Pg l) : Pg (outl c k s l) := by
  unfold outl
  split
  · rename_i h
    refine ⟨?_, fun x hx => ?_⟩
    · have := hs.1; have := hl.1; simp; omega
    · rcases List.mem_append.1 hx with h | h
      · exact hl.2 x (List.mem_of_mem_take h)
      · exact hs.2 x (List.mem_of_mem_drop h)
  · split
    · exact hl
    · exact hs
theorem ok_crash1 {c : Cr} {k : Nat} {s : Sec} (h : OkS s) : OkS (crash1 c k s) := by
  unfold crash1
  cases hs : s.2 with
  | none => exact h
  | some l => exact ⟨pg_outl h.1 (h.2 l hs), fun m hm => by simp at hm⟩
theorem clean1 {c : Cr} {k : Nat} {s : Sec} : (crash1 c k s).2 = none := by
  unfold crash1
  cases hs : s.2 with
  | none => exact hs
  | some l => rfl
theorem ok_crash {c : Cr} {S : List Sec} (h : ∀ s ∈ S, OkS s) : ∀ s ∈ crash c S, OkS s := by
  intro s hs
  simp only [crash, List.mem_map] at hs
  obtain ⟨i, _, rfl⟩ := hs
  exact ok_crash1 (ok_sec h i)
theorem pg_now {s : Sec} (h : OkS s) : Pg (now s) := by
  unfold now
  cases hs : s.2 with
  | none => exact h.1
  | some l => exact h.2 l hs
theorem ok_flush {S : List Sec} (h : ∀ s ∈ S, OkS s) : ∀ s ∈ flush S, OkS s := by
  intro s hs
  simp only [flush, List.mem_map] at hs
  obtain ⟨t, ht, rfl⟩ := hs
  exact ⟨pg_now (h t ht), fun l hl => by simp at hl⟩
theorem ok_set {S : List Sec} (h : ∀ s ∈ S, OkS s) {i : Nat} {x : Sec} (hx : OkS x) : ∀ s ∈ S.set i x, OkS s := by
  intro s hs
  rcases List.mem_or_eq_of_mem_set hs with h' | rfl
  · exact h s h'
  · exact hx
theorem sec_flush {S : List Sec} {i : Nat} (hi : i < S.length) : sec (flush S) i = (now (sec S i), none) := by
  simp [sec, flush, List.getD, hi]
theorem dl_nil_of {S : List Sec} (h : ∀ i, i < S.length → dirt S i = false) : dl S = [] := by
  unfold dl
  rw [List.filter_eq_nil_iff]
  intro i hi
  rw [h i (List.mem_range.1 hi)]
  simp
theorem dl_flush (S : List Sec) : dl (flush S) = [] := dl_nil_of fun i hi => by
  have : i < S.length := by simpa [flush] using hi
  unfold dirt; rw [sec_flush this]; rfl
theorem dl_crash (c : Cr) (S : List Sec) : dl (crash c S) = [] := dl_nil_of fun i hi => by
  rw [crash_length] at hi
  unfold dirt; rw [sec_crash c S hi, clean1]; rfl
end Go.Proofs.Ytmcikhdfpmkpnaa
