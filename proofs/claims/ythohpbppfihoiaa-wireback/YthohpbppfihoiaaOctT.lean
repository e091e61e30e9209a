/- A text's bytes taken: octet.fresh, octet.TakeText, the document's TakeText. -/
import Derived.Test.YthohpbppfihoiaaOctN
namespace Go.Proofs.Ythohpbppfihoiaa.Oct
open Go.RowKit

theorem fresh_any (v : Value) (bs : List Int) (w : World) (hv : Bs w v bs) (hl : bs.length ≤ 140737488355328) :
    Calls Try.prog 58 #[v] w fun e w' => ∃ v', e = .returned v' ∧ OwnB w' w.heap.size 5 v' bs ∧ Below w.heap.size w w' := by
  go_enter Try.func58, Try.ntmps58
  go_wp2_with (at_builtin; refine wp_appS Try.bt rfl _ _ rfl rfl (OwnB.nil _ w.heap.size 5) rfl hv (by simpa using hl) (Nat.le_refl _) ?_)
  intro v' w1 hown hb
  go_wp2
  go_ret
  exact ⟨_, rfl, hown, hb⟩

/-- A piece of a slice. -/
theorem Bs_piece (w : World) (b off L n f : Nat) (bs : List Int) (hL : bs.length = L) (h2 : n + f ≤ L) (hm : L ≤ maxLen)
    (hc : ∀ i, i < L → w.cell? ⟨b, off + i, none⟩ = some (.int .u8 (bs.getD i 0))) : Bs w (.slice (some ⟨b, off + f, none⟩) n n) ((bs.drop f).take n) := by
  have hlen : ((bs.drop f).take n).length = n := by simp; omega
  refine ⟨some ⟨b, off + f, none⟩, n, by rw [hlen], by omega, by omega, by simp, fun x hx i hi => ?_⟩
  cases hx
  rw [add_plain, Nat.add_assoc, hc (f + i) (by omega)]
  simp only [List.getD_eq_getElem?_getD, List.getElem?_take, List.getElem?_drop]
  rw [if_pos (by omega)]

set_option maxHeartbeats 1000000 in
set_option maxRecDepth 1000000 in
theorem tt_ok (b off L cap n f : Nat) (bs : List Int) (i most : Int) (w : World) (hL : bs.length = L) (hl : L ≤ cap) (hm : cap ≤ maxLen)
    (hc : ∀ i, i < L → w.cell? ⟨b, off + i, none⟩ = some (.int .u8 (bs.getD i 0)))
    (hT : Calls Try.prog 54 #[.slice (some ⟨b, off, none⟩) L cap, .int .i64 i] w fun e w' => e = .returned (.tuple #[.int .i64 n, .int .i64 f, .int .i64 0]) ∧ w = w')
    (h1 : (n : Int) ≤ most) (h2 : n + f ≤ L) (hn : L ≤ 140737488355328) :
    Calls Try.prog 56 #[.slice (some ⟨b, off, none⟩) L cap, .int .i64 i, .int .i64 most] w fun e w' => ∃ v', e = .returned (.tuple #[v', .int .i64 (f + n), .int .i64 0]) ∧ OwnB w' w.heap.size 5 v' ((bs.drop f).take n) ∧ Below w.heap.size w w' := by
  have hpc := Bs_piece w b off L n f bs hL h2 (by omega) hc
  have hlen : ((bs.drop f).take n).length = n := by simp; omega
  unfold maxLen at hm
  have HP : Hid _ := hpc
  have HL : Hid (((bs.drop f).take n).length = n) := hlen
  have HT : Hid (_) := hT
  clear hT hpc hlen hc
  by_cases hz : n = 0
  · subst hz
    go_enter Try.func56, Try.ntmps56
    go_wp2_with fail
    refine Calls.mono HT.out ?_
    rintro e w' ⟨rfl, rfl⟩
    go_wp2_with fail
    refine (fresh_any _ [] _ ⟨_, 0, rfl, Nat.le_refl _, Nat.zero_le _, by simp, fun x _ i hi => by simp at hi⟩ (by simp)).mono ?_
    rintro e w' ⟨v', rfl, hown, hb⟩
    go_wp2
    go_ret3
    exact ⟨_, rfl, by simpa using hown, hb⟩
  · go_enter Try.func56, Try.ntmps56
    go_wp2_with fail
    refine Calls.mono HT.out ?_
    rintro e w' ⟨rfl, rfl⟩
    go_wp2_with fail
    refine (fresh_any _ _ _ HP (by rw [HL.out]; omega)).mono ?_
    rintro e w' ⟨v', rfl, hown, hb⟩
    go_wp2
    go_ret3
    exact ⟨_, rfl, hown, hb⟩

set_option maxHeartbeats 1000000 in
set_option maxRecDepth 1000000 in
theorem tt_err (a : Option Addr) (L cap : Nat) (i most n f r : Int) (w : World)
    (hT : Calls Try.prog 54 #[.slice a L cap, .int .i64 i] w fun e w' => e = .returned (.tuple #[.int .i64 n, .int .i64 f, .int .i64 r]) ∧ w = w')
    (hr : r ≠ 0) :
    Calls Try.prog 56 #[.slice a L cap, .int .i64 i, .int .i64 most] w fun e w' => e = .returned (.tuple #[.slice none 0 0, .int .i64 0, .int .i64 r]) ∧ w = w' := by
  have HT : Hid (_) := hT
  clear hT
  have hr' : (r != 0) = true := by simpa using hr
  go_enter Try.func56, Try.ntmps56
  go_wp2_with fail
  refine Calls.mono HT.out ?_
  rintro e w' ⟨rfl, rfl⟩
  go_wp2
  go_ret3
  exact ⟨rfl, rfl⟩

set_option maxHeartbeats 1000000 in
set_option maxRecDepth 1000000 in
theorem tt_lim (a : Option Addr) (L cap : Nat) (i most n f : Int) (w : World)
    (hT : Calls Try.prog 54 #[.slice a L cap, .int .i64 i] w fun e w' => e = .returned (.tuple #[.int .i64 n, .int .i64 f, .int .i64 0]) ∧ w = w')
    (hr : most < n) :
    Calls Try.prog 56 #[.slice a L cap, .int .i64 i, .int .i64 most] w fun e w' => e = .returned (.tuple #[.slice none 0 0, .int .i64 0, .int .i64 6]) ∧ w = w' := by
  have HT : Hid (_) := hT
  clear hT
  go_enter Try.func56, Try.ntmps56
  go_wp2_with fail
  refine Calls.mono HT.out ?_
  rintro e w' ⟨rfl, rfl⟩
  go_wp2
  go_ret3
  exact ⟨rfl, rfl⟩

set_option maxHeartbeats 1000000 in
set_option maxRecDepth 1000000 in
theorem tt_short (a : Option Addr) (L cap : Nat) (i most n f : Int) (w : World) (hL : L ≤ 140737488355328)
    (hT : Calls Try.prog 54 #[.slice a L cap, .int .i64 i] w fun e w' => e = .returned (.tuple #[.int .i64 n, .int .i64 f, .int .i64 0]) ∧ w = w')
    (hr : n ≤ most) (hf0 : 0 ≤ f) (hf : f ≤ L) (h2 : (L : Int) - f < n) :
    Calls Try.prog 56 #[.slice a L cap, .int .i64 i, .int .i64 most] w fun e w' => e = .returned (.tuple #[.slice none 0 0, .int .i64 0, .int .i64 3]) ∧ w = w' := by
  have HT : Hid (_) := hT
  clear hT
  go_enter Try.func56, Try.ntmps56
  go_wp2_with fail
  refine Calls.mono HT.out ?_
  rintro e w' ⟨rfl, rfl⟩
  go_wp2
  go_ret3
  exact ⟨rfl, rfl⟩

/-- TakeText, at every slice, place and bound. -/
theorem takeText_any (v : Value) (bs : List Int) (i most : Int) (w : World) (hv : Bs w v bs) (hby : ∀ x ∈ bs, 0 ≤ x ∧ x < 256) (hl : bs.length ≤ 140737488355328) :
    Calls Try.prog 56 #[v, .int .i64 i, .int .i64 most] w fun e w' => ∃ v', e = .returned (.tuple #[v', .int .i64 (tkText bs i most).2.1, .int .i64 (tkText bs i most).2.2]) ∧ OwnB w' w.heap.size 5 v' (tkText bs i most).1 ∧ Below w.heap.size w w' := by
  have hT := takeNum_any v bs i w hv hby
  have hok := tkNum_ok bs i hby
  unfold tkText
  by_cases h0 : (tkNum bs i).2.2 ≠ 0
  · rw [if_pos h0]
    obtain ⟨a, cap, rfl, _⟩ := hv
    refine (tt_err a bs.length cap i most _ _ _ w hT h0).mono ?_
    rintro e w' ⟨rfl, rfl⟩
    exact ⟨_, rfl, OwnB.nil _ _ _, Below.refl _ _⟩
  · rw [if_neg h0]
    have hz : (tkNum bs i).2.2 = 0 := by omega
    obtain ⟨g1, g2, g3, g4, g5⟩ := hok hz
    rw [hz] at hT
    by_cases h1 : most < (tkNum bs i).1
    · rw [if_pos h1]
      obtain ⟨a, cap, rfl, _⟩ := hv
      refine (tt_lim a bs.length cap i most _ _ w hT h1).mono ?_
      rintro e w' ⟨rfl, rfl⟩
      exact ⟨_, rfl, OwnB.nil _ _ _, Below.refl _ _⟩
    · rw [if_neg h1]
      by_cases h2 : (bs.length : Int) - (tkNum bs i).2.1 < (tkNum bs i).1
      · rw [if_pos h2]
        obtain ⟨a, cap, rfl, _⟩ := hv
        refine (tt_short a bs.length cap i most _ _ w hl hT (by omega) (by omega) (by omega) h2).mono ?_
        rintro e w' ⟨rfl, rfl⟩
        exact ⟨_, rfl, OwnB.nil _ _ _, Below.refl _ _⟩
      · rw [if_neg h2]
        rcases hv.cases with ⟨rfl, _⟩ | ⟨hb, b, off, cap, rfl, hlc, hm, _, hc⟩
        · simp at g5; omega
        · obtain ⟨n, en⟩ := Int.eq_ofNat_of_zero_le g2
          obtain ⟨f, ef⟩ := Int.eq_ofNat_of_zero_le (show 0 ≤ (tkNum bs i).2.1 by omega)
          rw [en, ef] at hT
          rw [en] at h1 h2 g3
          rw [ef] at h2 g4 g5
          rw [en, ef]
          exact tt_ok b off bs.length cap n f bs i most w rfl hlc hm hc hT (by omega) (by omega) hl

set_option maxHeartbeats 1000000 in
set_option maxRecDepth 1000000 in
theorem rtt_err (a : Option Addr) (L cap : Nat) (i most n f r : Int) (w : World)
    (hT : Calls Try.prog 33 #[.slice a L cap, .int .i64 i] w fun e w' => e = .returned (.tuple #[.int .i64 n, .int .i64 f, .int .i64 r]) ∧ w = w')
    (hr : r ≠ 0) :
    Calls Try.prog 34 #[.slice a L cap, .int .i64 i, .int .i64 most] w fun e w' => e = .returned (.tuple #[.slice none 0 0, .int .i64 0, .int .i64 r]) ∧ w = w' := by
  have HT : Hid (_) := hT
  clear hT
  have hr' : (r != 0) = true := by simpa using hr
  go_enter Try.func34, Try.ntmps34
  go_wp2_with fail
  refine Calls.mono HT.out ?_
  rintro e w' ⟨rfl, rfl⟩
  go_wp2
  go_ret3
  exact ⟨rfl, rfl⟩

set_option maxHeartbeats 1000000 in
set_option maxRecDepth 1000000 in
theorem rtt_lim (a : Option Addr) (L cap : Nat) (i most n f : Int) (w : World)
    (hT : Calls Try.prog 33 #[.slice a L cap, .int .i64 i] w fun e w' => e = .returned (.tuple #[.int .i64 n, .int .i64 f, .int .i64 0]) ∧ w = w')
    (hr : most < n) :
    Calls Try.prog 34 #[.slice a L cap, .int .i64 i, .int .i64 most] w fun e w' => e = .returned (.tuple #[.slice none 0 0, .int .i64 0, .int .i64 6]) ∧ w = w' := by
  have HT : Hid (_) := hT
  clear hT
  go_enter Try.func34, Try.ntmps34
  go_wp2_with fail
  refine Calls.mono HT.out ?_
  rintro e w' ⟨rfl, rfl⟩
  go_wp2
  go_ret3
  exact ⟨rfl, rfl⟩

set_option maxHeartbeats 1000000 in
set_option maxRecDepth 1000000 in
theorem rtt_short (a : Option Addr) (L cap : Nat) (i most n f : Int) (w : World) (hL : L ≤ 140737488355328)
    (hT : Calls Try.prog 33 #[.slice a L cap, .int .i64 i] w fun e w' => e = .returned (.tuple #[.int .i64 n, .int .i64 f, .int .i64 0]) ∧ w = w')
    (hr : n ≤ most) (hf0 : 0 ≤ f) (hf : f ≤ L) (h2 : (L : Int) - f < n) :
    Calls Try.prog 34 #[.slice a L cap, .int .i64 i, .int .i64 most] w fun e w' => e = .returned (.tuple #[.slice none 0 0, .int .i64 0, .int .i64 3]) ∧ w = w' := by
  have HT : Hid (_) := hT
  clear hT
  go_enter Try.func34, Try.ntmps34
  go_wp2_with fail
  refine Calls.mono HT.out ?_
  rintro e w' ⟨rfl, rfl⟩
  go_wp2
  go_ret3
  exact ⟨rfl, rfl⟩

/-- A piece of a slice, whatever room is behind it. -/
theorem Bs_piece' (w : World) (b off L n f c : Nat) (bs : List Int) (hL : bs.length = L) (h2 : n + f ≤ L) (hc' : n ≤ c) (hm : c ≤ maxLen)
    (hc : ∀ i, i < L → w.cell? ⟨b, off + i, none⟩ = some (.int .u8 (bs.getD i 0))) : Bs w (.slice (some ⟨b, off + f, none⟩) n c) ((bs.drop f).take n) := by
  have hlen : ((bs.drop f).take n).length = n := by simp; omega
  refine ⟨some ⟨b, off + f, none⟩, c, by rw [hlen], by omega, by omega, by simp, fun x hx i hi => ?_⟩
  cases hx
  rw [add_plain, Nat.add_assoc, hc (f + i) (by omega)]
  simp only [List.getD_eq_getElem?_getD, List.getElem?_take, List.getElem?_drop]
  rw [if_pos (by omega)]

set_option maxHeartbeats 1000000 in
set_option maxRecDepth 1000000 in
theorem rtt_ok (b off L cap n f : Nat) (bs : List Int) (i most : Int) (w : World) (hL : bs.length = L) (hl : L ≤ cap) (hm : cap ≤ maxLen)
    (hc : ∀ i, i < L → w.cell? ⟨b, off + i, none⟩ = some (.int .u8 (bs.getD i 0)))
    (hT : Calls Try.prog 33 #[.slice (some ⟨b, off, none⟩) L cap, .int .i64 i] w fun e w' => e = .returned (.tuple #[.int .i64 n, .int .i64 f, .int .i64 0]) ∧ w = w')
    (h1 : (n : Int) ≤ most) (h2 : n + f ≤ L) (hn : L ≤ 140737488355328) :
    Calls Try.prog 34 #[.slice (some ⟨b, off, none⟩) L cap, .int .i64 i, .int .i64 most] w fun e w' => ∃ v', e = .returned (.tuple #[v', .int .i64 (f + n), .int .i64 0]) ∧ OwnB w' w.heap.size 5 v' ((bs.drop f).take n) ∧ Below w.heap.size w w' := by
  have hpc := Bs_piece' w b off L n f (cap - f) bs hL h2 (by omega) (by omega) hc
  have hlen : ((bs.drop f).take n).length = n := by simp; omega
  unfold maxLen at hm
  have ho : OwnB (w.alloc (.cells #[] 5)) w.heap.size 5 (.slice (some ⟨w.heap.size, 0, none⟩) 0 0) [] := own_lit w 5 w.heap.size [] #[] rfl (Nat.le_refl _) (Nat.zero_le _)
  generalize (bs.drop f).take n = ys at hpc hlen ⊢
  have HP : Hid (Bs w (.slice (some ⟨b, off + f, none⟩) (f + n - f) (cap - f)) ys) := by rw [Nat.add_sub_cancel_left]; exact hpc
  have hyl : ys.length ≤ n := by omega
  have HT : Hid (_) := hT
  clear hT hpc hc
  by_cases hcf : cap - f = 0
  · have hz : n = 0 := by omega
    subst hz
    have hys : ys = [] := List.length_eq_zero_iff.1 hlen
    subst hys
    clear hlen hyl
    go_enter Try.func34, Try.ntmps34
    go_wp2_with fail
    refine Calls.mono HT.out ?_
    rintro e w' ⟨rfl, rfl⟩
    go_wp2_with (at_builtin; refine wp_appS (ys := []) Try.bt rfl (.tmp 31) (.tmp 37) rfl rfl ho rfl ⟨_, _, rfl, Nat.le_refl _, Nat.zero_le _, by simp, fun x _ i hi => by simp at hi⟩ (by simp) (by simp) ?_)
    intro v' w1 hown hb
    go_wp2
    go_ret3
    exact ⟨_, rfl, by simpa using hown, ((Below.refl _ w).alloc (Nat.le_refl _) _).trans hb⟩
  · clear hlen
    go_enter Try.func34, Try.ntmps34
    go_wp2_with fail
    refine Calls.mono HT.out ?_
    rintro e w' ⟨rfl, rfl⟩
    go_wp2_with (at_builtin; refine wp_appS (ys := ys) (xs := []) Try.bt rfl (.tmp 31) (.tmp 37) rfl rfl ho rfl (Bs.alloc HP.out _) (by simp only [List.length_nil]; omega) (by simp) ?_)
    intro v' w1 hown hb
    go_wp2
    go_ret3
    exact ⟨_, rfl, by simpa using hown, ((Below.refl _ w).alloc (Nat.le_refl _) _).trans hb⟩

/-- The document's TakeText, at every slice, place and bound. -/
theorem rtakeText_any (v : Value) (bs : List Int) (i most : Int) (w : World) (hv : Bs w v bs) (hby : ∀ x ∈ bs, 0 ≤ x ∧ x < 256) (hl : bs.length ≤ 140737488355328) :
    Calls Try.prog 34 #[v, .int .i64 i, .int .i64 most] w fun e w' => ∃ v', e = .returned (.tuple #[v', .int .i64 (tkText bs i most).2.1, .int .i64 (tkText bs i most).2.2]) ∧ OwnB w' w.heap.size 5 v' (tkText bs i most).1 ∧ Below w.heap.size w w' := by
  have hT := rtakeNum_any v bs i w hv hby
  have hok := tkNum_ok bs i hby
  unfold tkText
  by_cases h0 : (tkNum bs i).2.2 ≠ 0
  · rw [if_pos h0]
    obtain ⟨a, cap, rfl, _⟩ := hv
    refine (rtt_err a bs.length cap i most _ _ _ w hT h0).mono ?_
    rintro e w' ⟨rfl, rfl⟩
    exact ⟨_, rfl, OwnB.nil _ _ _, Below.refl _ _⟩
  · rw [if_neg h0]
    have hz : (tkNum bs i).2.2 = 0 := by omega
    obtain ⟨g1, g2, g3, g4, g5⟩ := hok hz
    rw [hz] at hT
    by_cases h1 : most < (tkNum bs i).1
    · rw [if_pos h1]
      obtain ⟨a, cap, rfl, _⟩ := hv
      refine (rtt_lim a bs.length cap i most _ _ w hT h1).mono ?_
      rintro e w' ⟨rfl, rfl⟩
      exact ⟨_, rfl, OwnB.nil _ _ _, Below.refl _ _⟩
    · rw [if_neg h1]
      by_cases h2 : (bs.length : Int) - (tkNum bs i).2.1 < (tkNum bs i).1
      · rw [if_pos h2]
        obtain ⟨a, cap, rfl, _⟩ := hv
        refine (rtt_short a bs.length cap i most _ _ w hl hT (by omega) (by omega) (by omega) h2).mono ?_
        rintro e w' ⟨rfl, rfl⟩
        exact ⟨_, rfl, OwnB.nil _ _ _, Below.refl _ _⟩
      · rw [if_neg h2]
        rcases hv.cases with ⟨rfl, _⟩ | ⟨hb, b, off, cap, rfl, hlc, hm, _, hc⟩
        · simp at g5; omega
        · obtain ⟨n, en⟩ := Int.eq_ofNat_of_zero_le g2
          obtain ⟨f, ef⟩ := Int.eq_ofNat_of_zero_le (show 0 ≤ (tkNum bs i).2.1 by omega)
          rw [en, ef] at hT
          rw [en] at h1 h2 g3
          rw [ef] at h2 g4 g5
          rw [en, ef]
          exact rtt_ok b off bs.length cap n f bs i most w rfl hlc hm hc hT (by omega) (by omega) hl
end Go.Proofs.Ythohpbppfihoiaa.Oct
