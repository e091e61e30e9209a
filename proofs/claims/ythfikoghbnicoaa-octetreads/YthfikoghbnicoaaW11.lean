/- Contracts of both Text, and of the document's TakeText. -/
import Derived.Test.YthfikoghbnicoaaW10
namespace Go.Proofs.Ythfikoghbnicoaa
open Go.RowKit

theorem text_lim (a : Option Addr) (L cap : Nat) (most : Int) (w : World) (h : most < L) :
    Calls Try.prog 18 #[.slice a L cap, .int .i64 most] w fun e w' => e = .returned (.tuple #[.slice none 0 0, .int .i64 6]) ∧ w = w' := by
  go_enter Try.func18, Try.ntmps18
  go_wp2
  go_ret2
  exact ⟨rfl, rfl⟩

theorem rtext_lim (a : Option Addr) (L cap : Nat) (most : Int) (w : World) (h : most < L) :
    Calls Try.prog 19 #[.slice a L cap, .int .i64 most] w fun e w' => e = .returned (.tuple #[.slice none 0 0, .int .i64 6]) ∧ w = w' := by
  go_enter Try.func19, Try.ntmps19
  go_wp2
  go_ret2
  exact ⟨rfl, rfl⟩

set_option maxHeartbeats 1000000 in
set_option maxRecDepth 1000000 in
theorem text_ok (a : Option Addr) (cap : Nat) (ps : List Int) (most : Int) (w : World) (hv : Bs w (.slice a ps.length cap) ps) (hl : ps.length ≤ 140737488351232) (h : (ps.length : Int) ≤ most) :
    Calls Try.prog 18 #[.slice a ps.length cap, .int .i64 most] w fun e w' => ∃ v, e = .returned (.tuple #[v, .int .i64 0]) ∧ OwnB w' w.heap.size 5 v (numB ps.length ++ ps) ∧ Below w.heap.size w w' := by
  have hn8 := numB_len8 ps.length (by omega)
  have HN : Hid _ := hn8
  clear hn8
  go_enter Try.func18, Try.ntmps18
  go_wp2_with fail
  refine (num_good ps.length w (by omega)).mono ?_
  rintro e w1 ⟨v1, rfl, hown1, hb1⟩
  have z1 := hb1.size
  go_wp2_with (at_builtin; refine wp_appS Try.bt rfl (.tmp 21) (.tmp 22) rfl rfl hown1 rfl (hv.below hb1) (by have := HN.out; omega) z1 ?_)
  intro v2 w2 hown2 hb2
  go_wp2
  go_ret2
  exact ⟨_, rfl, hown2, hb1.trans hb2⟩

set_option maxHeartbeats 1000000 in
set_option maxRecDepth 1000000 in
theorem rtext_fits (a : Option Addr) (cap : Nat) (ps : List Int) (most : Int) (w : World) (hv : Bs w (.slice a ps.length cap) ps) (hl : ps.length ≤ 140737488351232) (h : (ps.length : Int) ≤ most) :
    Calls Try.prog 19 #[.slice a ps.length cap, .int .i64 most] w fun e w' => ∃ v, e = .returned (.tuple #[v, .int .i64 0]) ∧ OwnB w' w.heap.size 5 v (numB ps.length ++ ps) ∧ Below w.heap.size w w' := by
  have hn8 := numB_len8 ps.length (by omega)
  have HN : Hid _ := hn8
  clear hn8
  go_enter Try.func19, Try.ntmps19
  go_wp2_with fail
  refine (rnum_good ps.length w (by omega)).mono ?_
  rintro e w1 ⟨v1, rfl, hown1, hb1⟩
  have z1 := hb1.size
  go_wp2_with (at_builtin; refine wp_appS Try.bt rfl (.tmp 18) (.tmp 19) rfl rfl hown1 rfl (hv.below hb1) (by have := HN.out; omega) z1 ?_)
  intro v2 w2 hown2 hb2
  go_wp2
  go_ret2
  exact ⟨_, rfl, hown2, hb1.trans hb2⟩

/-- Both Text, at every text and bound. -/
theorem text_any (ps : List Int) (most : Int) (hl : ps.length ≤ 140737488351232) : ∃ (bs : List Int) (r : Int),
    (∀ v w, Bs w v ps → Calls Try.prog 18 #[v, .int .i64 most] w fun e w' => ∃ v', e = .returned (.tuple #[v', .int .i64 r]) ∧ OwnB w' w.heap.size 5 v' bs ∧ Below w.heap.size w w') ∧
    (∀ v w, Bs w v ps → Calls Try.prog 19 #[v, .int .i64 most] w fun e w' => ∃ v', e = .returned (.tuple #[v', .int .i64 r]) ∧ OwnB w' w.heap.size 5 v' bs ∧ Below w.heap.size w w') ∧
    ((r = 6 ∧ bs = []) ∨ (r = 0 ∧ (ps.length : Int) ≤ most ∧ bs = numB ps.length ++ ps)) := by
  by_cases h : most < ps.length
  · refine ⟨[], 6, fun v w hv => ?_, fun v w hv => ?_, .inl ⟨rfl, rfl⟩⟩
    · obtain ⟨a, cap, rfl, _⟩ := hv
      refine (text_lim a ps.length cap most w h).mono ?_
      rintro e w' ⟨rfl, rfl⟩
      exact ⟨_, rfl, OwnB.nil _ _ _, Below.refl _ _⟩
    · obtain ⟨a, cap, rfl, _⟩ := hv
      refine (rtext_lim a ps.length cap most w h).mono ?_
      rintro e w' ⟨rfl, rfl⟩
      exact ⟨_, rfl, OwnB.nil _ _ _, Below.refl _ _⟩
  · refine ⟨numB ps.length ++ ps, 0, fun v w hv => ?_, fun v w hv => ?_, .inr ⟨rfl, by omega, rfl⟩⟩
    · obtain ⟨a, cap, rfl, h'⟩ := hv
      exact text_ok a cap ps most w ⟨a, cap, rfl, h'⟩ hl (by omega)
    · obtain ⟨a, cap, rfl, h'⟩ := hv
      exact rtext_fits a cap ps most w ⟨a, cap, rfl, h'⟩ hl (by omega)

set_option maxHeartbeats 1000000 in
set_option maxRecDepth 1000000 in
theorem rtt_err (a : Option Addr) (L cap : Nat) (i most n f r : Int) (w : World)
    (hT : Calls Try.prog 12 #[.slice a L cap, .int .i64 i] w fun e w' => e = .returned (.tuple #[.int .i64 n, .int .i64 f, .int .i64 r]) ∧ w = w')
    (hr : r ≠ 0) :
    Calls Try.prog 21 #[.slice a L cap, .int .i64 i, .int .i64 most] w fun e w' => e = .returned (.tuple #[.slice none 0 0, .int .i64 0, .int .i64 r]) ∧ w = w' := by
  have HT : Hid (_) := hT
  clear hT
  have hr' : (r != 0) = true := by simpa using hr
  go_enter Try.func21, Try.ntmps21
  go_wp2_with fail
  refine Calls.mono HT.out ?_
  rintro e w' ⟨rfl, rfl⟩
  go_wp2
  go_ret3
  exact ⟨rfl, rfl⟩

set_option maxHeartbeats 1000000 in
set_option maxRecDepth 1000000 in
theorem rtt_lim (a : Option Addr) (L cap : Nat) (i most n f : Int) (w : World)
    (hT : Calls Try.prog 12 #[.slice a L cap, .int .i64 i] w fun e w' => e = .returned (.tuple #[.int .i64 n, .int .i64 f, .int .i64 0]) ∧ w = w')
    (hr : most < n) :
    Calls Try.prog 21 #[.slice a L cap, .int .i64 i, .int .i64 most] w fun e w' => e = .returned (.tuple #[.slice none 0 0, .int .i64 0, .int .i64 6]) ∧ w = w' := by
  have HT : Hid (_) := hT
  clear hT
  go_enter Try.func21, Try.ntmps21
  go_wp2_with fail
  refine Calls.mono HT.out ?_
  rintro e w' ⟨rfl, rfl⟩
  go_wp2
  go_ret3
  exact ⟨rfl, rfl⟩

set_option maxHeartbeats 1000000 in
set_option maxRecDepth 1000000 in
theorem rtt_short (a : Option Addr) (L cap : Nat) (i most n f : Int) (w : World) (hL : L ≤ 140737488355328)
    (hT : Calls Try.prog 12 #[.slice a L cap, .int .i64 i] w fun e w' => e = .returned (.tuple #[.int .i64 n, .int .i64 f, .int .i64 0]) ∧ w = w')
    (hr : n ≤ most) (hf0 : 0 ≤ f) (hf : f ≤ L) (h2 : (L : Int) - f < n) :
    Calls Try.prog 21 #[.slice a L cap, .int .i64 i, .int .i64 most] w fun e w' => e = .returned (.tuple #[.slice none 0 0, .int .i64 0, .int .i64 3]) ∧ w = w' := by
  have HT : Hid (_) := hT
  clear hT
  go_enter Try.func21, Try.ntmps21
  go_wp2_with fail
  refine Calls.mono HT.out ?_
  rintro e w' ⟨rfl, rfl⟩
  go_wp2
  go_ret3
  exact ⟨rfl, rfl⟩

/-- A piece of a slice, whatever room is behind it. -/
theorem Bs_piece' (w : World) (b off L n f c : Nat) (bs : List Int) (hL : bs.length = L) (h2 : n + f ≤ L) (hc' : n ≤ c) (hm : c ≤ maxLen)
    (hc : ∀ i, i < L → w.cell? ⟨b, off + i, none⟩ = some (.int .u8 (bs.getD i 0))) : Bs w (.slice (some ⟨b, off + f, none⟩) n c) ((bs.drop f).take n) := by
  have hlen : ((bs.drop f).take n).length = n := by simp; omega
  refine ⟨some ⟨b, off + f, none⟩, c, by rw [hlen], by omega, by omega, by simp, fun x hx i hi => ?_⟩
  cases hx
  rw [add_plain, Nat.add_assoc, hc (f + i) (by omega)]
  simp only [List.getD_eq_getElem?_getD, List.getElem?_take, List.getElem?_drop]
  rw [if_pos (by omega)]

set_option maxHeartbeats 1000000 in
set_option maxRecDepth 1000000 in
theorem rtt_ok (b off L cap n f : Nat) (bs : List Int) (i most : Int) (w : World) (hL : bs.length = L) (hl : L ≤ cap) (hm : cap ≤ maxLen)
    (hc : ∀ i, i < L → w.cell? ⟨b, off + i, none⟩ = some (.int .u8 (bs.getD i 0)))
    (hT : Calls Try.prog 12 #[.slice (some ⟨b, off, none⟩) L cap, .int .i64 i] w fun e w' => e = .returned (.tuple #[.int .i64 n, .int .i64 f, .int .i64 0]) ∧ w = w')
    (h1 : (n : Int) ≤ most) (h2 : n + f ≤ L) (hn : L ≤ 140737488355328) :
    Calls Try.prog 21 #[.slice (some ⟨b, off, none⟩) L cap, .int .i64 i, .int .i64 most] w fun e w' => ∃ v', e = .returned (.tuple #[v', .int .i64 (f + n), .int .i64 0]) ∧ OwnB w' w.heap.size 5 v' ((bs.drop f).take n) ∧ Below w.heap.size w w' := by
  have hpc := Bs_piece' w b off L n f (cap - f) bs hL h2 (by omega) (by omega) hc
  have hlen : ((bs.drop f).take n).length = n := by simp; omega
  unfold maxLen at hm
  have ho : OwnB (w.alloc (.cells #[] 5)) w.heap.size 5 (.slice (some ⟨w.heap.size, 0, none⟩) 0 0) [] := own_lit w 5 w.heap.size [] #[] rfl (Nat.le_refl _) (Nat.zero_le _)
  generalize (bs.drop f).take n = ys at hpc hlen ⊢
  have HP : Hid (Bs w (.slice (some ⟨b, off + f, none⟩) (f + n - f) (cap - f)) ys) := by rw [Nat.add_sub_cancel_left]; exact hpc
  have hyl : ys.length ≤ n := by omega
  have HT : Hid (_) := hT
  clear hT hpc hc
  by_cases hcf : cap - f = 0
  · have hz : n = 0 := by omega
    subst hz
    have hys : ys = [] := List.length_eq_zero_iff.1 hlen
    subst hys
    clear hlen hyl
    go_enter Try.func21, Try.ntmps21
    go_wp2_with fail
    refine Calls.mono HT.out ?_
    rintro e w' ⟨rfl, rfl⟩
    go_wp2_with (at_builtin; refine wp_appS (ys := []) Try.bt rfl (.tmp 31) (.tmp 37) rfl rfl ho rfl ⟨_, _, rfl, Nat.le_refl _, Nat.zero_le _, by simp, fun x _ i hi => by simp at hi⟩ (by simp) (by simp) ?_)
    intro v' w1 hown hb
    go_wp2
    go_ret3
    exact ⟨_, rfl, by simpa using hown, ((Below.refl _ w).alloc (Nat.le_refl _) _).trans hb⟩
  · clear hlen
    go_enter Try.func21, Try.ntmps21
    go_wp2_with fail
    refine Calls.mono HT.out ?_
    rintro e w' ⟨rfl, rfl⟩
    go_wp2_with (at_builtin; refine wp_appS (ys := ys) (xs := []) Try.bt rfl (.tmp 31) (.tmp 37) rfl rfl ho rfl (Bs.alloc HP.out _) (by simp only [List.length_nil]; omega) (by simp) ?_)
    intro v' w1 hown hb
    go_wp2
    go_ret3
    exact ⟨_, rfl, by simpa using hown, ((Below.refl _ w).alloc (Nat.le_refl _) _).trans hb⟩

/-- The document's TakeText, at every slice, place and bound. -/
theorem rtakeText_any (v : Value) (bs : List Int) (i most : Int) (w : World) (hv : Bs w v bs) (hby : ∀ x ∈ bs, 0 ≤ x ∧ x < 256) (hl : bs.length ≤ 140737488355328) :
    Calls Try.prog 21 #[v, .int .i64 i, .int .i64 most] w fun e w' => ∃ v', e = .returned (.tuple #[v', .int .i64 (tkText bs i most).2.1, .int .i64 (tkText bs i most).2.2]) ∧ OwnB w' w.heap.size 5 v' (tkText bs i most).1 ∧ Below w.heap.size w w' := by
  have hT := rtakeNum_any v bs i w hv hby
  have hok := tkNum_ok bs i hby
  unfold tkText
  by_cases h0 : (tkNum bs i).2.2 ≠ 0
  · rw [if_pos h0]
    obtain ⟨a, cap, rfl, _⟩ := hv
    refine (rtt_err a bs.length cap i most _ _ _ w hT h0).mono ?_
    rintro e w' ⟨rfl, rfl⟩
    exact ⟨_, rfl, OwnB.nil _ _ _, Below.refl _ _⟩
  · rw [if_neg h0]
    have hz : (tkNum bs i).2.2 = 0 := by omega
    obtain ⟨g1, g2, g3, g4, g5⟩ := hok hz
    rw [hz] at hT
    by_cases h1 : most < (tkNum bs i).1
    · rw [if_pos h1]
      obtain ⟨a, cap, rfl, _⟩ := hv
      refine (rtt_lim a bs.length cap i most _ _ w hT h1).mono ?_
      rintro e w' ⟨rfl, rfl⟩
      exact ⟨_, rfl, OwnB.nil _ _ _, Below.refl _ _⟩
    · rw [if_neg h1]
      by_cases h2 : (bs.length : Int) - (tkNum bs i).2.1 < (tkNum bs i).1
      · rw [if_pos h2]
        obtain ⟨a, cap, rfl, _⟩ := hv
        refine (rtt_short a bs.length cap i most _ _ w hl hT (by omega) (by omega) (by omega) h2).mono ?_
        rintro e w' ⟨rfl, rfl⟩
        exact ⟨_, rfl, OwnB.nil _ _ _, Below.refl _ _⟩
      · rw [if_neg h2]
        rcases hv.cases with ⟨rfl, _⟩ | ⟨hb, b, off, cap, rfl, hlc, hm, _, hc⟩
        · simp at g5; omega
        · obtain ⟨n, en⟩ := Int.eq_ofNat_of_zero_le g2
          obtain ⟨f, ef⟩ := Int.eq_ofNat_of_zero_le (show 0 ≤ (tkNum bs i).2.1 by omega)
          rw [en, ef] at hT
          rw [en] at h1 h2 g3
          rw [ef] at h2 g4 g5
          rw [en, ef]
          exact rtt_ok b off bs.length cap n f bs i most w rfl hlc hm hc hT (by omega) (by omega) hl
end Go.Proofs.Ythfikoghbnicoaa
