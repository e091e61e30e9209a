/- The law's do: Take on both maps. -/
import Derived.Test.YtcmibcmndiplbabR7
import Derived.Test.YtcmibcmndiplbabR8
namespace Go.Proofs.Ytcmibcmndiplbab
open Go.RowKit Go.Lib Go.Shelf

/-- Both maps, and that they say the same. -/
structure Pair (w : World) (p q : Nat) (A B : Int) (base bl : Nat) (l : List (Int × Int)) (v : Value) (T : List Bool) : Prop where
  live : Live w p A B base bl l
  ref : RefAt w q A base v T
  says : Says A B l T
  n1 : p ≠ q
  n2 : bl ≠ q
  n3 : ∀ g, v.ownBlock = some g → g ≠ p ∧ g ≠ bl
def Out (w : World) (p q : Nat) (A B : Int) (base bl : Nat) (w' : World) : Prop :=
  (∃ bl' l v T, Pair w' p q A B base bl' l v T ∧ (bl' = bl ∨ w.heap.size ≤ bl')) ∧ Below base w w' ∧ ∀ k, k < w.heap.size → k ≠ p → k ≠ q → k ≠ bl → w'.heap[k]? = w.heap[k]?
theorem Out.back {w w0 w' : World} {p q : Nat} {A B : Int} {base bl : Nat} (h : Out w0 p q A B base bl w') (hw : Below w.heap.size w w0) (hbs : base ≤ w.heap.size) : Out w p q A B base bl w' := by
  obtain ⟨⟨bl', l, v, T, hP, hd⟩, hb, hk⟩ := h
  refine ⟨⟨bl', l, v, T, hP, hd.imp id (Nat.le_trans hw.size)⟩, (hw.mono hbs).trans hb, fun k h1 h2 h3 h4 => ?_⟩
  rw [hk k (Nat.lt_of_lt_of_le h1 hw.size) h2 h3 h4]
  exact hw.block k h1

theorem Pair.below {w w' : World} {p q : Nat} {A B : Int} {base bl : Nat} {l : List (Int × Int)} {v : Value} {T : List Bool} (h : Pair w p q A B base bl l v T) (hb : Below w.heap.size w w') : Pair w' p q A B base bl l v T := by
  refine ⟨?_, h.ref.below hb, h.says, h.n1, h.n2, h.n3⟩
  obtain ⟨⟨cap, hM⟩, hc⟩ := h.live
  exact ⟨⟨cap, hM.below hb⟩, hc⟩
theorem Pair.out {w w' : World} {p q : Nat} {A B : Int} {base bl : Nat} {l : List (Int × Int)} {v : Value} {T : List Bool} (h : Pair w p q A B base bl l v T) (hb : Below w.heap.size w w') (hbs : base ≤ w.heap.size) : Out w p q A B base bl w' := ⟨⟨bl, l, v, T, h.below hb, .inl rfl⟩, hb.mono hbs, fun k h1 _ _ _ => hb.block k h1⟩
/-- The document's map, behind a call on the program's. -/
theorem Pair.refMaps {w w' : World} {p q : Nat} {A B : Int} {base bl : Nat} {l l' : List (Int × Int)} {v : Value} {T : List Bool} (h : Pair w p q A B base bl l v T) (hM : Maps w p A B base bl l' w') : RefAt w' q A base v T :=
  h.ref.kept (hM.2.2 q h.ref.lt (Ne.symm h.n1) (Ne.symm h.n2)) (fun g hg => hM.2.2 g (h.ref.ownLt g hg).2 (h.n3 g hg).1 (h.n3 g hg).2)
/-- Both, behind a call on each. -/
theorem Pair.both {w w1 w2 : World} {p q : Nat} {A B : Int} {base bl : Nat} {l l' : List (Int × Int)} {v : Value} {T T' : List Bool} (h : Pair w p q A B base bl l v T) (hM : Maps w p A B base bl l' w1) (hR : Refs w1 q A base T' w2) (hs : Says A B l' T') : Out w p q A B base bl w2 := by
  obtain ⟨⟨b', cap', hMM, hd⟩, hB1, hK1⟩ := hM
  obtain ⟨⟨v', hRR, hg⟩, hB2, hK2⟩ := hR
  have hpl : p < w1.heap.size := (Array.getElem?_eq_some_iff.1 hMM.row).1
  have hbl : b' < w1.heap.size := hMM.spAt.2.2.1
  have hb'q : b' ≠ q := by
    rcases hd with e | e
    · rw [e]; exact h.n2
    · have := h.ref.lt; omega
  refine ⟨⟨b', l', v', T', ⟨⟨⟨cap', ⟨?_, ?_, hMM.caps, hMM.pb, hMM.ne⟩⟩, hs.can⟩, hRR, hs, h.n1, hb'q, fun g hgg => ?_⟩, hd⟩, hB1.trans hB2, fun k h1 h2 h3 h4 => by rw [hK2 k (Nat.lt_of_lt_of_le h1 hB1.size) h3]; exact hK1 k h1 h2 h4⟩
  · rw [hK2 p hpl h.n1]; exact hMM.row
  · refine ⟨hMM.own.1, ?_⟩
    rcases hMM.own.2 with hn | ⟨g, cap, cur, e, hb', hh, r⟩
    · exact .inl hn
    · have e2 : b' = g := by
        simp only [Value.slice.injEq, Option.some.injEq, Addr.mk.injEq] at e
        exact e.1.1
      exact .inr ⟨g, cap, cur, e, hb', by rw [← e2] at hh ⊢; rw [hK2 b' hbl hb'q]; exact hh, r⟩
  · have := hg g hgg
    exact ⟨by omega, by omega⟩

theorem fit_same {l : List (Int × Int)} (hF : Fine l) (n : Int) : idx (fun x => decide (n ≤ wrap64 (x.2 - x.1))) l = idx (fun x => decide (n ≤ siz x)) l := by
  rcases idx_cases (fun x => decide (n ≤ siz x)) l with ⟨h1, h2⟩ | ⟨i, h1, h2, h3, h4⟩
  · rw [h1]
    exact idx_none _ l (fun j hj => by
      have hm : l.getD j default ∈ l := by simp [List.getD, List.getElem?_eq_getElem hj]
      have := h2 _ hm
      show decide (n ≤ wrap64 _) = false
      rw [siz_wrap (hF _ hm)]; exact this)
  · rw [h1]
    refine idx_hit _ l i h2 ?_ (fun j hj => ?_)
    · have hm : l.getD i default ∈ l := by simp [List.getD, List.getElem?_eq_getElem h2]
      show decide (n ≤ wrap64 _) = true
      rw [siz_wrap (hF _ hm)]; exact h3
    · have hm : l.getD j default ∈ l := by simp [List.getD, List.getElem?_eq_getElem (show j < l.length by omega)]
      show decide (n ≤ wrap64 _) = false
      rw [siz_wrap (hF _ hm)]; exact h4 j hj

set_option maxHeartbeats 2000000 in
theorem do_take {w : World} {p q : Nat} {A B : Int} {base bl : Nat} {l : List (Int × Int)} {v : Value} {T : List Bool} (h : Pair w p q A B base bl l v T) (hA : 0 ≤ A) (hB : B ≤ 4096) (hbs : base ≤ w.heap.size) (at' n : Int) :
    Calls Try.prog 21 #[.pointer (some ⟨p, 0, none⟩), .pointer (some ⟨q, 0, none⟩), .agg #[.int .i64 0, .int .i64 at', .int .i64 n]] w fun e w' => e = .returned (.bool true) ∧ Out w p q A B base bl w' := by
  have hw : Below w.heap.size w (w.alloc (.cells #[.int .i64 0, .int .i64 at', .int .i64 n] 54)) := (Below.refl _ w).alloc (Nat.le_refl _) _
  have h0 := h.below hw
  have hbs0 : base ≤ (w.alloc (.cells #[.int .i64 0, .int .i64 at', .int .i64 n] 54)).heap.size := by simp; omega
  have HP : Hid (Pair w p q A B base bl l v T) := ⟨h⟩
  have HP0 : Hid (Pair (w.alloc (.cells #[.int .i64 0, .int .i64 at', .int .i64 n] 54)) p q A B base bl l v T) := ⟨h0⟩
  have hbx : (w.alloc (.cells #[.int .i64 0, .int .i64 at', .int .i64 n] 54)).cell? ⟨w.heap.size, 2, none⟩ = some (.int .i64 n) := by simp
  have hcan := h.live.can
  have hF := hcan.fine hA hB
  have h5 := h.live.small hA hB
  obtain ⟨cap, hM⟩ := h0.live.at'
  by_cases hn : n < 1
  · have t1 := take_arg p n (w.alloc (.cells #[.int .i64 0, .int .i64 at', .int .i64 n] 54)) hn
    clear hM h0 h
    go_enter Try.func21, Try.ntmps21
    go_wp2_with (first
      | (go_at_call 14; refine t1.mono ?_; rintro e w1 ⟨rfl, hb1⟩; have e2 : w1.cell? ⟨w.heap.size, 2, none⟩ = some (.int .i64 n) := (hb1.cell (p := ⟨w.heap.size, 2, none⟩) (by simp)).trans hbx; clear t1)
      | (go_at_call 39; refine (takeref_arg q n _ hn).mono ?_; rintro e w2 ⟨rfl, rfl⟩))
    go_ret
    exact ⟨rfl, HP.out.out (hw.trans (hb1.mono (by simp))) hbs⟩
  · have hn1 : 1 ≤ n := by omega
    rcases idx_cases (fun x => decide (n ≤ siz x)) l with ⟨hi, _⟩ | ⟨i, hi, hil, hp, _⟩
    · have t1 := take_none hM n hn1 (by rw [fit_same hF]; exact hi)
      clear hM h0 h
      go_enter Try.func21, Try.ntmps21
      go_wp2_with (go_at_call 14; refine t1.mono ?_; rintro e w1 ⟨rfl, hb1⟩; have e2 : w1.cell? ⟨w.heap.size, 2, none⟩ = some (.int .i64 n) := (hb1.cell (p := ⟨w.heap.size, 2, none⟩) (by simp)).trans hbx; clear t1)
      have HP1 := HP0.out.below hb1
      have hbs1 : base ≤ w1.heap.size := Nat.le_trans hbs0 hb1.size
      refine (takeref_any HP1.ref HP1.says hA hB hbs1 n hn1).mono ?_
      rintro e w2 (⟨_, rfl, hb2⟩ | ⟨i, hi', _⟩)
      · have hb12 : Below w.heap.size w w2 := (hw.trans (hb1.mono (by simp))).trans (hb2.mono (Nat.le_trans (by simp) hb1.size))
        clear HP1 hb2 hb1
        go_wp2
        go_ret
        exact ⟨rfl, HP.out.out hb12 hbs⟩
      · rw [hi] at hi'; omega
    · have hfit : n ≤ siz (l.getD i default) := by simpa using hp
      have t1 := take_ok A B n p bl cap base i l _ hM hF hbs0 hn1 hil h5 (by rw [fit_same hF]; exact hi) hfit
      clear hM h0 h
      rw [cutAt_eq l i _ _ hil] at t1
      have hm : l.getD i default ∈ l := by simp [List.getD, List.getElem?_eq_getElem hil]
      have hge := hcan.ge _ hm
      have hfit' : n ≤ (l.getD i default).2 - (l.getD i default).1 := hfit
      obtain ⟨a1, a2, a3⟩ := cut_can l i A (l.getD i default).1 ((l.getD i default).1 + n) hcan hil (Int.le_refl _) (by omega) (by omega)
      obtain ⟨x, Hx⟩ : ∃ x, Hid ((l.getD i default).1 = x) := ⟨_, ⟨rfl⟩⟩
      rw [Hx.out] at t1 a1 a2 hge
      have HS : Hid (Says A B (cutAt l i x (x + n)) (setB T (x - A).toNat n.toNat true)) := ⟨by
        have hlen := HP.out.says.len
        refine says_set HP.out.says (x - A).toNat n.toNat true (by have := hfit'; rw [Hx.out] at this; omega) a1 (fun k => ?_)
        rw [a2 k]
        by_cases hr : x ≤ k ∧ k < x + n
        · rw [if_pos (by omega)]; simp [hr]
        · rw [if_neg (by omega)]; simp [hr]⟩
      generalize cutAt l i x (x + n) = L' at t1 HS
      clear a1 a2 a3
      go_enter Try.func21, Try.ntmps21
      go_wp2_with (go_at_call 14; refine t1.mono ?_; rintro e w1 ⟨rfl, hM1⟩; have e2 : w1.cell? ⟨w.heap.size, 2, none⟩ = some (.int .i64 n) := (cell_same (hM1.2.2 w.heap.size (by simp) (by obtain ⟨cp, hh⟩ := HP.out.live.at'; have := (Array.getElem?_eq_some_iff.1 hh.row).1; omega) (by obtain ⟨cp, hh⟩ := HP.out.live.at'; have := hh.spAt.2.2.1; omega)) 2).trans hbx; clear t1)
      have hR1 := HP0.out.refMaps hM1
      have hbs1 : base ≤ w1.heap.size := Nat.le_trans hbs0 hM1.2.1.size
      refine (takeref_any hR1 HP.out.says hA hB hbs1 n hn1).mono ?_
      rintro e w2 (⟨hi', _⟩ | ⟨i', hi', _, _, rfl, hR2⟩)
      · rw [hi] at hi'; omega
      · obtain rfl : i = i' := by rw [hi] at hi'; omega
        rw [Hx.out] at hR2 ⊢
        have hO := HP0.out.both hM1 hR2 HS.out
        have HO : Hid (Out w p q A B base bl w2) := ⟨hO.back hw hbs⟩
        clear hO hR2 hR1 hM1
        go_wp2
        go_ret
        exact ⟨rfl, HO.out⟩
end Go.Proofs.Ytcmibcmndiplbab
