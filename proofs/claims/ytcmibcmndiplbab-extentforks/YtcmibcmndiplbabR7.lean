/- The document's Claim and Give; Same. -/
import Derived.Test.YtcmibcmndiplbabR5
import Derived.Test.YtcmibcmndiplbabR6
namespace Go.Proofs.Ytcmibcmndiplbab
open Go.RowKit Go.Lib Go.Shelf

/-- A run that is not the document's map's. -/
theorem mine_bad {w : World} {q : Nat} {A B : Int} {base : Nat} {v : Value} {T : List Bool} (h : RefAt w q A base v T) (hA : 0 ≤ A) (hlen : (T.length : Int) = B - A) (at' n : Int) (hat : at' ≤ 9223372036854775807) (hN : NotMine A B at' n) :
    Calls Try.prog 47 #[.pointer (some ⟨q, 0, none⟩), .agg #[.int .i64 at', .int .i64 n]] w fun e w' => (∃ x, e = .returned (.tuple #[.int .i64 x, .bool false])) ∧ Below w.heap.size w w' := by
  have hsm := h.small
  unfold NotMine at hN
  by_cases h1 : n < 1
  · exact (mine_b1 h at' n h1).mono fun e w' hh => ⟨⟨0, hh.1⟩, hh.2⟩
  · by_cases h2 : at' < A
    · exact (mine_b2 h at' n h1 h2).mono fun e w' hh => ⟨⟨0, hh.1⟩, hh.2⟩
    · by_cases h3 : (T.length : Int) ≤ at' - A
      · exact (mine_b3 h at' n hA hat h1 h2 h3).mono fun e w' hh => ⟨⟨0, hh.1⟩, hh.2⟩
      · exact (mine_ok h at' n h1 h2 (by omega) false (by symm; simp; omega)).mono fun e w' hh => ⟨⟨_, hh.1⟩, hh.2⟩

theorem claimref_bad {w : World} {q : Nat} {A B : Int} {base : Nat} {v : Value} {T : List Bool} (h : RefAt w q A base v T) (hA : 0 ≤ A) (hlen : (T.length : Int) = B - A) (at' n : Int) (hat : at' ≤ 9223372036854775807) (hN : NotMine A B at' n) :
    Calls Try.prog 40 #[.pointer (some ⟨q, 0, none⟩), .agg #[.int .i64 at', .int .i64 n]] w fun e w' => e = .returned (.int .i64 2) ∧ Below w.heap.size w w' := by
  have hw : Below w.heap.size w (w.alloc (.cells #[.int .i64 at', .int .i64 n] 43)) := (Below.refl _ w).alloc (Nat.le_refl _) _
  have hm := mine_bad (h.below hw) hA hlen at' n hat hN
  clear h
  go_enter Try.func40, Try.ntmps40
  go_wp2_with (go_at_call 47; refine hm.mono ?_; rintro e w1 ⟨⟨x, rfl⟩, hb'⟩; have hb1 : Below w.heap.size w w1 := hw.trans (hb'.mono (by simp)); clear hm hb')
  go_ret
  exact ⟨rfl, hb1⟩

set_option maxHeartbeats 2000000 in
theorem claimref_ok {w : World} {q : Nat} {A B : Int} {base : Nat} {v : Value} {T : List Bool} (h : RefAt w q A base v T) (hbs : base ≤ w.heap.size) (hlen : (T.length : Int) = B - A) (a m : Nat) (hN : ¬ NotMine A B (A + (a : Int)) (m : Int)) :
    Calls Try.prog 40 #[.pointer (some ⟨q, 0, none⟩), .agg #[.int .i64 (A + (a : Int)), .int .i64 (m : Int)]] w fun e w' => (allB T a m false = false ∧ e = .returned (.int .i64 10) ∧ Below w.heap.size w w') ∨ (allB T a m false = true ∧ e = .returned (.int .i64 0) ∧ Refs w q A base (setB T a m true) w') := by
  have hsm := h.small
  unfold NotMine at hN
  have hw : Below w.heap.size w (w.alloc (.cells #[.int .i64 (A + (a : Int)), .int .i64 (m : Int)] 43)) := (Below.refl _ w).alloc (Nat.le_refl _) _
  have hm := mine_ok (h.below hw) (A + (a : Int)) (m : Int) (by omega) (by omega) (by omega) true (by symm; simp; omega)
  rw [show A + (a : Int) - A = (a : Int) by omega] at hm
  have HH : Hid (RefAt w q A base v T) := ⟨h⟩
  have ham : a + m ≤ T.length := by omega
  have hall := fun W (hW : RefAt W q A base v T) => all_any hW a m false ham
  have hset := fun W (hW : RefAt W q A base v T) (hb : base ≤ W.heap.size) => set_any hW hb a m true (by omega) (by omega)
  clear h
  generalize hz : A + (a : Int) = z at hm hw ⊢
  clear hz
  cases hq : allB T a m false with
  | false =>
    rw [hq] at hall
    go_enter Try.func40, Try.ntmps40
    go_wp2_with (first
      | (go_at_call 47; refine hm.mono ?_; rintro e w1 ⟨rfl, hb'⟩; have hb1 : Below w.heap.size w w1 := hw.trans (hb'.mono (by simp)); have HR1 : Hid (RefAt w1 q A base v T) := ⟨HH.out.below hb1⟩; have e1 : w1.cell? ⟨w.heap.size, 1, none⟩ = some (.int .i64 (m : Int)) := (hb'.cell (p := ⟨w.heap.size, 1, none⟩) (by simp)).trans (by simp); clear hm hb')
      | (go_at_call 48; refine (hall _ HR1.out).mono ?_; rintro e w2 ⟨rfl, rfl⟩; clear hall))
    go_ret
    exact .inl ⟨trivial, rfl, hb1⟩
  | true =>
    rw [hq] at hall
    go_enter Try.func40, Try.ntmps40
    go_wp2_with (first
      | (go_at_call 47; refine hm.mono ?_; rintro e w1 ⟨rfl, hb'⟩; have hb1 : Below w.heap.size w w1 := hw.trans (hb'.mono (by simp)); have HR1 : Hid (RefAt w1 q A base v T) := ⟨HH.out.below hb1⟩; have HB1 : Hid (Below w.heap.size w w1) := ⟨hb1⟩; have e1 : w1.cell? ⟨w.heap.size, 1, none⟩ = some (.int .i64 (m : Int)) := (hb'.cell (p := ⟨w.heap.size, 1, none⟩) (by simp)).trans (by simp); clear hm hb' hb1)
      | (go_at_call 48; refine (hall _ HR1.out).mono ?_; rintro e w2 ⟨rfl, rfl⟩; clear hall)
      | (go_at_call 46; refine (hset _ HR1.out (Nat.le_trans hbs HB1.out.size)).mono ?_; rintro e w3 ⟨rfl, hR3⟩; have HR3 : Hid (Refs w q A base (setB T a m true) w3) := ⟨Refs.of_below HB1.out hbs hR3⟩; clear hset hR3))
    go_ret
    exact .inr ⟨trivial, rfl, HR3.out⟩

theorem giveref_bad {w : World} {q : Nat} {A B : Int} {base : Nat} {v : Value} {T : List Bool} (h : RefAt w q A base v T) (hA : 0 ≤ A) (hlen : (T.length : Int) = B - A) (at' n : Int) (hat : at' ≤ 9223372036854775807) (hN : NotMine A B at' n) :
    Calls Try.prog 41 #[.pointer (some ⟨q, 0, none⟩), .agg #[.int .i64 at', .int .i64 n]] w fun e w' => e = .returned (.int .i64 2) ∧ Below w.heap.size w w' := by
  have hw : Below w.heap.size w (w.alloc (.cells #[.int .i64 at', .int .i64 n] 43)) := (Below.refl _ w).alloc (Nat.le_refl _) _
  have hm := mine_bad (h.below hw) hA hlen at' n hat hN
  clear h
  go_enter Try.func41, Try.ntmps41
  go_wp2_with (go_at_call 47; refine hm.mono ?_; rintro e w1 ⟨⟨x, rfl⟩, hb'⟩; have hb1 : Below w.heap.size w w1 := hw.trans (hb'.mono (by simp)); clear hm hb')
  go_ret
  exact ⟨rfl, hb1⟩

set_option maxHeartbeats 2000000 in
theorem giveref_ok {w : World} {q : Nat} {A B : Int} {base : Nat} {v : Value} {T : List Bool} (h : RefAt w q A base v T) (hbs : base ≤ w.heap.size) (hlen : (T.length : Int) = B - A) (a m : Nat) (hN : ¬ NotMine A B (A + (a : Int)) (m : Int)) :
    Calls Try.prog 41 #[.pointer (some ⟨q, 0, none⟩), .agg #[.int .i64 (A + (a : Int)), .int .i64 (m : Int)]] w fun e w' => (allB T a m true = false ∧ e = .returned (.int .i64 9) ∧ Below w.heap.size w w') ∨ (allB T a m true = true ∧ e = .returned (.int .i64 0) ∧ Refs w q A base (setB T a m false) w') := by
  have hsm := h.small
  unfold NotMine at hN
  have hw : Below w.heap.size w (w.alloc (.cells #[.int .i64 (A + (a : Int)), .int .i64 (m : Int)] 43)) := (Below.refl _ w).alloc (Nat.le_refl _) _
  have hm := mine_ok (h.below hw) (A + (a : Int)) (m : Int) (by omega) (by omega) (by omega) true (by symm; simp; omega)
  rw [show A + (a : Int) - A = (a : Int) by omega] at hm
  have HH : Hid (RefAt w q A base v T) := ⟨h⟩
  have ham : a + m ≤ T.length := by omega
  have hall := fun W (hW : RefAt W q A base v T) => all_any hW a m true ham
  have hset := fun W (hW : RefAt W q A base v T) (hb : base ≤ W.heap.size) => set_any hW hb a m false (by omega) (by omega)
  clear h
  generalize hz : A + (a : Int) = z at hm hw ⊢
  clear hz
  cases hq : allB T a m true with
  | false =>
    rw [hq] at hall
    go_enter Try.func41, Try.ntmps41
    go_wp2_with (first
      | (go_at_call 47; refine hm.mono ?_; rintro e w1 ⟨rfl, hb'⟩; have hb1 : Below w.heap.size w w1 := hw.trans (hb'.mono (by simp)); have HR1 : Hid (RefAt w1 q A base v T) := ⟨HH.out.below hb1⟩; have e1 : w1.cell? ⟨w.heap.size, 1, none⟩ = some (.int .i64 (m : Int)) := (hb'.cell (p := ⟨w.heap.size, 1, none⟩) (by simp)).trans (by simp); clear hm hb')
      | (go_at_call 48; refine (hall _ HR1.out).mono ?_; rintro e w2 ⟨rfl, rfl⟩; clear hall))
    go_ret
    exact .inl ⟨trivial, rfl, hb1⟩
  | true =>
    rw [hq] at hall
    go_enter Try.func41, Try.ntmps41
    go_wp2_with (first
      | (go_at_call 47; refine hm.mono ?_; rintro e w1 ⟨rfl, hb'⟩; have hb1 : Below w.heap.size w w1 := hw.trans (hb'.mono (by simp)); have HR1 : Hid (RefAt w1 q A base v T) := ⟨HH.out.below hb1⟩; have HB1 : Hid (Below w.heap.size w w1) := ⟨hb1⟩; have e1 : w1.cell? ⟨w.heap.size, 1, none⟩ = some (.int .i64 (m : Int)) := (hb'.cell (p := ⟨w.heap.size, 1, none⟩) (by simp)).trans (by simp); clear hm hb' hb1)
      | (go_at_call 48; refine (hall _ HR1.out).mono ?_; rintro e w2 ⟨rfl, rfl⟩; clear hall)
      | (go_at_call 46; refine (hset _ HR1.out (Nat.le_trans hbs HB1.out.size)).mono ?_; rintro e w3 ⟨rfl, hR3⟩; have HR3 : Hid (Refs w q A base (setB T a m false) w3) := ⟨Refs.of_below HB1.out hbs hR3⟩; clear hset hR3))
    go_ret
    exact .inr ⟨trivial, rfl, HR3.out⟩

theorem neq43 (y : Int × Int) (w : World) : (binOp .neq 43 (.agg #[.int .i64 y.1, .int .i64 y.2]) (.agg #[.int .i64 y.1, .int .i64 y.2])).run Try.prog w = .ok (.bool false) w := by
  have u3 := Try.underlying3
  have a3 := Try.isAgg3
  have z3 := Try.sizeOf3
  have hS : Try.prog.underlying 43 = some (.struct (Try.prog.fieldsOf 43)) := by kernel_rfl
  have hp : Try.prog.stoodInHeld 43 = false := by kernel_rfl
  rw [run_neq_struct, show (10000 : Nat) = 9999 + 1 from rfl, run_equalIn_agg w 9999 43 _ _ hS hp]
  simp only [Program.fieldsOf, Try.underlying43]
  go_simp

set_option maxHeartbeats 2000000 in
theorem same_any {w : World} {b1 b2 : Nat} {v1 v2 : Value} {l : List (Int × Int)} (h1 : Own2 w b1 43 v1 l) (h2 : Own2 w b2 43 v2 l) (h5 : l.length ≤ 100000) : Calls Try.prog 17 #[v1, v2] w fun e w' => e = .returned (.bool true) ∧ Below w.heap.size w w' := by
  obtain ⟨ao, ca, rfl, hc1⟩ := h1.shape
  obtain ⟨bo, cb, rfl, hc2⟩ := h2.shape
  obtain ⟨n, hn⟩ : ∃ n, l.length = n := ⟨_, rfl⟩
  rw [hn] at hc1 hc2 h5 ⊢
  have H1 : Hid (∀ j, j < n → ∃ g, ao = some ⟨g, 0, none⟩ ∧ (b1 ≤ g ∧ g < w.heap.size) ∧ w.cell? ⟨g, j * 2, none⟩ = some (.int .i64 (l.getD j default).1) ∧ w.cell? ⟨g, j * 2 + 1, none⟩ = some (.int .i64 (l.getD j default).2)) := ⟨hc1⟩
  have H2 : Hid (∀ j, j < n → ∃ g, bo = some ⟨g, 0, none⟩ ∧ (b2 ≤ g ∧ g < w.heap.size) ∧ w.cell? ⟨g, j * 2, none⟩ = some (.int .i64 (l.getD j default).1) ∧ w.cell? ⟨g, j * 2 + 1, none⟩ = some (.int .i64 (l.getD j default).2)) := ⟨hc2⟩
  clear hc1 hc2 h1 h2
  go_enter Try.func17, Try.ntmps17
  go_wp2
  go_loopg [5] n (fun gg s5 wr => ∃ kk : Nat, kk ≤ n ∧ n - kk ≤ gg ∧ s5 = .int .i64 (kk : Int) ∧ Hid (Below w.heap.size w wr))
  case atStart => exact ⟨0, Nat.zero_le _, by omega, rfl, ⟨Below.refl _ w⟩⟩
  case round =>
    obtain ⟨kk, hkk, hg, rfl, HB⟩ := hrel
    by_cases hlt : kk < n
    · have hltz : (kk : Int) < (n : Int) := by omega
      obtain ⟨g1, rfl, hg1, p0, p1⟩ := H1.out kk hlt
      obtain ⟨g2, rfl, hg2, q0, q1⟩ := H2.out kk hlt
      have p0' := (HB.out.cell (p := ⟨g1, kk * 2, none⟩) hg1.2).trans p0
      have p1' := (HB.out.cell (p := ⟨g1, kk * 2 + 1, none⟩) hg1.2).trans p1
      have q0' := (HB.out.cell (p := ⟨g2, kk * 2, none⟩) hg2.2).trans q0
      have q1' := (HB.out.cell (p := ⟨g2, kk * 2 + 1, none⟩) hg2.2).trans q1
      clear p0 p1 q0 q1
      generalize l.getD kk default = y at p0' p1' q0' q1'
      have hne : ∀ W, (binOp .neq 43 (.agg #[.int .i64 y.1, .int .i64 y.2]) (.agg #[.int .i64 y.1, .int .i64 y.2])).run Try.prog W = .ok (.bool false) W := fun W => neq43 y W
      go_wp2
      go_quiet (fail)
      go_wp2
      go_roundg (n - (kk + 1))
      case measure => omega
      case rel => exact ⟨kk + 1, by omega, by omega, by go_num, ⟨⟨HB.out.os, HB.out.tape, HB.out.output, HB.out.size, HB.out.block⟩⟩⟩
    · go_wp2
      go_ret
      exact ⟨rfl, HB.out⟩
end Go.Proofs.Ytcmibcmndiplbab
