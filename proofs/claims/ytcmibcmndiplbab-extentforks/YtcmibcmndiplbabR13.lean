/- The law's play. -/
import Derived.Test.YtcmibcmndiplbabR12
import Derived.Test.YtcmibcmndiplbabZ5
namespace Go.Proofs.Ytcmibcmndiplbab
open Go.RowKit Go.Lib Go.Shelf

/-- A slice of deeds. -/
def Deeds (w : World) (v : Value) (ds : List (Int × Int × Int)) : Prop :=
  ∃ ao cap, v = .slice ao ds.length cap ∧ ∀ j, j < ds.length → ∃ b o, ao = some ⟨b, o, none⟩ ∧ b < w.heap.size ∧ w.cell? ⟨b, o + j * 3, none⟩ = some (.int .i64 (ds.getD j default).1) ∧ w.cell? ⟨b, o + j * 3 + 1, none⟩ = some (.int .i64 (ds.getD j default).2.1) ∧ w.cell? ⟨b, o + j * 3 + 2, none⟩ = some (.int .i64 (ds.getD j default).2.2) ∧ (ds.getD j default).2.1 ≤ 9223372036854775807

theorem do_all {w : World} {p q : Nat} {A B : Int} {base bl : Nat} {l : List (Int × Int)} {v : Value} {T : List Bool} (h : Pair w p q A B base bl l v T) (hA : 0 ≤ A) (hB : B ≤ 4096) (hbs : base ≤ w.heap.size) (d at' n : Int) (hat : at' ≤ 9223372036854775807) :
    Calls Try.prog 21 #[.pointer (some ⟨p, 0, none⟩), .pointer (some ⟨q, 0, none⟩), .agg #[.int .i64 d, .int .i64 at', .int .i64 n]] w fun e w' => e = .returned (.bool true) ∧ Out w p q A B base bl w' := by
  by_cases h0 : d = 0
  · subst h0; exact do_take h hA hB hbs at' n
  · by_cases h1 : d = 1
    · subst h1; exact do_claim h hA hB hbs at' n hat
    · exact do_give h hA hB hbs d h0 h1 at' n hat

theorem do_any {w : World} {p q : Nat} {A B : Int} {base bl : Nat} {l : List (Int × Int)} {v : Value} {T : List Bool} (h : Pair w p q A B base bl l v T) (hA : 0 ≤ A) (hB : B ≤ 4096) (hbs : base ≤ w.heap.size) (d at' n : Int) (hat : at' ≤ 9223372036854775807) :
    Calls Try.prog 21 #[.pointer (some ⟨p, 0, none⟩), .pointer (some ⟨q, 0, none⟩), .agg #[.int .i64 d, .int .i64 at', .int .i64 n]] w fun e w' => e = .returned (.bool true) ∧ (∃ bl l v T, Pair w' p q A B base bl l v T) ∧ Below base w w' :=
  (do_all h hA hB hbs d at' n hat).mono fun _ _ ⟨he, ⟨bl', l, v, T, hP, _⟩, hb, _⟩ => ⟨he, ⟨bl', l, v, T, hP⟩, hb⟩

theorem says_new {A B : Int} {l : List (Int × Int)} (hc : Can B A l) (hAB : A ≤ B) (hcov : ∀ k, cov l k ↔ A ≤ k ∧ k < B) : Says A B l (List.replicate (B - A).toNat false) := by
  refine ⟨hc, by simp; omega, fun k => ?_⟩
  rw [hcov k]
  constructor
  · intro h
    refine ⟨h, ?_⟩
    rw [List.getD, List.getElem?_replicate]
    split <;> rfl
  · intro h; exact h.1

theorem RefAt.lower {w : World} {q : Nat} {A : Int} {b b' : Nat} {v : Value} {T : List Bool} (h : RefAt w q A b v T) (hle : b' ≤ b) : RefAt w q A b' v T := by
  refine ⟨h.row, ⟨h.own.1, ?_⟩, Nat.le_trans hle h.pb, h.ne, h.small⟩
  rcases h.own.2 with hn | ⟨g, cap, cur, e, hb, r⟩
  · exact .inl hn
  · exact .inr ⟨g, cap, cur, e, Nat.le_trans hle hb, r⟩

set_option maxHeartbeats 4000000 in
theorem play_any (f s : Int) (v : Value) (ds : List (Int × Int × Int)) (w : World) (hf0 : 0 ≤ f) (hf1 : f < 256) (hs0 : 0 ≤ s) (hs1 : s < 256) (hv : Deeds w v ds) :
    Calls Try.prog 12 #[.int .u8 f, .int .u8 s, v] w fun e w' => ∃ p q A B, 0 ≤ A ∧ B ≤ 4096 ∧ e = .returned (.tuple #[.pointer (some ⟨p, 0, none⟩), .pointer (some ⟨q, 0, none⟩), .bool true]) ∧ (∃ bl l v T, Pair w' p q A B w.heap.size bl l v T) ∧ Below w.heap.size w w' := by
  obtain ⟨ao, cap, rfl, hcell⟩ := hv
  obtain ⟨n, hn⟩ : ∃ n, ds.length = n := ⟨_, rfl⟩
  rw [hn] at hcell ⊢
  have HC : Hid (∀ j, j < n → ∃ b o, ao = some ⟨b, o, none⟩ ∧ b < w.heap.size ∧ w.cell? ⟨b, o + j * 3, none⟩ = some (.int .i64 (ds.getD j default).1) ∧ w.cell? ⟨b, o + j * 3 + 1, none⟩ = some (.int .i64 (ds.getD j default).2.1) ∧ w.cell? ⟨b, o + j * 3 + 2, none⟩ = some (.int .i64 (ds.getD j default).2.2) ∧ (ds.getD j default).2.1 ≤ 9223372036854775807) := ⟨hcell⟩
  clear hcell
  have t0 := bounds_any f s w hf0 hf1 hs0 hs1
  obtain ⟨A, HA⟩ : ∃ A, Hid (f % 41 = A) := ⟨_, ⟨rfl⟩⟩
  obtain ⟨B, HB⟩ : ∃ B, Hid (f % 41 + s % 61 = B) := ⟨_, ⟨rfl⟩⟩
  have hA0 : 0 ≤ A := by have := HA.out; omega
  have hAB : A ≤ B := by have := HA.out; have := HB.out; omega
  have hB1 : B ≤ 4096 := by have := HA.out; have := HB.out; omega
  rw [HB.out, HA.out] at t0
  have t1 := new_can A B w hA0 hAB hB1
  go_enter Try.func12, Try.ntmps12
  go_wp2_with (first
    | (go_at_call 13; refine t0.mono ?_; rintro e w0 ⟨rfl, rfl⟩; clear t0)
    | (go_at_call 8; refine t1.mono ?_; rintro e w1 ⟨p, bl, l, rfl, hL, hcv, hsm, hb1⟩; have t2 := newref_any A B w1 hA0 hAB hB1; clear t1)
    | (go_at_call 27; refine t2.mono ?_; rintro e w2 ⟨q, vq, rfl, hR, hb2⟩; clear t2))
  have HS0 : Hid ((∃ bl l v T, Pair w2 p q A B w.heap.size bl l v T) ∧ Below w.heap.size w w2) := ⟨by
    have hpl : p < w1.heap.size := by obtain ⟨cp, hM⟩ := hL.at'; exact (Array.getElem?_eq_some_iff.1 hM.row).1
    have hbl : bl < w1.heap.size := by obtain ⟨cp, hM⟩ := hL.at'; exact hM.spAt.2.2.1
    have hqb := hR.pb
    refine ⟨⟨bl, l, vq, _, hL.below hb2, hR.lower hb1.size, says_new hL.can hAB hcv, by omega, by omega, fun g hg => ?_⟩, hb1.trans (hb2.mono hb1.size)⟩
    have := (hR.ownLt g hg).1
    exact ⟨by omega, by omega⟩⟩
  clear hL hR hcv hsm hb1 hb2 hn HA HB
  go_loopg [15] 120 (fun gg s15 wq => ∃ i : Nat, i ≤ n ∧ i ≤ 120 ∧ 120 - i ≤ gg ∧ s15 = .int .i64 (i : Int) ∧ Hid ((∃ bl l v T, Pair wq p q A B w.heap.size bl l v T) ∧ Below w.heap.size w wq))
  case atStart => exact ⟨0, Nat.zero_le _, by omega, by omega, rfl, HS0⟩
  case round =>
    clear HS0
    obtain ⟨i, hin, hi8, hgg, rfl, HS⟩ := hrel
    rename World => wq
    by_cases hlt : i < n
    · by_cases hlt8 : i < 120
      · have hltz : (i : Int) < (n : Int) := by omega
        have hlt8z : (i : Int) < 120 := by omega
        obtain ⟨zb, zo, rfl, hzl, z0, z1, z2, hat⟩ := HC.out i hlt
        have y0 := (HS.out.2.cell (p := ⟨zb, zo + i * 3, none⟩) hzl).trans z0
        have y1 := (HS.out.2.cell (p := ⟨zb, zo + i * 3 + 1, none⟩) hzl).trans z1
        have y2 := (HS.out.2.cell (p := ⟨zb, zo + i * 3 + 2, none⟩) hzl).trans z2
        clear z0 z1 z2
        generalize ds.getD i default = d at y0 y1 y2 hat
        obtain ⟨⟨bl, l, vq, T, hP⟩, hB0⟩ := HS.out
        have t1 := do_any hP hA0 hB1 hB0.size d.1 d.2.1 d.2.2 hat
        clear hP hat
        go_wp2_with (go_at_call 21; refine t1.mono ?_; rintro e w3 ⟨rfl, hO⟩; have HO : Hid ((∃ bl l v T, Pair w3 p q A B w.heap.size bl l v T) ∧ Below w.heap.size w w3) := ⟨⟨hO.1, hB0.trans hO.2⟩⟩; clear hO t1)
        go_roundg (120 - (i + 1))
        case measure => omega
        case rel => exact ⟨i + 1, by omega, by omega, by omega, by go_num, HO⟩
      · obtain rfl : i = 120 := by omega
        have hltz : ((120 : Nat) : Int) < (n : Int) := by omega
        obtain ⟨⟨bl, l, vq, T, hP⟩, hB0⟩ := HS.out
        have t1 := alike_any hP hA0 hB1
        have HP : Hid (Pair wq p q A B w.heap.size bl l vq T) := ⟨hP⟩
        clear hP
        go_wp2_with (go_at_call 18; refine t1.mono ?_; rintro e w3 ⟨rfl, hb3⟩; have HO : Hid ((∃ bl l v T, Pair w3 p q A B w.heap.size bl l v T) ∧ Below w.heap.size w w3) := ⟨⟨⟨bl, l, vq, T, HP.out.below hb3⟩, hB0.trans (hb3.mono hB0.size)⟩⟩; clear hb3 t1)
        go_ret3
        exact ⟨p, q, A, B, hA0, hB1, rfl, HO.out⟩
    · obtain rfl : i = n := by omega
      obtain ⟨⟨bl, l, vq, T, hP⟩, hB0⟩ := HS.out
      have t1 := alike_any hP hA0 hB1
      have HP : Hid (Pair wq p q A B w.heap.size bl l vq T) := ⟨hP⟩
      clear hP
      go_wp2_with (go_at_call 18; refine t1.mono ?_; rintro e w3 ⟨rfl, hb3⟩; have HO : Hid ((∃ bl l v T, Pair w3 p q A B w.heap.size bl l v T) ∧ Below w.heap.size w w3) := ⟨⟨⟨bl, l, vq, T, HP.out.below hb3⟩, hB0.trans (hb3.mono hB0.size)⟩⟩; clear hb3 t1)
      go_ret3
      exact ⟨p, q, A, B, hA0, hB1, rfl, HO.out⟩
end Go.Proofs.Ytcmibcmndiplbab
