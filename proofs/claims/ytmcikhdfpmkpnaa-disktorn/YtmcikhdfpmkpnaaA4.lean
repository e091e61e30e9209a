/- The law's play. -/
import Derived.Test.YtmcikhdfpmkpnaaA3
namespace Go.Proofs.Ytmcikhdfpmkpnaa
open Go.RowKit Go.Maps Go.Sort Go.Shelf

instance : Inhabited Dd := ⟨⟨0, 0, [], [], 0, 0⟩⟩
/-- A slice of deeds. -/
def Deeds (w : World) (v : Value) (ds : List Dd) : Prop :=
  ∃ ao cap, v = .slice ao ds.length cap ∧ ∀ j, j < ds.length → ∃ b o bv kv, ao = some ⟨b, o, none⟩ ∧ b < w.heap.size ∧ w.cell? ⟨b, o + j * 6, none⟩ = some (.int .i64 (ds.getD j default).Do) ∧ w.cell? ⟨b, o + j * 6 + 1, none⟩ = some (.int .i64 (ds.getD j default).N) ∧ w.cell? ⟨b, o + j * 6 + 2, none⟩ = some bv ∧ w.cell? ⟨b, o + j * 6 + 3, none⟩ = some kv ∧ w.cell? ⟨b, o + j * 6 + 4, none⟩ = some (.int .i64 (ds.getD j default).torn) ∧ w.cell? ⟨b, o + j * 6 + 5, none⟩ = some (.int .i64 (ds.getD j default).at') ∧ DdV w w.heap.size bv kv (ds.getD j default)

theorem doD_len (d : Dk) (x : Dd) : (doD d x).S.length = d.S.length := by
  unfold doD
  split
  · unfold wrD setWr; (repeat' split) <;> simp
  split
  · rfl
  split
  · unfold fluD flD; (repeat' split) <;> simp [flush]
  split
  · unfold trpD; (repeat' split) <;> simp
  split
  · simp [crD, crash]
  · unfold rotD setSure; (repeat' split) <;> simp
theorem Rf.lower {w : World} {q b b' : Nat} {d : Dk} (h : Rf w q b d) (hb : b' ≤ b) : Rf w q b' d := by
  obtain ⟨v, ar, h⟩ := h
  refine ⟨v, ar, { h with own := ⟨h.own.1, ?_⟩, bp := Nat.le_trans hb h.bp }⟩
  rcases h.own.2 with hn | ⟨g, cap, cur, e, h1, r⟩
  · exact .inl hn
  · exact .inr ⟨g, cap, cur, e, Nat.le_trans hb h1, r⟩
def Played (n : Int) (w : World) (e : Ending) (w' : World) : Prop := ∃ p g bm q D, e = .returned (.tuple #[.pointer (some ⟨p, 0, none⟩), .pointer (some ⟨q, 0, none⟩), .bool true]) ∧ Pair w' p g bm q w.heap.size D ∧ D.S.length = sizeN n ∧ Below w.heap.size w w'

set_option maxRecDepth 8000 in
set_option maxHeartbeats 4000000 in
theorem play_any (n : Int) (v : Value) (ds : List Dd) (w : World) (hv : Deeds w v ds) : Calls Try.prog 15 #[.int .i64 n, v] w (Played n w) := by
  obtain ⟨ao, cap, rfl, hcell⟩ := hv
  obtain ⟨m, hm⟩ : ∃ m, ds.length = m := ⟨_, rfl⟩
  rw [hm] at hcell ⊢
  have HC : Hid (∀ j, j < m → ∃ b o bv kv, ao = some ⟨b, o, none⟩ ∧ b < w.heap.size ∧ w.cell? ⟨b, o + j * 6, none⟩ = some (.int .i64 (ds.getD j default).Do) ∧ w.cell? ⟨b, o + j * 6 + 1, none⟩ = some (.int .i64 (ds.getD j default).N) ∧ w.cell? ⟨b, o + j * 6 + 2, none⟩ = some bv ∧ w.cell? ⟨b, o + j * 6 + 3, none⟩ = some kv ∧ w.cell? ⟨b, o + j * 6 + 4, none⟩ = some (.int .i64 (ds.getD j default).torn) ∧ w.cell? ⟨b, o + j * 6 + 5, none⟩ = some (.int .i64 (ds.getD j default).at') ∧ DdV w w.heap.size bv kv (ds.getD j default)) := ⟨hcell⟩
  clear hcell hm
  have tz := fun W => size_any n W
  obtain ⟨z, Hz⟩ : ∃ z, Hid (sizeN n = z) := ⟨_, ⟨rfl⟩⟩
  have hz : 1 ≤ z ∧ z ≤ 4096 := by rw [← Hz.out]; exact (twelve n).2
  simp only [Hz.out] at tz
  have t1 := newdisk_any z w hz.1 hz.2
  unfold Played
  rw [Hz.out]
  go_enter Try.func15, Try.ntmps15
  go_wp2_with (first
    | (go_at_call 28; refine (tz _).mono ?_; rintro e w0 ⟨rfl, rfl⟩)
    | (go_at_call 9; refine t1.mono ?_; rintro e w1 ⟨p, g, bm, rfl, hA1, hb1⟩; have t2 := rnew_any z w1 hz.1 hz.2; clear t1)
    | (go_at_call 29; refine t2.mono ?_; rintro e w2 ⟨q, rfl, hR2, hb2⟩; clear t2))
  have HS0 : Hid (∃ D, Pair w2 p g bm q w.heap.size D ∧ D.S.length = z ∧ Below w.heap.size w w2) := ⟨⟨newD z, ⟨hA1.below hb2, hR2.lower hb1.size⟩, by simp [newD], hb1.trans (hb2.mono hb1.size)⟩⟩
  clear hA1 hR2 hb1 hb2 tz hz
  go_loopg [11] 200 (fun gg s wq => ∃ i : Nat, i ≤ m ∧ i ≤ 200 ∧ 200 - i ≤ gg ∧ s = .int .i64 (i : Int) ∧ Hid (∃ D, Pair wq p g bm q w.heap.size D ∧ D.S.length = z ∧ Below w.heap.size w wq))
  case atStart => exact ⟨0, Nat.zero_le _, by omega, by omega, rfl, HS0⟩
  case round =>
    clear HS0
    obtain ⟨i, hin, hi8, hgg, rfl, HS⟩ := hrel
    rename World => wq
    by_cases hlt : i < m
    · by_cases hlt8 : i < 200
      · have hltz : (i : Int) < (m : Int) := by omega
        have hlt8z : (i : Int) < 200 := by omega
        obtain ⟨D, hP, hDl, hB⟩ := HS.out
        obtain ⟨zb, zo, bv, kv, rfl, hzl, z0, z1, z2, z3, z4, z5, hdd⟩ := HC.out i hlt
        have y0 := (hB.cell (p := ⟨zb, zo + i * 6, none⟩) hzl).trans z0
        have y1 := (hB.cell (p := ⟨zb, zo + i * 6 + 1, none⟩) hzl).trans z1
        have y2 := (hB.cell (p := ⟨zb, zo + i * 6 + 2, none⟩) hzl).trans z2
        have y3 := (hB.cell (p := ⟨zb, zo + i * 6 + 3, none⟩) hzl).trans z3
        have y4 := (hB.cell (p := ⟨zb, zo + i * 6 + 4, none⟩) hzl).trans z4
        have y5 := (hB.cell (p := ⟨zb, zo + i * 6 + 5, none⟩) hzl).trans z5
        clear z0 z1 z2 z3 z4 z5
        generalize ds.getD i default = x at y0 y1 y2 y3 y4 y5 hdd
        have t1 := do_any hP hB.size bv kv x (hdd.below hB)
        have hbp := hP.a.bp
        obtain ⟨_, _, hRX⟩ := hP.r
        have hbq := hRX.bp
        have HK : Hid (D.S.length = z ∧ Below w.heap.size w wq ∧ ∀ k ∈ [p, g, bm, q], w.heap.size ≤ k) := ⟨hDl, hB, by simp; omega⟩
        clear hP hdd hDl hB hRX hbp hbq HS
        unfold ddV at t1
        go_wp2_with (go_at_call 25; refine t1.mono ?_; rintro e w3 ⟨rfl, hP3, hc3⟩; have HO : Hid (∃ D, Pair w3 p g bm q w.heap.size D ∧ D.S.length = z ∧ Below w.heap.size w w3) := ⟨⟨doD D x, hP3, by rw [doD_len]; exact HK.out.1, HK.out.2.1.trans (hc3.below HK.out.2.1.size HK.out.2.2)⟩⟩; clear hP3 hc3 t1)
        go_roundg (200 - (i + 1))
        case measure => omega
        case rel => exact ⟨i + 1, by omega, by omega, by omega, by go_num, HO⟩
      · obtain rfl : i = 200 := by omega
        have hltz : ((200 : Nat) : Int) < (m : Int) := by omega
        go_wp2_with fail
        go_ret3
        obtain ⟨D, h1, h2, h3⟩ := HS.out
        exact ⟨p, g, bm, q, D, rfl, h1, h2, h3⟩
    · obtain rfl : i = m := by omega
      go_wp2_with fail
      go_ret3
      obtain ⟨D, h1, h2, h3⟩ := HS.out
      exact ⟨p, g, bm, q, D, rfl, h1, h2, h3⟩

theorem walk_diskPlays (n : Int) (v : Value) (ds : List Dd) (w : World) (_ : (Lit.int .i64 n).wf = true) (hv : Deeds w v ds) : Calls Try.prog 4 #[.int .i64 n, v] w fun e w' => e = .returned (.bool true) ∧ Below w.heap.size w w' := by
  have t1 := play_any n v ds w hv
  obtain ⟨ao, cap, rfl, _⟩ := hv
  generalize ds.length = m at t1
  go_enter Try.func4, Try.ntmps4
  go_wp2_with (first
    | (go_at_call 15; refine t1.mono ?_; rintro e w1 ⟨p, g, bm, q, D, rfl, hP, hD, hb1⟩; clear t1)
    | (go_at_call 10; refine (live_any _).mono ?_; rintro e w2 ⟨rfl, hb2⟩; have t3 := alike_any (hP.below hb2); have hb12 := hb1.trans (hb2.mono hb1.size); clear hb1 hb2 hP)
    | (go_at_call 16; refine t3.mono ?_; rintro e w3 ⟨rfl, hb3⟩; have hb13 := hb12.trans (hb3.mono hb12.size); clear hb12 hb3 t3))
  go_ret
  exact ⟨rfl, hb13⟩
end Go.Proofs.Ytmcikhdfpmkpnaa
