/- container/heap.Push, Pop; takeLeast. -/
import Derived.Test.YtjcojpddjhjhbaaC9
namespace Go.Proofs.Ytjcojpddjhjhbaa
open Go.RowKit Go.Lib Go.Shelf

theorem box_row {w : World} {b base : Nat} {sl : Value} {L : List Sh} (h : Box w b base sl L) (h0 : 0 < L.length) : ∃ g c, sl = .slice (some ⟨g, 0, none⟩) L.length c ∧ c ≤ maxLen ∧ base ≤ g ∧ b ≠ g := by
  obtain ⟨a, c, rfl, _, hc, _⟩ := (h.own.rd s0).shape
  obtain ⟨g, cur, rfl, hb, _⟩ := own_row h.own.own h0
  exact ⟨g, c, rfl, hc, hb, fun e => h.not (by rw [e]; simp [ob, Value.ownBlock])⟩
section
variable {w : World}
set_option maxHeartbeats 8000000 in
set_option maxRecDepth 100000 in
theorem push24 {base b : Nat} {sl : Value} {L : List Sh} (h : Box w b base sl L) (hL : L.length ≤ 5864062014800) (hbase : base ≤ w.heap.size) (hb : base ≤ b) (hr : AllRt L) (hH : Heap L L.length) (x1 x2 x3 : Int) (hx : Rt (x1, x2, x3)) :
    Calls Try.prog 24 #[.iface 59 (.pointer (some ⟨b, 0, none⟩)), .iface 27 (.agg #[.int .i64 x1, .int .i64 x2, .int .i64 x3])] w fun e w' => e = .returned (.tuple #[]) ∧ ∃ sl', ∃ L', Box w' b base sl' L' ∧ L'.Perm (L ++ [(x1, x2, x3)]) ∧ Heap L' L'.length ∧ Below base w w' := by
  have e70 := eg70
  have e77 := eg77
  have m1 := finds_push w b
  have t1 := push77 h hL hbase x1 x2 x3
  have HObl : Hid (∀ g ∈ ob sl, base ≤ g) := ⟨fun g hg => (h.own.lt g hg).1⟩
  have Hbase := Hid.mk hbase
  have HrA : Hid (AllRt (L ++ [(x1, x2, x3)])) := ⟨fun s hs => by
    rcases List.mem_append.1 hs with h1 | h1
    · exact hr s h1
    · simp at h1; subst h1; exact hx⟩
  have HuA := Hid.mk (up_last (x := (x1, x2, x3)) hH)
  clear h hr hH hbase hx
  go_enter Try.func24, Try.ntmps24
  go_wp2_with fail
  refine t1.mono ?_
  rintro e w1 ⟨rfl, sl1, hX1, hG1⟩
  have HB1 : Hid (Below base w w1) := ⟨hG1.below Hbase.out (fun x hx => by
    rcases List.mem_cons.1 hx with rfl | hx
    · exact hb
    · exact HObl.out x hx)⟩
  obtain ⟨g, c, rfl, hc, hbg0, hbg⟩ := box_row hX1 (by simp)
  obtain ⟨n, Hn⟩ : ∃ n, Hid ((L ++ [(x1, x2, x3)]).length = n) := ⟨_, ⟨rfl⟩⟩
  have HnL : Hid (L.length + 1 = n) := ⟨by rw [← Hn.out]; simp⟩
  rw [Hn.out] at hX1
  have HX1 := Hid.mk hX1
  have m2 := finds_len w1 b _ hX1.cell
  have t2 := len70 (w := w1) (some ⟨g, 0, none⟩) n c
  have hn1 : (n : Int) - 1 = ((L.length : Nat) : Int) := by have := HnL.out; omega
  obtain ⟨k, Hk⟩ : ∃ k, Hid (L.length = k) := ⟨_, ⟨rfl⟩⟩
  rw [Hk.out] at hn1
  have hkb : k ≤ 5864062014800 := by rw [← Hk.out]; exact hL
  have hnb : n ≤ 5864062014801 := by have := HnL.out; omega
  have t3 := up30 hX1 Hn.out hc HrA.out (j := k) (by have := HnL.out; have := Hk.out; omega) (by have := HuA.out; rw [HnL.out, Hk.out] at this; exact this) hbg
  clear t1 m1 hX1 hG1
  go_wp2_with fail
  refine t2.mono ?_
  rintro e w2 ⟨rfl, rfl⟩
  clear t2 m2
  go_wp2_with fail
  refine t3.mono ?_
  rintro e w3 ⟨rfl, L3, hX3, hP3, hH3, hG3⟩
  have HX3 := Hid.mk hX3
  have HP3 := Hid.mk hP3
  have HH3 := Hid.mk hH3
  have HB3 : Hid (Below base w w3) := ⟨HB1.out.trans (hG3.below (Nat.le_trans Hbase.out HB1.out.size) (by simpa using hbg0))⟩
  clear t3 hX3 hP3 hH3 hG3
  go_wp2_with fail
  go_end0
  exact ⟨rfl, _, L3, HX3.out, HP3.out, by rw [HP3.out.length_eq, Hn.out]; exact HH3.out, HB3.out⟩
set_option maxHeartbeats 8000000 in
set_option maxRecDepth 100000 in
theorem pop31 {base b n : Nat} {sl : Value} {L : List Sh} (h : Box w b base sl L) (hn : L.length = n + 1) (hL : L.length ≤ 5864062014800) (hr : AllRt L) (hH : Heap L L.length) :
    Calls Try.prog 31 #[.iface 59 (.pointer (some ⟨b, 0, none⟩))] w fun e w' => ∃ x1 x2 x3 : Int, e = .returned (.iface 27 (.agg #[.int .i64 x1, .int .i64 x2, .int .i64 x3])) ∧ ∃ sl', ∃ L', Box w' b base sl' L' ∧ L.Perm ((x1, x2, x3) :: L') ∧ (∀ s ∈ L, shl s (x1, x2, x3) = false) ∧ Heap L' L'.length ∧ (∀ x ∈ ob sl', x ∈ ob sl) ∧ Chg (b :: ob sl) w w' := by
  have e70 := eg70
  have e72 := eg72
  have e76 := eg76
  obtain ⟨g, c, rfl, hc, _, hbg⟩ := box_row h (by omega)
  rw [show ob (.slice (some ⟨g, 0, none⟩) L.length c) = [g] by simp [ob, Value.ownBlock]]
  rw [hn] at h hH hL
  have HX := Hid.mk h
  have m1 := finds_len w b _ h.cell
  have m2 := finds_swap w b _ h.cell
  have t1 := len70 (w := w) (some ⟨g, 0, none⟩) (n + 1) c
  have t2 := swap72 h.own hn hc (i := 0) (j := n) (by omega) (by omega)
  have Hmin : Hid (∀ s ∈ L, shl s (At L 0) = false) := ⟨fun s hs => by
    obtain ⟨k, hk, e⟩ := List.mem_iff_getElem.1 hs
    have := heap_min hr hH k (by omega)
    simp only [At, List.getD, List.getElem?_eq_getElem hk, Option.getD_some, e] at this
    exact this⟩
  have Hdn := Hid.mk (dn_first hn hH)
  have HrS : Hid (AllRt (swp L 0 n)) := ⟨swp_rt (by omega) (by omega) hr⟩
  have HpS : Hid ((swp L 0 n).Perm L) := ⟨swp_perm (by omega) (by omega)⟩
  have HlS : Hid ((swp L 0 n).length = n + 1) := ⟨by rw [swp_len, hn]⟩
  have HaS : Hid (At (swp L 0 n) n = At L 0) := ⟨by rw [swp_at (by omega) (by omega), if_pos rfl]⟩
  obtain ⟨⟨x1, x2, x3⟩, Hx⟩ : ∃ x, Hid (At L 0 = x) := ⟨_, ⟨rfl⟩⟩
  rw [Hx.out] at Hmin HaS
  obtain ⟨m, Hm⟩ : ∃ m, Hid (n + 1 = m) := ⟨_, ⟨rfl⟩⟩
  rw [Hm.out] at t1 t2 m1 m2 HlS
  have hm1 : (m : Int) - 1 = (n : Int) := by have := Hm.out; omega
  have hnb : n ≤ 10000000000000 := by omega
  have Hbg := Hid.mk hbg
  clear h hn hL hr hH hbg
  go_enter Try.func31, Try.ntmps31
  go_wp2_with fail
  refine t1.mono ?_
  rintro e w1 ⟨rfl, rfl⟩
  clear t1 m1
  go_wp2_with fail
  refine t2.mono ?_
  rintro e w2 ⟨rfl, hO2, hG2⟩
  have HX2 : Hid (Box w2 b base (.slice (some ⟨g, 0, none⟩) m c) (swp L 0 n)) := ⟨⟨(hG2.block b HX.out.lt (by simpa using Hbg.out)).trans (by rw [HX.out.box, Hm.out]), hO2⟩⟩
  have HB2 : Hid (Chg [b, g] w w2) := ⟨hG2.mono (by simp)⟩
  have t3 := down35 HX2.out HlS.out hc HrS.out (n := n) (by have := Hm.out; omega) hnb Hdn.out Hbg.out
  clear t2 m2 hO2 hG2
  go_wp2_with fail
  refine t3.mono ?_
  rintro e w3 ⟨y, rfl, L3, hX3, hP3, hH3, hF3, hG3⟩
  have HB3 : Hid (Chg [b, g] w w3) := ⟨HB2.out.trans (hG3.mono (by simp))⟩
  have Hl3 : Hid (L3.length = n + 1) := ⟨by rw [hP3.length_eq, HlS.out, Hm.out]⟩
  have Ha3 : Hid (At L3 n = (x1, x2, x3)) := ⟨(hF3 n (Nat.le_refl _)).trans HaS.out⟩
  have HP3 : Hid (L.Perm ((x1, x2, x3) :: L3.take n)) := ⟨by have := (HpS.out.symm.trans hP3.symm).trans (take_last Hl3.out); rw [Ha3.out] at this; exact this⟩
  have HH3 : Hid (Heap (L3.take n) n) := ⟨heap_take hH3⟩
  have m4 := finds_pop w3 b
  have t4 := pop76 (n := n) (L := L3) (by rw [Hm.out]; exact hX3) Hl3.out hc Hbg.out
  rw [Ha3.out] at t4
  clear t3 hX3 hP3 hH3 hF3 hG3
  go_wp2_with fail
  refine t4.mono ?_
  rintro e w4 ⟨rfl, hX4, hG4⟩
  have HX4 := Hid.mk hX4
  have HB4 : Hid (Chg [b, g] w w4) := ⟨HB3.out.trans hG4⟩
  clear t4 m4 hX4 hG4
  go_wp2_with fail
  go_ret
  exact ⟨x1, x2, x3, rfl, _, L3.take n, HX4.out, HP3.out, Hmin.out, by rw [List.length_take, Hl3.out, Nat.min_eq_left (by omega)]; exact HH3.out, fun x hx => hx, HB4.out⟩
end
end Go.Proofs.Ytjcojpddjhjhbaa
