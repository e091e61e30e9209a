/- The walk of FieldWeights. -/
import Derived.Test.YtkleaaopbhbpmaaW2
namespace Go.Proofs.Ytkleaaopbhbpmaa
open Go.RowKit Gf

theorem RdG.take {w : World} {a : Option Addr} {n c : Nat} {l : List G} (h : RdG w (.slice a n c) l) (k : Nat) (hk : k ≤ n) : RdG w (.slice a k c) (l.take k) := by
  have hn : n = l.length := by obtain ⟨a', c', e, _⟩ := h.shape; simp at e; exact e.2.1
  obtain ⟨a', c', e, h1, h2, h3, h4⟩ := h
  simp only [Value.slice.injEq] at e
  obtain ⟨rfl, e2, rfl⟩ := e
  have hl : (yv ((l.take k).map gi)).length = k := by simp [yv]; omega
  refine ⟨a, c, by rw [hl], by rw [hl]; omega, h2, h3, fun x hx i hi => ?_⟩
  rw [hl] at hi
  have h5 := h4 x hx i (by rw [← e2]; omega)
  rw [h5]
  simp [yv, hi]
section
variable {w : World}
set_option maxHeartbeats 4000000 in
set_option maxRecDepth 100000 in
theorem weights7a (a : Option Addr) (n c : Nat) (l : List G) (x : G) (hv : RdG w (.slice a n c) l) (hn : 300 < n) (hnc : n ≤ c) (hc : c ≤ maxLen) : Calls Try.prog 7 #[.slice a n c, .int .u8 (gi x)] w fun e w' => e = .returned (.bool true) ∧ Below w.heap.size w w' := by
  have hl : l.length = n := by obtain ⟨a', c', e, _⟩ := hv.shape; simp at e; exact e.2.1.symm
  have h2 : RdG w (.slice a 300 c) (l.take 300) := hv.take 300 (by omega)
  have hl2 : (l.take 300).length = 300 := by rw [List.length_take]; omega
  have t1 := weights_many (w := w) x _ _ h2 (by rw [hl2]; decide)
  have t2 := rweights_many (w := w) x _ _ h2 (by rw [hl2]; decide)
  have t3 := live12 (w := w)
  have hc' : c ≤ 9223372036854775807 := hc
  have h300 : (300 : Int) < (n : Int) := by omega
  have h300c : (300 : Int) ≤ (c : Int) := by omega
  clear hv h2 hl hl2 hc
  generalize gi x = y at *
  go_enter Try.func7, Try.ntmps7
  go_wp2_with fail
  refine (t1).mono ?_
  rintro e x1 ⟨rfl, rfl⟩
  go_wp2_with fail
  refine (t2).mono ?_
  rintro e x2 ⟨rfl, rfl⟩
  go_wp2_with fail
  refine (t3).mono ?_
  rintro e x3 ⟨rfl, hb⟩
  have HB3 : Hid (Below w.heap.size w x3) := ⟨hb⟩
  clear hb
  have r1 := run_strG (w := x3) (v := .slice none 0 0) (l := []) (ownG_nil x3 0).rd
  generalize strG [] = st at r1
  go_wp2_with fail
  go_ret
  exact ⟨rfl, HB3.out⟩
set_option maxHeartbeats 4000000 in
set_option maxRecDepth 100000 in
theorem weights7b (a : Option Addr) (n c : Nat) (l : List G) (x : G) (hv : RdG w (.slice a n c) l) (hn : n ≤ 300) (hn2 : 256 < n) : Calls Try.prog 7 #[.slice a n c, .int .u8 (gi x)] w fun e w' => e = .returned (.bool true) ∧ Below w.heap.size w w' := by
  have hl : l.length = n := by obtain ⟨a', c', e, _⟩ := hv.shape; simp at e; exact e.2.1.symm
  have t1 := weights_many (w := w) x _ _ hv (by omega)
  have t2 := rweights_many (w := w) x _ _ hv (by omega)
  have t3 := live12 (w := w)
  have h300 : ¬ (300 : Int) < (n : Int) := by omega
  clear hv hl
  generalize gi x = y at *
  go_enter Try.func7, Try.ntmps7
  go_wp2_with fail
  refine (t1).mono ?_
  rintro e x1 ⟨rfl, rfl⟩
  go_wp2_with fail
  refine (t2).mono ?_
  rintro e x2 ⟨rfl, rfl⟩
  go_wp2_with fail
  refine (t3).mono ?_
  rintro e x3 ⟨rfl, hb⟩
  have HB3 : Hid (Below w.heap.size w x3) := ⟨hb⟩
  clear hb
  have r1 := run_strG (w := x3) (v := .slice none 0 0) (l := []) (ownG_nil x3 0).rd
  generalize strG [] = st at r1
  go_wp2_with fail
  go_ret
  exact ⟨rfl, HB3.out⟩
set_option maxHeartbeats 4000000 in
set_option maxRecDepth 100000 in
theorem weights7c (a : Option Addr) (n c : Nat) (l : List G) (x : G) (hv : RdG w (.slice a n c) l) (hn : n ≤ 256) : Calls Try.prog 7 #[.slice a n c, .int .u8 (gi x)] w fun e w' => e = .returned (.bool true) ∧ Below w.heap.size w w' := by
  have hl : l.length = n := by obtain ⟨a', c', e, _⟩ := hv.shape; simp at e; exact e.2.1.symm
  have t1 := weights21 (w := w) x _ _ hv (by omega)
  have T2 : Hid (∀ W, Below w.heap.size w W → Calls Try.prog 22 #[.slice a n c, .int .u8 (gi x)] W fun e w' => ∃ v' c, e = .returned (.tuple #[v', .int .i64 c]) ∧ WRes W w' l x v' c ∧ Below W.heap.size W w') := ⟨fun W hB => rweights22 x _ l (hv.far (Chg.ofBelow (X := []) hB) (by simp)) (by omega)⟩
  have h300 : ¬ (300 : Int) < (n : Int) := by omega
  clear hv hl
  obtain ⟨y, Hy⟩ : ∃ r, Hid (gi x = r) := ⟨_, ⟨rfl⟩⟩
  rw [Hy.out] at t1 T2 ⊢
  go_enter Try.func7, Try.ntmps7
  go_wp2_with fail
  refine t1.mono ?_
  rintro e w1 ⟨v1, c1, rfl, hw1, hb1⟩
  have HW1 := Hid.mk hw1
  have HB1 := Hid.mk hb1
  have HS1 : Hid (∃ sa sn sc, v1 = .slice sa sn sc) := ⟨by
    rcases hw1 with ⟨_, _, h⟩ | ⟨_, _, h⟩
    · obtain ⟨p, q, e, _⟩ := h.rd.shape; exact ⟨p, _, q, e⟩
    · exact ⟨_, _, _, h⟩⟩
  clear t1 hw1 hb1
  obtain ⟨a1, n1, k1, rfl⟩ := HS1.out
  go_wp2_with fail
  refine (T2.out _ HB1.out).mono ?_
  rintro e w2 ⟨v2, c2, rfl, hw2, hb2⟩
  have HW2 := Hid.mk hw2
  have HC2 := Hid.mk hb2
  have HB2 : Hid (Below w.heap.size w w2) := ⟨HB1.out.trans (hb2.mono HB1.out.size)⟩
  have HS2 : Hid (∃ sa sn sc, v2 = .slice sa sn sc) := ⟨by
    rcases hw2 with ⟨_, _, h⟩ | ⟨_, _, h⟩
    · obtain ⟨p, q, e, _⟩ := h.rd.shape; exact ⟨p, _, q, e⟩
    · exact ⟨_, _, _, h⟩⟩
  clear hw2 hb2
  obtain ⟨a2, n2, k2, rfl⟩ := HS2.out
  have t3 := live12 (w := w2)
  have HE : Hid (c1 = c2) := ⟨by
    rcases HW1.out with ⟨h, e, _⟩ | ⟨h, e, _⟩ <;> rcases HW2.out with ⟨h', e', _⟩ | ⟨h', e', _⟩
    · rw [e, e']
    · exact absurd h h'
    · exact absurd h' h
    · rw [e, e']⟩
  have HR : Hid (∃ L, RdG w2 (.slice a1 n1 k1) L ∧ RdG w2 (.slice a2 n2 k2) L) := ⟨by
    rcases HW1.out with ⟨h, e, h3⟩ | ⟨h, e, h3⟩ <;> rcases HW2.out with ⟨h', e', h3'⟩ | ⟨h', e', h3'⟩
    · exact ⟨_, h3.rd.far (Chg.ofBelow (X := []) HC2.out) (by simp), h3'.rd⟩
    · exact absurd h h'
    · exact absurd h' h
    · rw [h3, h3']; exact ⟨[], (ownG_nil w2 0).rd, (ownG_nil w2 0).rd⟩⟩
  obtain rfl := HE.out
  clear HW1 HW2 HE
  go_wp2_with fail
  refine t3.mono ?_
  rintro e w3 ⟨rfl, hb3⟩
  have HC3 := Hid.mk hb3
  have HB3 : Hid (Below w.heap.size w w3) := ⟨HB2.out.trans (hb3.mono HB2.out.size)⟩
  obtain ⟨L, hL1, hL2⟩ := HR.out
  have r1 := run_strG (hL1.far (Chg.ofBelow (X := []) hb3) (by simp))
  have r2 := run_strG (hL2.far (Chg.ofBelow (X := []) hb3) (by simp))
  clear t3 hb3 hL1 hL2
  generalize strG L = st at r1 r2
  go_wp2_with fail
  go_ret
  exact ⟨rfl, HB3.out⟩
end
theorem walk_fieldWeights (v : Value) (l : List G) (x : Int) (W : World) (hv : GV W v l) (w1 : (Lit.int .u8 x).wf = true) : Calls Try.prog 7 #[v, .int .u8 x] W fun e w' => e = .returned (.bool true) ∧ Below W.heap.size W w' := by
  obtain ⟨x, rfl⟩ := of_u8 w1
  obtain ⟨a, c, rfl, h1, h2, _⟩ := hv.rd.shape
  by_cases h : 300 < l.length
  · exact weights7a a _ c l x hv.rd h h1 h2
  · by_cases h' : 256 < l.length
    · exact weights7b a _ c l x hv.rd (by omega) h'
    · exact weights7c a _ c l x hv.rd (by omega)
end Go.Proofs.Ytkleaaopbhbpmaa
