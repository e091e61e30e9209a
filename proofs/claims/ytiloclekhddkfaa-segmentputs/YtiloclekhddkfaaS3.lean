/- Package segment's commonest. -/
import Derived.Test.YtiloclekhddkfaaS2
namespace Go.Proofs.Ytiloclekhddkfaa
open Go.RowKit Go.Lib Go.Shelf Go.Maps

/-- The map of counts at block mb. -/
structure Counts (w wr : World) (mb : Nat) (S : List Int) (best most : Int) : Prop where
  map : ∃ D, wr.ownsMap Try.prog 3 (plainElem Try.prog 3) mb S.length D ∧ Tally D S
  top : Top S best most
  below : Below w.heap.size w wr
theorem Counts.look {w wr : World} {mb : Nat} {S : List Int} {best most : Int} (h : Counts w wr mb S best most) (hmb : w.heap.size ≤ mb) (n : Int) (hn : -9223372036854775808 ≤ n ∧ n ≤ 9223372036854775807) (hS : S.length ≤ 1000000000000) :
    ∃ w3, (Instr.lookup 74 (.map (some mb)) (.int .i64 n) false).run Try.prog wr = .ok (.int .i64 ((S.count n : Nat) : Int)) wr ∧ (Instr.mapUpdate 74 (.map (some mb)) (.int .i64 n) (.int .i64 (((S.count n : Nat) : Int) + 1))).run Try.prog wr = .ok () w3 ∧
      (Instr.lookup 74 (.map (some mb)) (.int .i64 n) false).run Try.prog w3 = .ok (.int .i64 (((S.count n : Nat) : Int) + 1)) w3 ∧
      (∀ b m, Top (S ++ [n]) b m → Counts w w3 mb (S ++ [n]) b m) := by
  obtain ⟨D, hO, hT⟩ := h.map
  have hc := count_le' S n
  have hkey : keyOf Try.prog 3 (.int .i64 n) = some (.int .i64 n) := keyOf_int_mk Try.underlying3 (WalkArith.wf_i64 hn)
  obtain ⟨c, hl, ha, _⟩ := hO.lookup_int keyed3 Try.underlying74 Try.underlying3 (zero3 wr) hkey
  rw [hT.at' n] at ha
  obtain rfl : c = ((S.count n : Nat) : Int) := by simpa using ha.symm
  obtain ⟨w3, hu, hO3, ht3⟩ := hO.store keyed3 Try.underlying74 (by unfold maxLen; omega) hkey (plainElem_int Try.underlying3 (a := ((S.count n : Nat) : Int) + 1) (WalkArith.wf_i64 ⟨by omega, by omega⟩))
  obtain ⟨c3, hl3, ha3, _⟩ := hO3.lookup_int keyed3 Try.underlying74 Try.underlying3 (zero3 w3) hkey
  rw [(hT.put n).at' n, count_snoc, if_pos rfl] at ha3
  obtain rfl : c3 = ((S.count n : Nat) : Int) + 1 := by simpa using ha3.symm
  refine ⟨w3, hl, hu, hl3, fun b m hb => ⟨⟨_, ?_, hT.put n⟩, hb, ?_⟩⟩
  · rw [List.length_append]; exact hO3
  · have hg := ht3.grown
    exact h.below.trans ⟨hg.os, hg.tape, hg.output, hg.size, fun k hk => hg.block k (Nat.lt_of_lt_of_le hk h.below.size) (by simp; omega)⟩

section
variable {w : World}
set_option maxHeartbeats 2000000 in
set_option maxRecDepth 100000 in
theorem common_any (v : Value) (M : List (List Int)) (h : ArgL w v M) (hL : M.length ≤ 1000000) (hLl : ∀ i, i < M.length → (M.getD i []).length ≤ 1000000) (hwf : ∀ i, i < M.length → ∀ x ∈ M.getD i [], -9223372036854775808 ≤ x ∧ x ≤ 9223372036854775807) :
    Calls Try.prog 29 #[v] w fun e w' => ∃ best most, e = .returned (.tuple #[.int .i64 best, .bool (decide (0 < most))]) ∧ Top M.flatten best most ∧ Below w.heap.size w w' := by
  have HA := Hid.mk h
  have HLl := Hid.mk hLl
  have Hwf := Hid.mk hwf
  have HF : Hid (∀ i, i ≤ M.length → (M.take i).flatten.length ≤ i * 1000000) := ⟨flat_len M 1000000 hLl⟩
  obtain ⟨n, Hn⟩ : ∃ n, Hid (M.length = n) := ⟨_, ⟨rfl⟩⟩
  obtain ⟨av, cv, rfl, hcv⟩ := h.shape
  rw [Hn.out] at hL hcv ⊢
  have hmm := @run_makeMap Try.prog
  clear h hLl hwf
  go_enter Try.func29, Try.ntmps29
  go_wp2_with fail
  have HC0 : Hid (Counts w (w.alloc (.map #[] 0)) w.heap.size [] 0 0) := ⟨⟨⟨_, World.ownsMap_made _ _ _ _, Tally.empty⟩, Top.empty, (Below.refl _ _).alloc (Nat.le_refl _) _⟩⟩
  obtain ⟨mb, Hmb⟩ : ∃ mb, Hid (w.heap.size = mb) := ⟨_, ⟨rfl⟩⟩
  rw [Hmb.out] at HC0 ⊢
  generalize w.alloc (.map #[] 0) = wm at HC0 ⊢
  go_loopg [5, 6, 8, 10, 11, 15] n (fun gg s5 s6 _ _ _ s15 wr => ∃ (kk : Nat) (b m : Int), kk ≤ n ∧ n - kk ≤ gg ∧ s15 = .int .i64 (kk : Int) ∧ s5 = .int .i64 b ∧ s6 = .int .i64 m ∧ Hid (Counts w wr mb (M.take kk).flatten b m))
  case atStart => exact ⟨0, 0, 0, Nat.zero_le _, by omega, rfl, rfl, rfl, HC0⟩
  case round =>
    clear HC0
    obtain ⟨kk, b, m, hkk, hgg, rfl, rfl, rfl, HC⟩ := hrel
    by_cases hlt : kk < n
    · have hltz : (kk : Int) < (n : Int) := by omega
      have hlL : kk < M.length := by rw [Hn.out]; exact hlt
      obtain ⟨b1, o1, c1, x1, m1, z1, e1, d1, y1⟩ := (HA.out.below HC.out.below).at' kk hlL
      rw [Hn.out] at e1
      simp at e1
      obtain ⟨rfl, rfl⟩ := e1
      obtain ⟨li, Hli⟩ : ∃ l, Hid (M.getD kk [] = l) := ⟨_, ⟨rfl⟩⟩
      have hll := HLl.out kk hlL
      have hlw := Hwf.out kk hlL
      have hfl := HF.out kk (by omega)
      have y0 : RdI w (.slice x1 m1 z1) (M.getD kk []) := by
        obtain ⟨b1', o1', c1', x1', m1', z1', e1', d1', y1'⟩ := HA.out.at' kk hlL
        rw [Hn.out] at e1'
        simp at e1'
        obtain ⟨⟨rfl, rfl⟩, rfl⟩ := e1'
        have := (HC.out.below.cell (World.block_lt_of_cell? _ _ d1')).trans d1'
        rw [d1] at this
        cases this
        exact y1'
      rw [Hli.out] at y1 hll hlw y0
      have Hlw := Hid.mk hlw
      have hm1 : li.length = m1 := by obtain ⟨_, _, e, _⟩ := y1.shape; simp at e; exact e.2.1.symm
      have Hm1 := Hid.mk hm1
      have Hy := Hid.mk y0
      obtain ⟨S0, HS0⟩ : ∃ S0, Hid ((M.take kk).flatten = S0) := ⟨_, ⟨rfl⟩⟩
      rw [HS0.out] at HC hfl
      have hb0 : S0.length + m1 ≤ 1000000000000 := by omega
      clear y1 hm1 hll hlw hfl y0
      go_wp2_with fail
      go_loopg [5, 6, 10, 11, 21] m1 (fun gg s5 s6 _ _ s21 wq => ∃ (jj : Nat) (b m : Int), jj ≤ m1 ∧ m1 - jj ≤ gg ∧ s21 = .int .i64 (jj : Int) ∧ s5 = .int .i64 b ∧ s6 = .int .i64 m ∧ Hid (Counts w wq mb (S0 ++ li.take jj) b m))
      case atStart => exact ⟨0, b, m, Nat.zero_le _, by omega, rfl, rfl, rfl, ⟨by simpa using HC.out⟩⟩
      case round =>
        clear HC
        obtain ⟨jj, b, m, hjj, hg2, rfl, rfl, rfl, HC⟩ := hrel
        rename World => wq
        by_cases hjl : jj < m1
        · have hjz : (jj : Int) < (m1 : Int) := by omega
          obtain ⟨b2, o2, c2, e2, _, hcell⟩ := (Hy.out.far (Chg.ofBelow (X := []) HC.out.below) (by simp)).at (i := jj) (by rw [Hm1.out]; exact hjl)
          rw [Hm1.out] at e2
          simp at e2
          obtain ⟨rfl, rfl⟩ := e2
          have hx := hcell jj (by rw [Hm1.out]; exact hjl)
          have HT : Hid (li.take (jj + 1) = li.take jj ++ [li.getD jj 0]) := ⟨take_snoc li jj (by rw [Hm1.out]; exact hjl)⟩
          have hxw := Hlw.out (li.getD jj 0) (by simp [List.getD, List.getElem?_eq_getElem (show jj < li.length by rw [Hm1.out]; exact hjl)])
          have hSl : (S0 ++ li.take jj).length ≤ 1000000000000 := by simp; omega
          clear hcell
          generalize li.getD jj 0 = x at hx HT hxw
          obtain ⟨w3, hl1, hu, hl2, hcn⟩ := HC.out.look (by rw [Hmb.out]; exact Nat.le_refl _) x hxw hSl
          have HN := Hid.mk hcn
          have HTop := Hid.mk HC.out.top
          have hcl := count_le' (S0 ++ li.take jj) x
          obtain ⟨S, HS⟩ : ∃ S, Hid (S0 ++ li.take jj = S) := ⟨_, ⟨rfl⟩⟩
          have HS' : Hid (S0 ++ li.take (jj + 1) = S ++ [x]) := ⟨by rw [HT.out, ← List.append_assoc, HS.out]⟩
          rw [HS.out] at hl1 hu hl2 HN HTop hSl hcl
          obtain ⟨c, Hc⟩ : ∃ c : Int, Hid (c = ((S.count x : Nat) : Int)) := ⟨_, ⟨rfl⟩⟩
          have hc0 : 0 ≤ c ∧ c ≤ 1000000000000 := by rw [Hc.out]; omega
          rw [← Hc.out] at hl1 hu hl2
          have hcw : wrap64 (c + 1) = c + 1 := IntWalk.wrap64_in _ ⟨by omega, by omega⟩
          clear hcn hcl hSl
          by_cases q1 : m < c + 1
          · have HR : Hid (Counts w w3 mb (S0 ++ li.take (jj + 1)) x (c + 1)) := ⟨by rw [HS'.out]; exact HN.out _ _ (HTop.out.new (by rw [Hc.out]) (.inl q1))⟩
            go_wp2
            go_roundg (m1 - (jj + 1))
            case measure => omega
            case rel => exact ⟨jj + 1, _, _, by omega, by omega, by go_num, rfl, rfl, HR⟩
          · by_cases q2 : c + 1 = m
            · obtain rfl : m = c + 1 := q2.symm
              clear q2
              by_cases q3 : b < x
              · have HR : Hid (Counts w w3 mb (S0 ++ li.take (jj + 1)) x (c + 1)) := ⟨by rw [HS'.out]; exact HN.out _ _ (HTop.out.new (by rw [Hc.out]) (.inr ⟨rfl, q3⟩))⟩
                go_wp2
                go_roundg (m1 - (jj + 1))
                case measure => omega
                case rel => exact ⟨jj + 1, _, _, by omega, by omega, by go_num, rfl, rfl, HR⟩
              · have HR : Hid (Counts w w3 mb (S0 ++ li.take (jj + 1)) b (c + 1)) := ⟨by rw [HS'.out]; exact HN.out _ _ (HTop.out.old (c := c + 1) (by rw [Hc.out]) q1 (fun q => q3 q.2))⟩
                go_wp2
                go_roundg (m1 - (jj + 1))
                case measure => omega
                case rel => exact ⟨jj + 1, _, _, by omega, by omega, by go_num, rfl, rfl, HR⟩
            · have HR : Hid (Counts w w3 mb (S0 ++ li.take (jj + 1)) b m) := ⟨by rw [HS'.out]; exact HN.out _ _ (HTop.out.old (c := c + 1) (by rw [Hc.out]) q1 (fun q => q2 q.1))⟩
              go_wp2
              go_roundg (m1 - (jj + 1))
              case measure => omega
              case rel => exact ⟨jj + 1, _, _, by omega, by omega, by go_num, rfl, rfl, HR⟩
        · obtain rfl : m1 = jj := by omega
          have HR : Hid (Counts w wq mb (M.take (kk + 1)).flatten b m) := ⟨by
            have := HC.out
            rw [List.take_of_length_le (by rw [Hm1.out]; exact Nat.le_refl _)] at this
            rw [flat_snoc M kk hlL, HS0.out, Hli.out]
            exact this⟩
          go_wp2
          go_roundg (n - (kk + 1))
          case measure => omega
          case rel => exact ⟨kk + 1, b, m, by omega, by omega, by go_num, rfl, rfl, HR⟩
    · obtain rfl : n = kk := by omega
      have HR := HC.out
      rw [List.take_of_length_le (by rw [Hn.out]; exact Nat.le_refl _)] at HR
      have HR' := Hid.mk HR
      clear HR
      go_wp2
      go_ret2
      exact ⟨b, m, rfl, HR'.out.top, HR'.out.below⟩
end
end Go.Proofs.Ytiloclekhddkfaa
