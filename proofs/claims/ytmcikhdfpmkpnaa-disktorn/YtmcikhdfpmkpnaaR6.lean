/- The document's Flush. -/
import Derived.Test.YtmcikhdfpmkpnaaR5
namespace Go.Proofs.Ytmcikhdfpmkpnaa
open Go.RowKit Go.Maps Go.Sort Go.Shelf

theorem wp_app1Q {ops : Array Oper} {rest : List Oper} {o : Oper} {a : Act} {Q : Exit → Act → World → Prop} {w : World} (s : Sec) {x1 x2 : ByteArray} {x3 : Bool} {H : Nat} (hgd : o.guard = none) (x y : Operand)
    (ho : o.op = .call { callee := .builtin .append, args := #[x, y], argTypes := #[50, 50] })
    (h1 : x1 = strOfNums s.1) (h2 : x2 = strOfNums (s.2.getD [])) (h3 : x3 = s.2.isSome) (hH : w.heap.size = H)
    {base : Nat} {v : Value} {S : List Sec} (hs : a.eval x = v) (hown : OwnP w base v S)
    (hx : a.eval y = .slice (some ⟨H, 0, none⟩) 1 1) (hlen : S.length ≤ 5000) (hbase : base ≤ w.heap.size)
    (h : ∀ v' w', OwnP w' base v' (S ++ [s]) → Below base w w' → wpList Try.prog ops Q rest (a.put o.dst v') w') :
    wpList Try.prog ops Q (o :: rest) a (w.alloc (.cells #[.string x1, .string x2, .bool x3] 54)) := by
  subst h1 h2 h3 hH
  exact wp_app1P hgd x y ho hs hown hx hlen hbase h
theorem flush_take (S : List Sec) {k : Nat} (hk : k < S.length) : (flush S).take (k + 1) = (flush S).take k ++ [(now (sec S k), none)] := by
  rw [List.take_add_one]
  congr 1
  simp [flush, sec, List.getElem?_eq_getElem hk, List.getD]
theorem flush_length (S : List Sec) : (flush S).length = S.length := by simp [flush]

set_option maxHeartbeats 2000000 in
theorem rflush_any {w : World} {q base : Nat} {d : Dk} (h : Rf w q base d) (hbs : base ≤ w.heap.size) :
    Calls Try.prog 43 #[.pointer (some ⟨q, 0, none⟩)] w fun e w' => e = .returned (.int .i64 (fluE d)) ∧ Rf w' q base (fluD d) ∧ Chg [q] w w' := by
  have HA : Hid (Rf w q base d) := ⟨h⟩
  unfold fluE fluD
  obtain ⟨v, ar, h0⟩ := h
  obtain ⟨_, _, c2, _⟩ := h0.cells
  cases hd : d.down with
  | true =>
    rw [hd] at c2
    clear h0
    go_enter Try.func43, Try.ntmps43
    go_wp2
    go_ret
    exact ⟨rfl, HA.out, Chg.refl _ _⟩
  | false =>
    rw [hd] at c2
    simp only [Bool.false_eq_true, if_false]
    by_cases ht : d.trip = 1
    · simp only [ht, if_true]
      have t1 := trips_yes HA.out hd ht
      rw [ht] at t1
      clear h0
      go_enter Try.func43, Try.ntmps43
      go_wp2_with (go_at_call 52; refine t1.mono ?_; rintro e w1 ⟨rfl, hR, hc⟩; clear t1)
      go_ret
      exact ⟨rfl, hR, hc⟩
    · simp only [ht, if_false]
      have t1 := trips_no HA.out hd ht
      rw [hd] at t1
      clear h0
      obtain ⟨d1, Hd1⟩ : ∃ d1 : Dk, Hid (d1 = { S := d.S, trip := dec d.trip, down := false, life := d.life }) := ⟨_, ⟨rfl⟩⟩
      have HS : Hid (d1.S = d.S) := ⟨by rw [Hd1.out]⟩
      rw [← Hd1.out] at t1 ⊢
      go_enter Try.func43, Try.ntmps43
      go_wp2_with (go_at_call 52; refine t1.mono ?_; rintro e w1 ⟨rfl, hR, hc⟩; clear t1)
      clear c2
      obtain ⟨v1, ar1, hX⟩ := hR
      have HX : Hid (RfX w1 q base v1 ar1 d1) := ⟨hX⟩
      obtain ⟨ao, cap, rfl, hcell⟩ := hX.own.shape
      have HC : Hid (∀ j, j < d1.S.length → ∃ g, ao = some ⟨g, 0, none⟩ ∧ w1.cell? ⟨g, j * 3, none⟩ = some (.string (strOfNums (sec d1.S j).1)) ∧ w1.cell? ⟨g, j * 3 + 1, none⟩ = some (.string (strOfNums ((sec d1.S j).2.getD []))) ∧ w1.cell? ⟨g, j * 3 + 2, none⟩ = some (.bool (sec d1.S j).2.isSome)) := ⟨hcell⟩
      have hlen := hX.len
      have hcc := hX.cells.1
      have hql := hX.lt
      obtain ⟨N, HN⟩ : ∃ N, Hid (d1.S.length = N) := ⟨_, ⟨rfl⟩⟩
      rw [HN.out] at hlen hcc HC
      have HO0 : Hid (OwnP (w1.alloc (.cells #[] 54)) w1.heap.size (.slice (some ⟨w1.heap.size, 0, none⟩) 0 0) ((flush d1.S).take 0)) := ⟨by rw [List.take_zero]; exact ownp_none w1⟩
      have HB0 : Hid (Below w1.heap.size w1 (w1.alloc (.cells #[] 54))) := ⟨(Below.refl _ w1).alloc (Nat.le_refl _) _⟩
      clear hX hcell
      go_loopg [3, 4, 5] N (fun gg s3 s4 _ wr => ∃ kk : Nat, kk ≤ N ∧ N - kk ≤ gg ∧ s4 = .int .i64 (kk : Int) ∧ Hid (Below w1.heap.size w1 wr) ∧ Hid (OwnP wr w1.heap.size s3 ((flush d1.S).take kk)))
      case atStart => exact ⟨0, Nat.zero_le _, by omega, rfl, HB0, HO0⟩
      case round =>
        clear HO0 HB0
        obtain ⟨kk, hkk, hgg, rfl, HB, HO⟩ := hrel
        have d0 : wr.cell? ⟨q, 0, none⟩ = some (.slice ao N cap) := (HB.out.cell (p := ⟨q, 0, none⟩) hql).trans hcc
        by_cases hlt : kk < N
        · have hltz : (kk : Int) < (N : Int) := by omega
          have hkS : kk < d1.S.length := by rw [HN.out]; exact hlt
          obtain ⟨g, rfl, k0, k1, k2⟩ := HC.out kk hlt
          have j0 := (HB.out.cell (World.block_lt_of_cell? _ _ k0)).trans k0
          have j1 := (HB.out.cell (World.block_lt_of_cell? _ _ k1)).trans k1
          have j2 := (HB.out.cell (World.block_lt_of_cell? _ _ k2)).trans k2
          have HT : Hid ((flush d1.S).take (kk + 1) = (flush d1.S).take kk ++ [(now (sec d1.S kk), none)]) := ⟨flush_take _ hkS⟩
          have hlt1 : ((flush d1.S).take kk).length ≤ 5000 := by rw [List.length_take, flush_length]; omega
          have hsz := HB.out.size
          clear k0 k1 k2
          cases hs : (sec d1.S kk).2 with
          | none =>
            have hnw : now (sec d1.S kk) = (sec d1.S kk).1 := by unfold now; rw [hs]; rfl
            rw [hnw] at HT
            rw [hs] at j1 j2
            have HO1 : Hid (OwnP (wr.alloc (.cells #[.string (strOfNums (sec d1.S kk).1), .string (strOfNums []), .bool false] 54)) w1.heap.size u3 ((flush d1.S).take kk)) := ⟨World.ownsRow.alloc HO.out _⟩
            have HB1 : Hid (Below w1.heap.size w1 (wr.alloc (.cells #[.string (strOfNums (sec d1.S kk).1), .string (strOfNums []), .bool false] 54))) := ⟨HB.out.alloc hsz _⟩
            have hsz1 : w1.heap.size ≤ (wr.alloc (.cells #[.string (strOfNums (sec d1.S kk).1), .string (strOfNums []), .bool false] 54)).heap.size := HB1.out.size
            simp only [Option.getD_none, Option.isSome_none] at j1 j2
            go_wp2_with (at_builtin; refine wp_app1Q ((sec d1.S kk).1, none) rfl (.tmp 36) (.tmp 38) rfl rfl rfl rfl (size_alloc _ _) rfl HO1.out rfl hlt1 hsz1 ?_; intro v' w2 hv' hb')
            go_roundg (N - (kk + 1))
            case measure => omega
            case rel => exact ⟨kk + 1, by omega, by omega, by go_num, ⟨HB1.out.trans hb'⟩, ⟨by rw [HT.out]; exact hv'⟩⟩
          | some l =>
            have hnw : now (sec d1.S kk) = l := by unfold now; rw [hs]; rfl
            rw [hnw] at HT
            rw [hs] at j1 j2
            have HO1 : Hid (OwnP (wr.alloc (.cells #[.string (strOfNums l), .string (strOfNums []), .bool false] 54)) w1.heap.size u3 ((flush d1.S).take kk)) := ⟨World.ownsRow.alloc HO.out _⟩
            have HB1 : Hid (Below w1.heap.size w1 (wr.alloc (.cells #[.string (strOfNums l), .string (strOfNums []), .bool false] 54))) := ⟨HB.out.alloc hsz _⟩
            have hsz1 : w1.heap.size ≤ (wr.alloc (.cells #[.string (strOfNums l), .string (strOfNums []), .bool false] 54)).heap.size := HB1.out.size
            simp only [Option.getD_some, Option.isSome_some] at j1 j2
            go_wp2_with (at_builtin; refine wp_app1Q (l, none) rfl (.tmp 36) (.tmp 38) rfl rfl rfl rfl (size_alloc _ _) rfl HO1.out rfl hlt1 hsz1 ?_; intro v' w2 hv' hb')
            go_roundg (N - (kk + 1))
            case measure => omega
            case rel => exact ⟨kk + 1, by omega, by omega, by go_num, ⟨HB1.out.trans hb'⟩, ⟨by rw [HT.out]; exact hv'⟩⟩
        · obtain rfl : kk = N := by omega
          have f0 : wr.frozen? ⟨q, 0, none⟩ = false := (HX.out.below HB.out).frozen 0
          have hfin : (flush d1.S).take kk = flush d1.S := List.take_of_length_le (by rw [flush_length, HN.out]; exact Nat.le_refl _)
          have hO := HO.out
          rw [hfin] at hO
          obtain ⟨ao3, cp3, rfl, _⟩ := hO.shape
          have HR : Hid (Rf (wr.setCell ⟨q, 0, none⟩ (.slice ao3 (flush d1.S).length cp3)) q base (flD d1) ∧ Chg [q] w (wr.setCell ⟨q, 0, none⟩ (.slice ao3 (flush d1.S).length cp3))) := ⟨by
            refine ⟨((HX.out.below HB.out).setS (hO.mono (Nat.le_trans hbs hc.size)) (fun g hg => ?_) (ok_flush HX.out.ok) (by rw [flush_length, HN.out]; exact hlen)).rf, (hc.trans (Chg.ofBelow HB.out)).setCell (.inl (by simp)) _⟩
            have := (hO.lt g hg).1
            omega⟩
          generalize (flush d1.S).length = fln at HR
          clear hO HO
          go_wp2
          go_ret
          exact ⟨rfl, HR.out⟩
end Go.Proofs.Ytmcikhdfpmkpnaa
