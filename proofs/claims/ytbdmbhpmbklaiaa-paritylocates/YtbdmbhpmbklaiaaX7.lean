/- The shard that is none of the group: Locate. -/
import Derived.Test.YtbdmbhpmbklaiaaX6
namespace Go.Proofs.Ytbdmbhpmbklaiaa
open Go.RowKit Go.Lib Go.Shelf Gf

/-- Among the first shards those without which the others are a group. -/
def fndI (L : List Sd) (k : Nat) : Nat → List Int
  | 0 => []
  | i + 1 => if gwB L k i then fndI L k i ++ [(i : Int)] else fndI L k i
theorem fnd_len (L : List Sd) (k : Nat) : ∀ i, (fndI L k i).length ≤ i
  | 0 => Nat.le_refl _
  | i + 1 => by
    have := fnd_len L k i
    rw [fndI]
    split
    · rw [List.length_append]; simp; omega
    · omega
/-- What Locate answers of shards that are whole. -/
def locA (L : List Sd) (k : Nat) : Int × Int := if isGrp L k then (-1, 0) else if (fndI L k L.length).length = 1 then ((fndI L k L.length).getD 0 0, 0) else (0, 13)
section
variable {w : World}
set_option maxHeartbeats 4000000 in
set_option maxRecDepth 100000 in
theorem loc_no (v : Value) (L : List Sd) (k : Int) {B : Nat × TypeId} (hv : RdR w B v L) (hl : L.length ≤ 1000000) (h4 : ∀ i, i < L.length → (sl (L.getD i none)).length ≤ 4096) (hc : chwE L k ≠ 0) :
    Calls Try.prog 18 #[v, .int .i64 k] w fun e w' => e = .returned (.tuple #[.int .i64 0, .int .i64 (chwE L k)]) ∧ Below w.heap.size w w' := by
  have t1 := whole30 (w := w) v L k hv hl h4
  obtain ⟨va, vc, rfl, h1, h2, _⟩ := hv.shape
  have hne : (chwE L k != 0) = true := by simpa using hc
  generalize chwE L k = r at *
  generalize L.length = n at *
  clear hv h4 hc
  go_enter Try.func18, Try.ntmps18
  go_wp2_with fail
  refine t1.mono ?_
  rintro e w1 ⟨rfl, hb⟩
  have HB := Hid.mk hb
  clear t1 hb
  go_wp2_with fail
  go_ret2
  exact ⟨rfl, HB.out⟩
set_option maxHeartbeats 8000000 in
set_option maxRecDepth 100000 in
theorem loc_ok (v : Value) (L : List Sd) (k : Nat) {B : Nat × TypeId} (hv : RdR w B v L) (h4 : ∀ i, i < L.length → (sl (L.getD i none)).length ≤ 4096) (hc : chwE L (k : Int) = 0) (hF : Fine L k) (hs : ∀ i, i < L.length → (L.getD i none).isSome = true) :
    Calls Try.prog 18 #[v, .int .i64 k] w fun e w' => e = .returned (.tuple #[.int .i64 (locA L k).1, .int .i64 (locA L k).2]) ∧ Below w.heap.size w w' := by
  have hlo := hF.lo
  have hhi := hF.hi
  have hk2 := hF.k32
  have hk1 := hF.k1
  have t1 := whole30 (w := w) v L k hv (by omega) h4
  rw [hc] at t1
  have HT2 : Hid (∀ w1, Below w.heap.size w w1 → Calls Try.prog 31 #[v, .int .i64 k] w1 fun e w' => WrV L k e ∧ Below w1.heap.size w1 w') := ⟨fun w1 hb => wrong31 (w := w1) v L k (hv.below hb) h4 hF⟩
  have hN4 : rowL L k ≤ 4096 := hF.small h4
  have HT3 : Hid (∀ w1 (j : Nat), Below w.heap.size w w1 → j < rowL L k → Calls Try.prog 32 #[v, .int .i64 j] w1 fun e w' => ∃ a n c, e = .returned (.slice a n c) ∧ OwnR w' (w1.heap.size, 1000) w1.heap.size (.slice a n c) (col L j) ∧ Below w1.heap.size w1 w') := ⟨fun w1 j hb hj => column32 (w := w1) v L j (rowL L k) (hv.below hb) (by omega) (fun i hi => hF.all i hi (hs i hi)) hj hN4⟩
  have HT4 : Hid (∀ w1 (i : Nat), Below w.heap.size w w1 → i < L.length → Calls Try.prog 33 #[v, .int .i64 k, .int .i64 i] w1 fun e w' => e = .returned (.bool (gwB L k i)) ∧ Below w1.heap.size w1 w') := ⟨fun w1 i hb hi => without33 (w := w1) v L k i (hv.below hb) (by omega) h4 hi⟩
  have HGC : Hid (∀ i j, j < rowL L k → gwB L k i = true → gwB (col L j) k i = true) := ⟨fun i j hj hg => gw_col hs (fun t ht => hF.all t ht (hs t ht)) hj hg⟩
  obtain ⟨va, vc, rfl, h1, h2, _⟩ := hv.shape
  obtain ⟨A, HA⟩ : ∃ A, Hid (locA L k = A) := ⟨_, ⟨rfl⟩⟩
  rw [HA.out]
  obtain ⟨n, Hn⟩ : ∃ n, Hid (L.length = n) := ⟨_, ⟨rfl⟩⟩
  rw [Hn.out] at t1 HT2 HT3 HT4 hlo hhi h1 ⊢
  clear hv h4 hc hF hs
  go_enter Try.func18, Try.ntmps18
  go_wp2_with fail
  refine t1.mono ?_
  rintro e w1 ⟨rfl, hb⟩
  have HB1 := Hid.mk hb
  have t2 := HT2.out w1 hb
  clear t1 hb HT2
  go_wp2_with fail
  refine t2.mono ?_
  rintro e w2 ⟨⟨p, z, rfl, hw⟩, hb2⟩
  have HB2 : Hid (Below w.heap.size w w2) := ⟨HB1.out.trans (hb2.mono HB1.out.size)⟩
  clear t2 hb2
  have hg := hw.grp
  rcases hw with ⟨rfl, rfl, _⟩ | ⟨rfl, i0, j, _, rfl, hj, _, _⟩
  · have HAA : Hid (A = (-1, 0)) := ⟨by
      have : isGrp L k = true := by
        cases hq : isGrp L k with
        | true => rfl
        | false => rw [hq] at hg; cases hg
      rw [← HA.out, locA, if_pos this]⟩
    clear hg
    go_wp2_with fail
    go_ret2
    exact ⟨by rw [HAA.out]; rfl, HB2.out⟩
  · have HAA : Hid (A = if (fndI L k n).length = 1 then ((fndI L k n).getD 0 0, 0) else (0, 13)) := ⟨by
      have : isGrp L k = false := by
        cases hq : isGrp L k with
        | false => rfl
        | true => rw [hq] at hg; cases hg
      rw [← HA.out, locA, this, Hn.out]
      rfl⟩
    have t3 := HT3.out w2 j HB2.out hj
    have HGj : Hid (∀ i, gwB L k i = true → gwB (col L j) k i = true) := ⟨fun i hi => HGC.out i j hj hi⟩
    have HL4 : Hid (∀ i, i < (col L j).length → (sl ((col L j).getD i none)).length ≤ 4096) := ⟨fun i hi => by
      rw [col_len] at hi
      simp [col, List.getD, List.getElem?_eq_getElem hi, sl]⟩
    clear hg hj HT3 HGC
    go_wp2_with fail
    refine t3.mono ?_
    rintro e w3 ⟨ca, cn, cc, rfl, hO3, hb3⟩
    have HO3 := Hid.mk hO3
    have HB3 : Hid (Below w.heap.size w w3) := ⟨HB2.out.trans (hb3.mono HB2.out.size)⟩
    have HT5 : Hid (∀ w1 (i : Nat), Below w3.heap.size w3 w1 → i < n → Calls Try.prog 33 #[.slice ca cn cc, .int .i64 k, .int .i64 i] w1 fun e w' => e = .returned (.bool (gwB (col L j) k i)) ∧ Below w1.heap.size w1 w') := ⟨fun w1 i hb hi => without33 (w := w1) _ (col L j) k i (HO3.out.rd.below hb) (by rw [col_len, Hn.out]; omega) HL4.out (by rw [col_len, Hn.out]; exact hi)⟩
    clear t3 hO3 hb3
    go_wp2_with fail
    go_loopg [31, 10] n (fun gg s31 s10 wr => ∃ (i : Nat) (fa : Option Addr) (fl fc : Nat), i ≤ n ∧ n - i ≤ gg ∧ s31 = .int .i64 (i : Int) ∧ s10 = .slice fa fl fc ∧ Hid ((fndI L k i).length = fl) ∧ Hid (OwnI wr w3.heap.size (.slice fa fl fc) (fndI L k i)) ∧ Hid (Below w3.heap.size w3 wr))
    case atStart => exact ⟨0, none, 0, 0, Nat.zero_le _, by omega, rfl, rfl, ⟨rfl⟩, ⟨owni_nil _ _⟩, ⟨Below.refl _ _⟩⟩
    case round =>
      obtain ⟨i, fa, fl, fc, hi, hgg, rfl, rfl, HFl, HO, HB⟩ := hrel
      rename World => wo
      by_cases hlt : i < n
      · have hltz : (i : Int) < (n : Int) := by omega
        have t5 := HT5.out wo i HB.out hlt
        have HBw : Hid (Below w.heap.size w wo) := ⟨HB3.out.trans (HB.out.mono HB3.out.size)⟩
        have hfl : fl ≤ i := by rw [← HFl.out]; exact fnd_len L k i
        cases hc1 : gwB (col L j) k i with
        | false =>
          rw [hc1] at t5
          have HNX : Hid (fndI L k (i + 1) = fndI L k i) := ⟨by
            rw [fndI, if_neg (fun h => by rw [HGj.out i h] at hc1; cases hc1)]⟩
          clear hc1
          go_wp2_with fail
          refine t5.mono ?_
          rintro e w5 ⟨rfl, hb5⟩
          have HB5 : Hid (Below w3.heap.size w3 w5) := ⟨HB.out.trans (hb5.mono HB.out.size)⟩
          have HO5 : Hid (OwnI w5 w3.heap.size (.slice fa fl fc) (fndI L k (i + 1))) := ⟨by rw [HNX.out]; exact own_far HO.out (Chg.ofBelow (X := []) hb5) (by simp)⟩
          have HF5 : Hid ((fndI L k (i + 1)).length = fl) := ⟨by rw [HNX.out]; exact HFl.out⟩
          clear t5 hb5
          go_wp2_with fail
          go_roundg (n - (i + 1))
          case measure => omega
          case rel => exact ⟨i + 1, fa, fl, fc, by omega, by omega, by go_num, rfl, HF5, HO5, HB5⟩
        | true =>
          rw [hc1] at t5
          clear hc1
          go_wp2_with fail
          refine t5.mono ?_
          rintro e w5 ⟨rfl, hb5⟩
          have HB5 : Hid (Below w3.heap.size w3 w5) := ⟨HB.out.trans (hb5.mono HB.out.size)⟩
          have HBw5 : Hid (Below w.heap.size w w5) := ⟨HBw.out.trans (hb5.mono HBw.out.size)⟩
          have HO5 : Hid (OwnI w5 w3.heap.size (.slice fa fl fc) (fndI L k i)) := ⟨own_far HO.out (Chg.ofBelow (X := []) hb5) (by simp)⟩
          have t6 := HT4.out w5 i HBw5.out (by exact hlt)
          clear t5 hb5
          cases hc2 : gwB L k i with
          | false =>
            rw [hc2] at t6
            have HNX : Hid (fndI L k (i + 1) = fndI L k i) := ⟨by rw [fndI, hc2, if_neg (by simp)]⟩
            clear hc2
            go_wp2_with fail
            refine t6.mono ?_
            rintro e w6 ⟨rfl, hb6⟩
            have HB6 : Hid (Below w3.heap.size w3 w6) := ⟨HB5.out.trans (hb6.mono HB5.out.size)⟩
            have HO6 : Hid (OwnI w6 w3.heap.size (.slice fa fl fc) (fndI L k (i + 1))) := ⟨by rw [HNX.out]; exact own_far HO5.out (Chg.ofBelow (X := []) hb6) (by simp)⟩
            have HF6 : Hid ((fndI L k (i + 1)).length = fl) := ⟨by rw [HNX.out]; exact HFl.out⟩
            clear t6 hb6
            go_wp2_with fail
            go_roundg (n - (i + 1))
            case measure => omega
            case rel => exact ⟨i + 1, fa, fl, fc, by omega, by omega, by go_num, rfl, HF6, HO6, HB6⟩
          | true =>
            rw [hc2] at t6
            have HNX : Hid (fndI L k (i + 1) = fndI L k i ++ [(i : Int)]) := ⟨by rw [fndI, hc2, if_pos rfl]⟩
            clear hc2
            go_wp2_with fail
            refine t6.mono ?_
            rintro e w6 ⟨rfl, hb6⟩
            have HB6 : Hid (Below w3.heap.size w3 w6) := ⟨HB5.out.trans (hb6.mono HB5.out.size)⟩
            have HO6 : Hid (OwnI w6 w3.heap.size (.slice fa fl fc) (fndI L k i)) := ⟨own_far HO5.out (Chg.ofBelow (X := []) hb6) (by simp)⟩
            have HF6 : Hid ((fndI L k i ++ [(i : Int)]).length = fl + 1) := ⟨by rw [List.length_append, HFl.out]; rfl⟩
            have hln : (fndI L k i).length ≤ 1000000000000 := by rw [HFl.out]; omega
            have hbs := HB6.out.size
            clear t6 hb6
            go_wp2_with (refine wp_appI1 rfl (.tmp 44) (.tmp 46) rfl rfl HO6.out rfl hln hbs ?_; intro v7 w7 hO7 hG7 hV7; obtain ⟨a7, c7, e7, _⟩ := hO7.rd.shape; rw [HF6.out] at e7; subst e7; rw [← HNX.out] at hO7; have HO7 := Hid.mk hO7; have HG7 : Hid (Chg (ob (.slice fa fl fc)) w6 w7) := ⟨hG7⟩; clear hO7 hG7 hV7)
            have HB7 : Hid (Below w3.heap.size w3 w7) := ⟨HB6.out.trans (HG7.out.below HB6.out.size (fun k hk => (World.ownsRow.lt HO6.out k (mem_ob.1 hk)).1))⟩
            rw [← HNX.out] at HF6
            go_roundg (n - (i + 1))
            case measure => omega
            case rel => exact ⟨i + 1, _, _, _, by omega, by omega, by go_num, rfl, HF6, HO7, HB7⟩
      · obtain rfl : n = i := by omega
        have HBw : Hid (Below w.heap.size w wo) := ⟨HB3.out.trans (HB.out.mono HB3.out.size)⟩
        by_cases h1f : fl = 1
        · subst h1f
          have HAF : Hid (A = ((fndI L k n).getD 0 0, 0)) := ⟨by rw [HAA.out, if_pos HFl.out]⟩
          obtain ⟨b, off, cap, e, _, hat⟩ := HO.out.rd.at (i := 0) (by rw [HFl.out]; omega)
          simp only [Value.slice.injEq] at e
          obtain ⟨rfl, -, rfl⟩ := e
          have hc0 := hat 0 (by rw [HFl.out]; omega)
          simp only [Nat.add_zero] at hc0
          generalize (fndI L k n).getD 0 0 = y at HAF hc0
          clear hat
          go_wp2_with fail
          go_ret2
          exact ⟨by rw [HAF.out]; rfl, HBw.out⟩
        · have HAF : Hid (A = (0, 13)) := ⟨by rw [HAA.out, if_neg (by rw [HFl.out]; exact h1f)]⟩
          have hz : ¬ (fl : Int) = 1 := by omega
          have hz2 : ((fl : Int) != 1) = true := by simpa using hz
          clear h1f
          go_wp2_with fail
          go_ret2
          exact ⟨by rw [HAF.out]; rfl, HBw.out⟩
end
end Go.Proofs.Ytbdmbhpmbklaiaa
