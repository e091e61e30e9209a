/- The law ExtentApart, walked. -/
import Derived.Test.YtcmibcmndiplbabZ2
import Derived.Test.YtcmibcmndiplbabZ3
import Derived.Test.YtcmibcmndiplbabZ4
namespace Go.Proofs.Ytcmibcmndiplbab
open Go.RowKit Go.Lib Go.Shelf Go.Maps

theorem new_can (A B : Int) (w : World) (h0 : 0 ≤ A) (h1 : A ≤ B) (h2 : B ≤ 4096) : Calls Try.prog 8 #[.int .i64 A, .int .i64 B] w fun e w' => ∃ p b l, e = .returned (.tuple #[.pointer (some ⟨p, 0, none⟩), .int .i64 0]) ∧ Live w' p A B w.heap.size b l ∧ (∀ k, cov l k ↔ A ≤ k ∧ k < B) ∧ sumS l = B - A ∧ Below w.heap.size w w' := by
  rcases Int.lt_or_eq_of_le h1 with h | h
  · refine (new_n A B w h0 h h2).mono ?_
    rintro e w' ⟨p, b, rfl, hM, hb⟩
    refine ⟨p, b, _, rfl, ⟨⟨_, hM⟩, Int.le_refl _, h, Int.le_refl _, trivial⟩, fun k => by simp [cov], ?_, hb⟩
    simp [sumS, siz]
  · subst h
    refine (new_e A w h0 h2).mono ?_
    rintro e w' ⟨p, b, rfl, hM, hb⟩
    refine ⟨p, b, _, rfl, ⟨⟨_, hM⟩, trivial⟩, fun k => ?_, ?_, hb⟩
    · simp only [cov, List.not_mem_nil, false_and, exists_false, false_iff]; omega
    · simp [sumS]

theorem Live.kept {w w' : World} {p m : Nat} {A B : Int} {base b : Nat} {l : List (Int × Int)} (h : Live w p A B base b l) (hg : w.grownBy w' (some m)) (hp : p ≠ m) (hb : b ≠ m) : Live w' p A B base b l := by
  obtain ⟨⟨cap, hM⟩, hc⟩ := h
  refine ⟨⟨cap, ⟨?_, ?_, hM.caps, hM.pb, hM.ne⟩⟩, hc⟩
  · rw [hg.block p (Array.getElem?_eq_some_iff.1 hM.row).1 (by simpa using hp)]; exact hM.row
  · exact World.ownsRow.kept hM.own hg (.inr (by simpa [Value.ownBlock] using hb))
theorem Live.below {w w' : World} {p : Nat} {A B : Int} {base b : Nat} {l : List (Int × Int)} (h : Live w p A B base b l) (hb : Below w.heap.size w w') : Live w' p A B base b l := by
  obtain ⟨⟨cap, hM⟩, hc⟩ := h
  exact ⟨⟨cap, hM.below hb⟩, hc⟩
theorem owns_same {w w' : World} {mb n : Nat} {D : DataW Unit} (h : w.ownsMap Try.prog 3 (plainElem Try.prog 3) mb n D) (he : w'.heap[mb]? = w.heap[mb]?) : w'.ownsMap Try.prog 3 (plainElem Try.prog 3) mb n D := by
  obtain ⟨es, clock, hb, F, hs, hD⟩ := h
  exact ⟨es, clock, he.trans hb, F, hs, hD⟩
theorem wf_small (k : Int) (h0 : 0 ≤ k) (h1 : k ≤ 4096) : (Lit.int .i64 k).wf = true := by
  have e1 : IntKind.i64.min = -9223372036854775808 := rfl
  have e2 : IntKind.i64.max = 9223372036854775807 := rfl
  simp only [Lit.wf, e1, e2, Bool.and_eq_true, decide_eq_true_eq]
  omega

theorem nine (z : Int) : 1 ≤ wrap64 (1 + wrap64 ((IntKind.u64.wrap z).tmod 9)) ∧ wrap64 (1 + wrap64 ((IntKind.u64.wrap z).tmod 9)) ≤ 9 := by
  have h0 : 0 ≤ IntKind.u64.wrap z ∧ IntKind.u64.wrap z < 18446744073709551616 := by rw [IntKind.wrap_u64]; omega
  have h1 : (IntKind.u64.wrap z).tmod 9 = IntKind.u64.wrap z % 9 := Int.tmod_eq_emod_of_nonneg h0.1
  rw [h1]
  have h2 : wrap64 (IntKind.u64.wrap z % 9) = IntKind.u64.wrap z % 9 := IntWalk.wrap64_in _ ⟨by omega, by omega⟩
  rw [h2, IntWalk.wrap64_in _ ⟨by omega, by omega⟩]
  omega

theorem law3 : Keyed Try.prog 3 := int_keyed Try.underlying3
theorem zero3 (w : World) : (zeroValue 3).run Try.prog w = .ok (.int .i64 0) w := by kernel_rfl

/-- The whole state of the law between two rounds. -/
structure St (w wq : World) (p mb : Nat) (A B : Int) (i bl : Nat) (l : List (Int × Int)) (T : Int → Bool) (sz : Int) (D : DataW Unit) : Prop where
  live : Live wq p A B w.heap.size bl l
  own : wq.ownsMap Try.prog 3 (plainElem Try.prog 3) mb (9 * i) D
  who : Owner D T sz
  cov : ∀ k, cov l k ↔ (A ≤ k ∧ k < B) ∧ T k = false
  mine : ∀ k, T k = true → A ≤ k ∧ k < B
  sum : sumS l = B - A - sz
  below : Below w.heap.size w wq
  ne1 : bl ≠ mb
  ne2 : p ≠ mb
  lt : mb < wq.heap.size
  ge : w.heap.size ≤ mb

set_option maxHeartbeats 4000000 in
set_option maxRecDepth 100000 in
theorem apart_any (f s : Int) (v : Value) (zs : List Int) (w : World) (hf0 : 0 ≤ f) (hf1 : f < 256) (hs0 : 0 ≤ s) (hs1 : s < 256) (hv : Is w v zs) : Calls Try.prog 5 #[.int .u8 f, .int .u8 s, v] w fun e w' => e = .returned (.bool true) ∧ Below w.heap.size w w' := by
  obtain ⟨ao, cap, rfl, hcell⟩ := hv.places
  obtain ⟨n, hn⟩ : ∃ n, zs.length = n := ⟨_, rfl⟩
  rw [hn] at hcell ⊢
  have HC : Hid (∀ j, j < n → ∃ b off, ao = some ⟨b, off, none⟩ ∧ b < w.heap.size ∧ w.cell? ⟨b, off + j, none⟩ = some (.int .i64 (zs.getD j 0))) := ⟨hcell⟩
  have hlen : n ≤ 9223372036854775807 := by obtain ⟨_, _, _, h1, h2, _⟩ := hv; unfold maxLen at h2; omega
  clear hcell hv
  have hmm := @run_makeMap Try.prog
  obtain ⟨A, hA⟩ : ∃ A, f % 41 = A := ⟨_, rfl⟩
  obtain ⟨B, hB⟩ : ∃ B, f % 41 + s % 61 = B := ⟨_, rfl⟩
  have a0 : 0 ≤ A := by omega
  have a1 : A ≤ B := by omega
  have a2 : B ≤ 4096 := by omega
  go_enter Try.func5, Try.ntmps5
  go_wp2_with (first
    | (go_at_call 13; refine (bounds_any f s w hf0 hf1 hs0 hs1).mono ?_; rw [hB, hA]; rintro e w' ⟨rfl, rfl⟩)
    | (go_at_call 8; refine (new_can A B _ a0 a1 a2).mono ?_; rintro e w1 ⟨p, b, l, rfl, hL, hcv, hsm, hb1⟩))
  have hmbl : b < w1.heap.size := by obtain ⟨cp, hM⟩ := hL.at'; exact hM.spAt.2.2.1
  have hpl1 : p < w1.heap.size := by obtain ⟨cp, hM⟩ := hL.at'; exact (Array.getElem?_eq_some_iff.1 hM.row).1
  obtain ⟨mb, Hmb⟩ : ∃ mb, Hid (mb = w1.heap.size) := ⟨_, ⟨rfl⟩⟩
  have HS0 : Hid (St w (w1.alloc (.map #[] 0)) p mb A B 0 b l (fun _ => false) 0 (.map [])) := ⟨⟨hL.below ((Below.refl _ w1).alloc (Nat.le_refl _) _), by rw [Hmb.out]; exact World.ownsMap_made _ _ _ _, Owner.empty, fun k => by rw [hcv k]; simp, fun k h => absurd h (by simp), by rw [hsm]; omega, hb1.alloc hb1.size _, by rw [Hmb.out]; omega, by rw [Hmb.out]; omega, by rw [Hmb.out]; simp, by rw [Hmb.out]; exact hb1.size⟩⟩
  rw [← Hmb.out]
  clear hL hcv hsm hb1 hmbl hpl1
  generalize w1.alloc (.map #[] 0) = wm at HS0 ⊢
  go_loopg [12] 80 (fun gg s12 wq => ∃ (i bl : Nat) (l : List (Int × Int)) (T : Int → Bool) (sz : Int) (D : DataW Unit), i ≤ n ∧ i ≤ 80 ∧ 80 - i ≤ gg ∧ s12 = .int .i64 (i : Int) ∧ Hid (St w wq p mb A B i bl l T sz D))
  case atStart => exact ⟨0, b, l, _, _, _, Nat.zero_le _, by omega, by omega, rfl, HS0⟩
  case round =>
    clear HS0
    obtain ⟨i, bl, l, T, sz, D, hin, hi8, hgg, rfl, HS⟩ := hrel
    rename World => wq
    by_cases hlt : i < n
    · by_cases hlt8 : i < 80
      · have hltz : (i : Int) < (n : Int) := by omega
        have hlt8z : (i : Int) < 80 := by omega
        obtain ⟨zb, zo, rfl, hzl, hzc⟩ := HC.out i hlt
        have hz : wq.cell? ⟨zb, zo + i, none⟩ = some (.int .i64 (zs.getD i 0)) := (HS.out.below.cell (p := ⟨zb, zo + i, none⟩) hzl).trans hzc
        generalize zs.getD i 0 = z at hz hzc
        clear hzc
        go_wp2_with fail
        have hnine := nine z
        generalize wrap64 (1 + wrap64 ((IntKind.u64.wrap z).tmod 9)) = m at hnine ⊢
        have hbq := HS.out.below.size
        refine (take_can A B m p bl w.heap.size l wq HS.out.live a0 a2 hbq hnine.1).mono ?_
        rintro e w2 (⟨rfl, hb2⟩ | ⟨x, b', l', rfl, hL2, hd2, hfree, hcv2, hsum2, hx1, hx2, hB2, hK2⟩)
        · have HS2 : Hid (St w w2 p mb A B (i + 1) bl l T sz D) := ⟨⟨HS.out.live.below hb2, (owns_same HS.out.own (hb2.block mb HS.out.lt)).mono (by omega), HS.out.who, HS.out.cov, HS.out.mine, HS.out.sum, HS.out.below.trans (hb2.mono hbq), HS.out.ne1, HS.out.ne2, Nat.lt_of_lt_of_le HS.out.lt hb2.size, HS.out.ge⟩⟩
          clear hb2
          go_wp2
          go_roundg (80 - (i + 1))
          case measure => omega
          case rel => exact ⟨i + 1, bl, l, T, sz, D, by omega, by omega, by omega, by go_num, HS2⟩
        · -- it was taken
          have hmbl : mb < w2.heap.size := Nat.lt_of_lt_of_le HS.out.lt hB2.size
          have HO2 : Hid (w2.ownsMap Try.prog 3 (plainElem Try.prog 3) mb (9 * i) D) := ⟨owns_same HS.out.own (hK2 mb HS.out.lt (Ne.symm HS.out.ne2) (Ne.symm HS.out.ne1))⟩
          have HL2 : Hid (Live w2 p A B w.heap.size b' l') := ⟨hL2⟩
          have HF2 : Hid (∀ k, x ≤ k → k < x + m → T k = false) := ⟨fun k h1 h2 => ((HS.out.cov k).1 (hfree k h1 h2)).2⟩
          have HV2 : Hid (∀ k, cov l' k ↔ cov l k ∧ ¬ (x ≤ k ∧ k < x + m)) := ⟨hcv2⟩
          have HM2 : Hid (sumS l' = sumS l - m) := ⟨hsum2⟩
          have HB2 : Hid (Below w.heap.size w w2) := ⟨HS.out.below.trans hB2⟩
          have hb'm : b' ≠ mb := by
            rcases hd2 with h | h
            · rw [h]; exact HS.out.ne1
            · have := HS.out.lt; omega
          have hxm : wrap64 (x + m) = x + m := IntWalk.wrap64_in _ ⟨by omega, by omega⟩
          clear hL2 hd2 hfree hcv2 hsum2 hB2 hK2
          go_wp2
          go_loopg [16] 9 (fun gg s16 wr => ∃ (kI : Int) (D' : DataW Unit), s16 = .int .i64 kI ∧ x ≤ kI ∧ kI ≤ x + m ∧ (x + m - kI).toNat ≤ gg ∧ Hid (wr.ownsMap Try.prog 3 (plainElem Try.prog 3) mb (9 * i + (kI - x).toNat) D') ∧ Hid (Owner D' (tset T x kI true) (sz + (kI - x))) ∧ Hid (w2.grownBy wr (some mb)))
          case atStart => exact ⟨x, D, rfl, Int.le_refl _, by omega, by omega, by simpa using HO2, ⟨by rw [tset_none]; simpa using HS.out.who⟩, ⟨grown_refl _ _⟩⟩
          case round =>
            obtain ⟨kI, D', rfl, hk1, hk2, hg2, HO, HW, HG⟩ := hrel
            rename World => wr
            by_cases hkl : kI < x + m
            · have n1 : ¬ kI < A := by omega
              have n2 : ¬ B ≤ kI := by omega
              have hTk : tset T x kI true kI = false := by
                unfold tset
                rw [if_neg (by omega)]
                exact HF2.out kI hk1 hkl
              have hkey : keyOf Try.prog 3 (.int .i64 kI) = some (.int .i64 kI) := keyOf_int_mk Try.underlying3 (wf_small kI (by omega) (by omega))
              obtain ⟨c, hlook, hat, _⟩ := HO.out.lookup_int law3 Try.underlying37 Try.underlying3 (zero3 wr) hkey
              rw [HW.out.none kI hTk] at hat
              obtain rfl : c = 0 := by simpa using hat.symm
              obtain ⟨w3, hupd, hown3, hturn3⟩ := HO.out.store law3 Try.underlying37 (by unfold maxLen; omega) hkey (plainElem_int Try.underlying3 (wf_small ((i : Int) + 1) (by omega) (by omega)))
              have HO3 : Hid (w3.ownsMap Try.prog 3 (plainElem Try.prog 3) mb (9 * i + (kI - x).toNat + 1) (D'.put (.int .i64 kI) (.lit (.int .i64 ((i : Int) + 1))))) := ⟨hown3⟩
              have HG3 : Hid (w2.grownBy w3 (some mb)) := ⟨grown_trans HG.out hturn3.grown⟩
              have HW3 : Hid (Owner (D'.put (.int .i64 kI) (.lit (.int .i64 ((i : Int) + 1)))) (tset T x (kI + 1) true) (sz + (kI + 1 - x))) := ⟨by
                have := HW.out.put kI ((i : Int) + 1) hTk (by omega)
                rw [← tset_succ T x kI true hk1] at this
                rwa [show sz + (kI - x) + 1 = sz + (kI + 1 - x) by omega] at this⟩
              clear hown3 hturn3 hat hkey hTk
              go_wp2
              go_roundg (x + m - (kI + 1)).toNat
              case measure => omega
              case rel => exact ⟨kI + 1, _, rfl, by omega, by omega, Nat.le_refl _, by rw [show 9 * i + (kI + 1 - x).toNat = 9 * i + (kI - x).toNat + 1 by omega]; exact HO3, HW3, HG3⟩
            · obtain rfl : kI = x + m := by omega
              have HO' : Hid (wr.ownsMap Try.prog 3 (plainElem Try.prog 3) mb (9 * (i + 1)) D') := ⟨HO.out.mono (by omega)⟩
              have HW' : Hid (Owner D' (tset T x (x + m) true) (sz + m)) := ⟨by have := HW.out; rwa [show sz + (x + m - x) = sz + m by omega] at this⟩
              have HL' : Hid (Live wr p A B w.heap.size b' l') := ⟨HL2.out.kept HG.out HS.out.ne2 hb'm⟩
              have HB' : Hid (Below w.heap.size w wr) := ⟨below_of_grown HB2.out HG.out HS.out.ge (Nat.le_refl _)⟩
              have hmbr : mb < wr.heap.size := Nat.lt_of_lt_of_le hmbl HG.out.size
              clear HO HW HO2
              by_cases h3 : i % 3 = 2
              · have hcov' := HV2.out
                have hgive := give_can A B x m p b' w.heap.size l' wr HL'.out a0 a2 HB'.out.size hnine.1 hx1 hx2 (fun k h1 h2 hc => ((hcov' k).1 hc).2 ⟨h1, h2⟩)
                go_wp2_with fail
                refine hgive.mono ?_
                rintro e w4 ⟨b4, l4, rfl, hL4, hd4, hcv4, hsum4, hB4, hK4⟩
                have hmb4 : mb < w4.heap.size := Nat.lt_of_lt_of_le hmbr hB4.size
                have HO4 : Hid (w4.ownsMap Try.prog 3 (plainElem Try.prog 3) mb (9 * (i + 1)) D') := ⟨owns_same HO'.out (hK4 mb hmbr (Ne.symm HS.out.ne2) (Ne.symm hb'm))⟩
                have HL4 : Hid (Live w4 p A B w.heap.size b4 l4) := ⟨hL4⟩
                have HV4 : Hid (∀ k, cov l4 k ↔ cov l' k ∨ (x ≤ k ∧ k < x + m)) := ⟨hcv4⟩
                have HM4 : Hid (sumS l4 = sumS l' + m) := ⟨hsum4⟩
                have HB4 : Hid (Below w.heap.size w w4) := ⟨HB'.out.trans hB4⟩
                have hb4m : b4 ≠ mb := by
                  rcases hd4 with h | h
                  · rw [h]; exact hb'm
                  · omega
                clear hL4 hd4 hcv4 hsum4 hB4 hK4 hgive hcov' HL' HB' HO'
                go_wp2
                go_loopg [17] 9 (fun gg s17 wr => ∃ (kI : Int) (D4 : DataW Unit), s17 = .int .i64 kI ∧ x ≤ kI ∧ kI ≤ x + m ∧ (x + m - kI).toNat ≤ gg ∧ Hid (wr.ownsMap Try.prog 3 (plainElem Try.prog 3) mb (9 * (i + 1)) D4) ∧ Hid (Owner D4 (tset (tset T x (x + m) true) x kI false) (sz + m - (kI - x))) ∧ Hid (w4.grownBy wr (some mb)))
                case atStart => exact ⟨x, D', rfl, Int.le_refl _, by omega, by omega, HO4, ⟨by rw [tset_none]; simpa using HW'.out⟩, ⟨grown_refl _ _⟩⟩
                case round =>
                  obtain ⟨kI, D4, rfl, hk1', hk2', hg2', HO, HW, HG4⟩ := hrel
                  rename World => wd
                  by_cases hkl : kI < x + m
                  · have hTk : tset (tset T x (x + m) true) x kI false kI = true := by
                      unfold tset
                      rw [if_neg (by omega), if_pos (by omega)]
                    have hkey : keyOf Try.prog 3 (.int .i64 kI) = some (.int .i64 kI) := keyOf_int_mk Try.underlying3 (wf_small kI (by omega) (by omega))
                    obtain ⟨w5, hdel, hown5, hturn5⟩ := HO.out.drop law3 Try.underlying37 hkey 0
                    have HO5 : Hid (w5.ownsMap Try.prog 3 (plainElem Try.prog 3) mb (9 * (i + 1)) (D4.del (.int .i64 kI))) := ⟨hown5⟩
                    have HG5 : Hid (w4.grownBy w5 (some mb)) := ⟨grown_trans HG4.out hturn5.grown⟩
                    have HW5 : Hid (Owner (D4.del (.int .i64 kI)) (tset (tset T x (x + m) true) x (kI + 1) false) (sz + m - (kI + 1 - x))) := ⟨by
                      have := HW.out.del kI hTk
                      rw [← tset_succ _ x kI false hk1'] at this
                      rwa [show sz + m - (kI - x) - 1 = sz + m - (kI + 1 - x) by omega] at this⟩
                    clear hown5 hturn5 hkey hTk
                    go_wp2
                    go_roundg (x + m - (kI + 1)).toNat
                    case measure => omega
                    case rel => exact ⟨kI + 1, _, rfl, by omega, by omega, Nat.le_refl _, HO5, HW5, HG5⟩
                  · obtain rfl : kI = x + m := by omega
                    have HS2 : Hid (St w wd p mb A B (i + 1) b4 l4 (tset (tset T x (x + m) true) x (x + m) false) sz D4) := ⟨⟨HL4.out.kept HG4.out HS.out.ne2 hb4m, HO.out, by have := HW.out; rwa [show sz + m - (x + m - x) = sz by omega] at this, fun k => by
                      rw [HV4.out k, HV2.out k, HS.out.cov k]
                      have hF := HF2.out k
                      unfold tset
                      by_cases hk : x ≤ k ∧ k < x + m
                      · simp only [if_pos hk, and_true]
                        constructor
                        · intro _; omega
                        · intro _; exact .inr hk
                      · simp only [if_neg hk]
                        constructor
                        · rintro (h | h)
                          · exact h.1
                          · exact absurd h hk
                        · intro h; exact .inl ⟨h, hk⟩, fun k h => by
                      unfold tset at h
                      by_cases hk : x ≤ k ∧ k < x + m
                      · rw [if_pos hk] at h; cases h
                      · rw [if_neg hk, if_neg hk] at h; exact HS.out.mine k h, by rw [HM4.out, HM2.out, HS.out.sum]; omega, below_of_grown HB4.out HG4.out HS.out.ge (Nat.le_refl _), hb4m, HS.out.ne2, Nat.lt_of_lt_of_le hmb4 HG4.out.size, HS.out.ge⟩⟩
                    go_wp2
                    go_roundg (80 - (i + 1))
                    case measure => omega
                    case rel => exact ⟨i + 1, b4, l4, _, sz, D4, by omega, by omega, by omega, by go_num, HS2⟩
              · have HS2 : Hid (St w wr p mb A B (i + 1) b' l' (tset T x (x + m) true) (sz + m) D') := ⟨⟨HL'.out, HO'.out, HW'.out, fun k => by
                  rw [HV2.out k, HS.out.cov k]
                  unfold tset
                  by_cases hk : x ≤ k ∧ k < x + m
                  · simp [hk]
                  · simp only [if_neg hk]
                    constructor
                    · rintro ⟨h, _⟩; exact h
                    · intro h; exact ⟨h, hk⟩, fun k h => by
                  unfold tset at h
                  by_cases hk : x ≤ k ∧ k < x + m
                  · omega
                  · rw [if_neg hk] at h; exact HS.out.mine k h, by rw [HM2.out, HS.out.sum]; omega, HB'.out, hb'm, HS.out.ne2, hmbr, HS.out.ge⟩⟩
                go_wp2
                go_roundg (80 - (i + 1))
                case measure => omega
                case rel => exact ⟨i + 1, b', l', _, sz + m, D', by omega, by omega, by omega, by go_num, HS2⟩
      · have hsz : (Maps.size D : Int) = sz := HS.out.who.size
        have hsm := HS.out.sum
        have hbel := HS.out.below
        have hszb : 0 ≤ sz := by omega
        have hlv := HS.out.live
        have hmq := HS.out.lt
        have hwB : wrap64 (B - A) = B - A := IntWalk.wrap64_in _ ⟨by omega, by omega⟩
        have hsumge : 0 ≤ sumS l := by
          have := sum_in (l.map siz) (siz_in (hlv.can.fine a0 a2)) l.length
          rw [List.take_of_length_le (by simp)] at this
          exact this.1
        have hwS : wrap64 (B - A - sz) = B - A - sz := IntWalk.wrap64_in _ ⟨by omega, by omega⟩
        have hsum' : sumI (l.map siz) = B - A - sz := hsm
        have hown := HS.out.own
        clear HS HC
        go_wp2_with (first
          | (go_at_call 9; refine (live_any _).mono ?_; rintro e w6 ⟨rfl, hb6⟩; have hlv6 := hlv.below hb6; have hbel6 := hbel.trans (hb6.mono hbel.size); have hown6 := owns_same hown (hb6.block mb hmq); have hm6 : mb < w6.heap.size := Nat.lt_of_lt_of_le hmq hb6.size; clear hlv hbel hown hb6; obtain ⟨cp, hMM⟩ := hlv6.at')
          | (go_at_call 10; refine (free_any hMM (hlv6.can.fine a0 a2)).mono ?_; rw [hsum']; rintro e w7 ⟨rfl, hb7⟩; have hlen7 := (owns_same hown6 (hb7.block mb hm6)).len Try.underlying37 3; rw [hsz] at hlen7; have hbel7 := hbel6.trans (hb7.mono hbel6.size); clear hMM hlv6 hown6 hbel6 hb7))
        go_ret
        exact ⟨rfl, hbel7⟩
    · have hsz : (Maps.size D : Int) = sz := HS.out.who.size
      have hsm := HS.out.sum
      have hbel := HS.out.below
      have hszb : 0 ≤ sz := by omega
      have hlv := HS.out.live
      have hmq := HS.out.lt
      have hwB : wrap64 (B - A) = B - A := IntWalk.wrap64_in _ ⟨by omega, by omega⟩
      have hsumge : 0 ≤ sumS l := by
        have := sum_in (l.map siz) (siz_in (hlv.can.fine a0 a2)) l.length
        rw [List.take_of_length_le (by simp)] at this
        exact this.1
      have hwS : wrap64 (B - A - sz) = B - A - sz := IntWalk.wrap64_in _ ⟨by omega, by omega⟩
      have hsum' : sumI (l.map siz) = B - A - sz := hsm
      have hown := HS.out.own
      clear HS HC
      go_wp2_with (first
        | (go_at_call 9; refine (live_any _).mono ?_; rintro e w6 ⟨rfl, hb6⟩; have hlv6 := hlv.below hb6; have hbel6 := hbel.trans (hb6.mono hbel.size); have hown6 := owns_same hown (hb6.block mb hmq); have hm6 : mb < w6.heap.size := Nat.lt_of_lt_of_le hmq hb6.size; clear hlv hbel hown hb6; obtain ⟨cp, hMM⟩ := hlv6.at')
        | (go_at_call 10; refine (free_any hMM (hlv6.can.fine a0 a2)).mono ?_; rw [hsum']; rintro e w7 ⟨rfl, hb7⟩; have hlen7 := (owns_same hown6 (hb7.block mb hm6)).len Try.underlying37 3; rw [hsz] at hlen7; have hbel7 := hbel6.trans (hb7.mono hbel6.size); clear hMM hlv6 hown6 hbel6 hb7))
      go_ret
      exact ⟨rfl, hbel7⟩
end Go.Proofs.Ytcmibcmndiplbab
