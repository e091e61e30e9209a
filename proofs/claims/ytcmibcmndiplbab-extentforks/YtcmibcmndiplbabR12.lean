/- The law's alike. -/
import Derived.Test.YtcmibcmndiplbabR11
namespace Go.Proofs.Ytcmibcmndiplbab
open Go.RowKit Go.Lib Go.Shelf

theorem own2_below {w w' : World} {base : Nat} {e : TypeId} {v : Value} {l : List (Int × Int)} (h : Own2 w base e v l) (hb : Below w.heap.size w w') : Own2 w' base e v l := by
  refine ⟨h.1, ?_⟩
  rcases h.2 with h0 | ⟨g, cap, cur, e1, e2, hh, r⟩
  · exact .inl h0
  · exact .inr ⟨g, cap, cur, e1, e2, by rw [hb.block g (Array.getElem?_eq_some_iff.1 hh).1]; exact hh, r⟩

set_option maxHeartbeats 4000000 in
theorem alike_any {w : World} {p q : Nat} {A B : Int} {base bl : Nat} {l : List (Int × Int)} {v : Value} {T : List Bool} (h : Pair w p q A B base bl l v T) (hA : 0 ≤ A) (hB : B ≤ 4096) :
    Calls Try.prog 18 #[.pointer (some ⟨p, 0, none⟩), .pointer (some ⟨q, 0, none⟩)] w fun e w' => e = .returned (.bool true) ∧ Below w.heap.size w w' := by
  have HP : Hid (Pair w p q A B base bl l v T) := ⟨h⟩
  have hF : Fine l := h.live.can.fine hA hB
  have HF : Hid (Fine l) := ⟨hF⟩
  have hln : l.length ≤ 100000 := by have := h.live.small hA hB; omega
  have t1 := runsref_any h.ref h.says hA hB
  have hin := siz_in hF
  obtain ⟨xs, hxs⟩ : ∃ xs, l.map siz = xs := ⟨_, rfl⟩
  have HX : Hid (l.map siz = xs) := ⟨hxs⟩
  have hlen : xs.length = (l.map rn).length := by rw [← hxs]; simp
  have hxl : xs.length ≤ 100000 := by rw [← hxs]; simpa using hln
  have HG : Hid (∀ j, ((l.map rn).getD j default).2 = xs.getD j 0 ∨ xs.length ≤ j) := ⟨fun j => by
    by_cases hj : j < l.length
    · left; rw [← hxs]; simp [List.getD, List.getElem?_eq_getElem hj, rn]
    · right; rw [← hxs]; simp; omega⟩
  rw [hxs] at hin
  have HI : Hid (∀ y ∈ xs, 0 ≤ y ∧ y ≤ 4096) := ⟨hin⟩
  clear h hF hin hxs
  go_enter Try.func18, Try.ntmps18
  go_wp2_with (go_at_call 37; refine t1.mono ?_; rintro e w1 ⟨v', rfl, hv, hb⟩; clear t1)
  obtain ⟨ao, cp, rfl, hcell⟩ := hv.shape
  rw [← hlen] at hcell hv ⊢
  obtain ⟨n, hn⟩ : ∃ n, xs.length = n := ⟨_, rfl⟩
  rw [hn] at hcell hxl hv ⊢
  have HV : Hid (Own2 w1 w.heap.size 43 (.slice ao n cp) (l.map rn)) := ⟨hv⟩
  have HC : Hid (∀ j, j < n → ∃ g, ao = some ⟨g, 0, none⟩ ∧ w1.cell? ⟨g, j * 2 + 1, none⟩ = some (.int .i64 (xs.getD j 0))) := ⟨fun j hj => by
    obtain ⟨g, h1, _, _, h2⟩ := hcell j hj
    refine ⟨g, h1, ?_⟩
    rcases HG.out j with e | e
    · rw [← e]; exact h2
    · omega⟩
  clear hcell hv
  go_loopg [6, 7, 8] n (fun gg s6 s7 s8 wr => ∃ kk : Nat, kk ≤ n ∧ n - kk ≤ gg ∧ s8 = .int .i64 (kk : Int) ∧ wr = w1 ∧ s6 = .int .i64 (sumI (xs.take kk)) ∧ s7 = .int .i64 (maxI (xs.take kk)))
  case atStart => exact ⟨0, Nat.zero_le _, by omega, rfl, rfl, rfl, rfl⟩
  case round =>
    obtain ⟨kk, hkk, hg, rfl, rfl, rfl, rfl⟩ := hrel
    by_cases hlt : kk < n
    · have hltz : (kk : Int) < (n : Int) := by omega
      obtain ⟨g, rfl, cg⟩ := HC.out kk hlt
      have HT : Hid (sumI (xs.take (kk + 1)) = sumI (xs.take kk) + xs.getD kk 0) := ⟨take_foldl _ _ _ _ (by omega)⟩
      have HTm : Hid (maxI (xs.take (kk + 1)) = max (maxI (xs.take kk)) (xs.getD kk 0)) := ⟨take_foldl _ _ _ _ (by omega)⟩
      have hs1 := sum_in xs HI.out kk
      have hs2 := sum_in xs HI.out (kk + 1)
      rw [HT.out] at hs2
      generalize sumI (xs.take kk) = s at hs1 hs2 HT
      generalize maxI (xs.take kk) = sm at HTm
      generalize xs.getD kk 0 = y at cg hs2 HT HTm
      have hw : wrap64 (s + y) = s + y := IntWalk.wrap64_in _ ⟨by omega, by omega⟩
      by_cases hsy : sm < y
      · have hm : max sm y = y := by omega
        go_wp2
        go_roundg (n - (kk + 1))
        case measure => omega
        case rel => exact ⟨kk + 1, by omega, by omega, by go_num, rfl, by rw [HT.out], by rw [HTm.out, hm]⟩
      · have hm : max sm y = sm := by omega
        go_wp2
        go_roundg (n - (kk + 1))
        case measure => omega
        case rel => exact ⟨kk + 1, by omega, by omega, by go_num, rfl, by rw [HT.out], by rw [HTm.out, hm]⟩
    · have e1 : sumI (xs.take kk) = sumI (l.map siz) := by rw [show kk = xs.length by omega, List.take_length, HX.out]
      have e2 : maxI (xs.take kk) = maxI (l.map siz) := by rw [show kk = xs.length by omega, List.take_length, HX.out]
      rw [e1, e2]
      clear e1 e2 HC HI HG HX
      rename World => w1
      have HP1 : Hid (Pair w1 p q A B base bl l v T) := ⟨HP.out.below hb⟩
      obtain ⟨cap, hM1⟩ := HP1.out.live.at'
      have r1 := runs_any hM1 HF.out
      clear hM1
      obtain ⟨sf, Hsf⟩ : ∃ sf, Hid (sumI (l.map siz) = sf) := ⟨_, ⟨rfl⟩⟩
      obtain ⟨sm, Hsm⟩ : ∃ sm, Hid (maxI (l.map siz) = sm) := ⟨_, ⟨rfl⟩⟩
      rw [Hsf.out, Hsm.out]
      go_wp2_with (go_at_call 16; refine r1.mono ?_; rintro e w2 ⟨v2, rfl, hv2, hb2⟩; clear r1)
      have hv1 := own2_below HV.out hb2
      have s1 := same_any hv2 hv1 (by simpa using hln)
      have HP2 : Hid (Pair w2 p q A B base bl l v T) := ⟨HP1.out.below hb2⟩
      clear hv1 hv2
      refine s1.mono ?_
      rintro e w3 ⟨rfl, hb3⟩
      clear s1
      have HP3 : Hid (Pair w3 p q A B base bl l v T) := ⟨HP2.out.below hb3⟩
      obtain ⟨cap3, hM3⟩ := HP3.out.live.at'
      have f1 := free_any hM3 HF.out
      rw [Hsf.out] at f1
      clear hM3
      go_wp2_with (go_at_call 10; refine f1.mono ?_; rintro e w4 ⟨rfl, hb4⟩; clear f1)
      have HP4 : Hid (Pair w4 p q A B base bl l v T) := ⟨HP3.out.below hb4⟩
      obtain ⟨cap4, hM4⟩ := HP4.out.live.at'
      have m1 := most_any hM4 HF.out
      rw [Hsm.out] at m1
      clear hM4
      refine m1.mono ?_
      rintro e w5 ⟨rfl, hb5⟩
      clear m1
      have HB : Hid (Below w.heap.size w w5) := ⟨((((hb.trans (hb2.mono hb.size)).trans (hb3.mono (Nat.le_trans hb.size hb2.size))).trans (hb4.mono (Nat.le_trans hb.size (Nat.le_trans hb2.size hb3.size)))).trans (hb5.mono (Nat.le_trans hb.size (Nat.le_trans hb2.size (Nat.le_trans hb3.size hb4.size)))))⟩
      clear hb hb2 hb3 hb4 hb5
      go_wp2
      go_ret
      exact ⟨rfl, HB.out⟩
end Go.Proofs.Ytcmibcmndiplbab
