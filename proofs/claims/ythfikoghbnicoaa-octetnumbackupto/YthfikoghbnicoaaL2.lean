/- The walk of OctetNumBack. -/
import Derived.Test.YthfikoghbnicoaaL1
import Derived.Test.YthfikoghbnicoaaPure2
import Derived.Deep.DrawnRows
import Derived.Deep.RegionHeld3
namespace Go.Proofs.Ythfikoghbnicoaa
open Go.RowKit
attribute [local go_sem ↓] Go.wp_at_zero Go.wp_at_succ

/-- octet.Num, in one: its bytes, and that it is OK just where the number fits. -/
theorem num_one (n : Int) : ∃ (bs : List Int) (r : Int), (∀ w, Calls Try.prog 9 #[.int .i64 n] w fun e w' => ∃ v, e = .returned (.tuple #[v, .int .i64 r]) ∧ OwnB w' w.heap.size 5 v bs ∧ Below w.heap.size w w') ∧
    bs.length ≤ 8 ∧ (∀ x ∈ bs, 0 ≤ x ∧ x < 256) ∧ (r = 0 ∧ (∃ k : Nat, n = k ∧ k ≤ 9007199254740991 ∧ bs = numB k) ∨ (r = 6 ∧ bs = [] ∧ (n < 0 ∨ 9007199254740991 < n))) := by
  by_cases h : n < 0 ∨ 9007199254740991 < n
  · refine ⟨[], 6, fun w => (num_bad n w h).mono ?_, by simp, by simp, .inr ⟨rfl, rfl, h⟩⟩
    rintro e w' ⟨rfl, rfl⟩
    exact ⟨_, rfl, OwnB.nil _ _ _, Below.refl _ _⟩
  · obtain ⟨k, rfl⟩ := Int.eq_ofNat_of_zero_le (show 0 ≤ n by omega)
    exact ⟨numB k, 0, fun w => num_good k w (by omega), numB_len8 k (by omega), numB_byte k, .inl ⟨rfl, k, rfl, by omega, rfl⟩⟩

/-- What 'string(b)' gave it gives later. -/
theorem conv_later {w w' : World} {v : Value} {bs : List Int} {sv : ByteArray} (h : Sem.run Try.prog (convert 22 9 v) w.drew = .ok (.string sv) w.drew) (hb : Bs w v bs) (hw : Below w.drew.heap.size w.drew w') : Sem.run Try.prog (convert 22 9 v) w' = .ok (.string sv) w' := by
  have e := run_str Try.bt hb.drew 9 Try.underlying9
  rw [h] at e
  simp only [Result.ok.injEq, Value.string.injEq, and_true] at e
  rw [e]
  exact run_str Try.bt (hb.below (below_of_drew hw)) 9 Try.underlying9

/-- The first n of a slice. -/
theorem Bs_head {w : World} {b off L cap : Nat} {bs : List Int} (h : Bs w (.slice (some ⟨b, off, none⟩) L cap) bs) (n : Nat) (hn : n ≤ bs.length) : Bs w (.slice (some ⟨b, off, none⟩) n cap) (bs.take n) := by
  obtain ⟨a, c, hv, hl, hm, hnn, hc⟩ := h
  simp only [Value.slice.injEq] at hv
  obtain ⟨rfl, rfl, rfl⟩ := hv
  have hlen : (bs.take n).length = n := by simp; omega
  refine ⟨_, _, by rw [hlen], by omega, hm, by simp, fun x hx i hi => ?_⟩
  rw [hc x hx i (by omega)]
  simp only [List.getD_eq_getElem?_getD, List.getElem?_take]
  rw [if_pos (by omega)]

set_option maxHeartbeats 4000000 in
set_option maxRecDepth 1000000 in
theorem walk_octetNumBack (n : Int) (v : Value) (bs : List Int) (w : World) (_w0 : (Lit.int .i64 n).wf = true) (hb : Bs w v bs) (by1 : ∀ x ∈ bs, 0 ≤ x ∧ x < 256) (l1 : bs.length ≤ 1048576) :
    Calls Try.prog 4 #[.int .i64 n, v] w fun e w' => e = .returned (.bool true) ∧ Below w.heap.size w w' := by
  obtain ⟨a, cap, rfl⟩ : ∃ a cap, v = .slice a bs.length cap := by obtain ⟨a, cap, h, _⟩ := hb; exact ⟨a, cap, h⟩
  obtain ⟨ns, r, h1, hn8, hnb, hcase⟩ := num_one n
  have H1 : Hid _ := h1
  have HC : Hid _ := hcase
  clear h1 hcase
  go_enter Try.func4, Try.ntmps4
  go_wp2_with fail
  refine Calls.mono (H1.out w) ?_
  rintro e w1 ⟨v1, rfl, hown1, hb1⟩
  obtain ⟨a1, c1, rfl⟩ := hown1.slice
  have hbs1 := hb.below hb1
  have z1 := hb1.size
  have ho : OwnB (w1.alloc (.cells #[] 5)) w1.heap.size 5 (.slice (some ⟨w1.heap.size, 0, none⟩) 0 0) [] := own_lit w1 5 w1.heap.size [] #[] rfl (Nat.le_refl _) (Nat.zero_le _)
  go_wp2_with (at_builtin; refine wp_appS Try.bt rfl (.tmp 21) (.tmp 22) rfl rfl ho rfl (hbs1.alloc _) (by simp; omega) (by simp) ?_)
  intro v2 w2 hown2 hb2
  have hb12 : Below w1.heap.size w1 w2 := ((Below.refl _ w1).alloc (Nat.le_refl _) _).trans hb2
  have z2 := hb12.size
  go_wp2_with (at_builtin; refine wp_appS Try.bt rfl (.tmp 23) (.tmp 24) rfl rfl hown2 rfl (hown1.bs.below hb12) (by omega) (by omega) ?_)
  intro v3 w3 hown3 hb3
  have hb13 := hb12.trans hb3
  have z3 := hb13.size
  go_wp2_with (at_builtin; refine wp_appS Try.bt rfl (.tmp 25) (.tmp 26) rfl rfl hown3 rfl (hbs1.below hb13) (by simp; omega) (by omega) ?_)
  intro v4 w4 hown4 hb4
  have hb14 := hb13.trans hb4
  have z4 := hb14.size
  go_wp2_with fail
  have hall : ∀ x ∈ bs ++ ns ++ bs, 0 ≤ x ∧ x < 256 := by
    intro x hx
    simp only [List.mem_append] at hx
    rcases hx with (hx | hx) | hx
    · exact by1 x hx
    · exact hnb x hx
    · exact by1 x hx
  have e4 : bs ++ (ns ++ bs) = bs ++ ns ++ bs := (List.append_assoc _ _ _).symm
  have hbs4 : Bs w4 v4 (bs ++ ns ++ bs) := by rw [← e4]; exact hown4.bs
  clear e4
  refine (takeNum_any v4 (bs ++ ns ++ bs) bs.length w4 hbs4 hall).mono ?_
  rintro e w5 ⟨rfl, rfl⟩
  have bw : Below w.heap.size w w4 := hb1.trans (hb14.mono z1)
  have hbw := hb.below bw
  clear hall hown1 hown2 hown3 hown4 hbs4 hb2 hb3 hb4 hb12 hb13 hb14 hbs1 ho hnb H1 hb1 hb z1 z2 z3 z4
  obtain ⟨T, HT⟩ : ∃ T, Hid (T = tkNum bs 0) := ⟨_, rfl⟩
  obtain ⟨ms, q, h2, hm8, hmb, hcase2⟩ := num_one T.1
  have H2 : Hid _ := h2
  have HD : Hid _ := hcase2
  clear h2 hcase2
  rcases HC.out with ⟨rfl, k, rfl, hk, rfl⟩ | ⟨rfl, rfl, _⟩
  · rw [tkNum_numB bs bs k hk]
    go_wp2_with fail
    refine (takeNum_any _ bs 0 w4 hbw by1).mono ?_
    rintro e w5 ⟨rfl, rfl⟩
    rw [← HT.out]
    go_wp2_with fail
    refine Calls.mono (H2.out w4) ?_
    rintro e w5 ⟨v5, rfl, hown5, hb5⟩
    by_cases hz : T.2.2 = 0
    · obtain ⟨z, kk, hT, hz1, hz2, hz3, hz4⟩ := numB_tkNum bs by1 (by rw [← HT.out]; exact hz)
      rw [← HT.out] at hT
      subst hT
      have hms : q = 0 ∧ ms = bs.take kk := by
        rcases HD.out with ⟨h1, k', h2, h3, h4⟩ | ⟨_, _, h3⟩
        · have : k' = z := by have : (z : Int) = k' := h2; omega
          subst this
          exact ⟨h1, by rw [h4, hz2]⟩
        · have : (z : Int) < 0 ∨ 9007199254740991 < (z : Int) := h3
          omega
      obtain ⟨rfl, hms⟩ := hms
      rcases hbw.cases with ⟨e0, _⟩ | ⟨_, b, off, cap', hv', hl', hm', hbl, hc'⟩
      · rw [e0] at hz4; simp at hz4; omega
      simp only [Value.slice.injEq, true_and] at hv'
      obtain ⟨rfl, rfl⟩ := hv'
      have hk2 : (kk : Int) ≤ bs.length := by omega
      have hkp : (0 : Int) < kk := by omega
      have hp : Bs w5 (.slice (some ⟨b, off, none⟩) kk cap) (bs.take kk) := Bs_head (hbw.below hb5) kk (by omega)
      have hp5 : Bs w5 v5 (bs.take kk) := by rw [← hms]; exact hown5.bs
      have bw5 := bw.trans (hb5.mono bw.size)
      have HP : Hid _ := hp
      have HP5 : Hid _ := hp5
      clear HD HC HT hz hms hz1 hz2 hp hp5 hown5 hc' hbw H2 by1 hm8 hmb
      have hkc : (kk : Int) ≤ cap := by omega
      have hk0 : (0 : Int) ≤ kk := by omega
      have i1 := run_str Try.bt (Bs.drew HP5.out) 9 Try.underlying9
      have i2 := run_str Try.bt (Bs.drew HP.out) 9 Try.underlying9
      generalize strOfNums (bs.take kk) = sv at i1 i2
      go_wp2
      go_region_held3 (fun w' => (Sem.run Try.prog (convert 22 9 v5) w' = .ok (.string sv) w') ∧ (Sem.run Try.prog (convert 22 9 (.slice (some ⟨b, off, none⟩) kk cap)) w' = .ok (.string sv) w')) ((refine ⟨?_, ?_⟩ <;> assumption)) (first | (go_at_call 13; refine (live_any _).mono ?_; rintro e w6 ⟨rfl, hb6⟩; have s1 := conv_later i1 HP5.out hb6; have s2 := conv_later i2 HP.out hb6))
      go_wp2
      go_ret
      exact ⟨rfl, bw5.trans ((below_of_drew hb6).mono bw5.size)⟩
    · have bw5 := bw.trans (hb5.mono bw.size)
      obtain ⟨t1, t2, t3⟩ := T
      have hz' : (t3 != 0) = true := by simpa using hz
      clear HD HC HT hown5 hbw H2 by1 hm8 hmb hz
      go_wp2
      refine wp_region_any (by kernel_rfl) ?_
      change wpAny _ _ _ _ _ _ _ (World.drew _)
      refine wpAny_ready (rs := [0]) (by kernel_rfl) (by simp) (AllReady.cons rfl (fun K hK => ?_) AllReady.nil)
      go_simp
      go_wp2_with (go_at_call 13; refine (live_any _).mono ?_; rintro e w6 ⟨rfl, hb6⟩)
      refine wpAny_take (i := 1) (v := .bool true) rfl (by kernel_rfl) (by kernel_rfl) (by kernel_rfl) (fun _ _ _ h => h) (Or.inl ⟨by kernel_rfl, fun _ => by kernel_rfl⟩) ?_
      refine wpAny_take (i := 2) (v := .int .i64 t3) rfl (by kernel_rfl) (by kernel_rfl) (by kernel_rfl) (fun _ _ _ h => h) (Or.inl ⟨by kernel_rfl, fun _ => by kernel_rfl⟩) ?_
      refine wpAny_take (i := 3) (v := .bool true) rfl (by kernel_rfl) (by kernel_rfl) (by kernel_rfl) (fun _ _ _ h => h) (Or.inl ⟨by kernel_rfl, fun _ => by go_simp⟩) ?_
      refine wpAny_take (i := 4) (v := .bool true) rfl (by kernel_rfl) (by kernel_rfl) (by kernel_rfl) (fun _ _ _ h => h) (Or.inl ⟨by kernel_rfl, fun _ => by kernel_rfl⟩) ?_
      refine wpAny_take (i := 5) (v := undef) rfl (by kernel_rfl) (by kernel_rfl) (by kernel_rfl) (fun _ _ _ h => h) (Or.inr ⟨by kernel_rfl, rfl⟩) ?_
      refine wpAny_take (i := 6) (v := undef) rfl (by kernel_rfl) (by kernel_rfl) (by kernel_rfl) (fun _ _ _ h => h) (Or.inr ⟨by kernel_rfl, rfl⟩) ?_
      refine wpAny_take (i := 7) (v := undef) rfl (by kernel_rfl) (by kernel_rfl) (by kernel_rfl) (fun _ _ _ h => h) (Or.inr ⟨by kernel_rfl, rfl⟩) ?_
      refine wpAny_take (i := 8) (v := undef) rfl (by kernel_rfl) (by kernel_rfl) (by kernel_rfl) (fun _ _ _ h => h) (Or.inr ⟨by kernel_rfl, rfl⟩) ?_
      refine wpAny_take (i := 9) (v := undef) rfl (by kernel_rfl) (by kernel_rfl) (by kernel_rfl) (fun _ _ _ h => h) (Or.inr ⟨by kernel_rfl, rfl⟩) ?_
      refine wpAny_take (i := 10) (v := undef) rfl (by kernel_rfl) (by kernel_rfl) (by kernel_rfl) (fun _ _ _ h => h) (Or.inr ⟨by kernel_rfl, rfl⟩) ?_
      refine wpAny_take (i := 11) (v := undef) rfl (by kernel_rfl) (by kernel_rfl) (by kernel_rfl) (fun _ _ _ h => h) (Or.inr ⟨by kernel_rfl, rfl⟩) ?_
      refine wpAny_take (i := 12) (v := undef) rfl (by kernel_rfl) (by kernel_rfl) (by kernel_rfl) (fun _ _ _ h => h) (Or.inr ⟨by kernel_rfl, rfl⟩) ?_
      refine wpAny_take (i := 13) (v := undef) rfl (by kernel_rfl) (by kernel_rfl) (by kernel_rfl) (fun _ _ _ h => h) (Or.inr ⟨by kernel_rfl, rfl⟩) ?_
      refine wpAny_take (i := 14) (v := undef) rfl (by kernel_rfl) (by kernel_rfl) (by kernel_rfl) (fun _ _ _ h => h) (Or.inr ⟨by kernel_rfl, rfl⟩) ?_
      refine wpAny_take (i := 15) (v := undef) rfl (by kernel_rfl) (by kernel_rfl) (by kernel_rfl) (fun _ _ _ h => h) (Or.inr ⟨by kernel_rfl, rfl⟩) ?_
      refine wpAny_take (i := 16) (v := undef) rfl (by kernel_rfl) (by kernel_rfl) (by kernel_rfl) (fun _ _ _ h => h) (Or.inr ⟨by kernel_rfl, rfl⟩) ?_
      refine wpAny_take (i := 17) (v := undef) rfl (by kernel_rfl) (by kernel_rfl) (by kernel_rfl) (fun _ _ _ h => h) (Or.inr ⟨by kernel_rfl, rfl⟩) ?_
      refine wpAny_take (i := 18) (v := undef) rfl (by kernel_rfl) (by kernel_rfl) (by kernel_rfl) (fun _ _ _ h => h) (Or.inr ⟨by kernel_rfl, rfl⟩) ?_
      refine wpAny_take (i := 19) (v := undef) rfl (by kernel_rfl) (by kernel_rfl) (by kernel_rfl) (fun _ _ _ h => h) (Or.inr ⟨by kernel_rfl, rfl⟩) ?_
      refine wpAny_take (i := 20) (v := undef) rfl (by kernel_rfl) (by kernel_rfl) (by kernel_rfl) (fun _ _ _ h => h) (Or.inr ⟨by kernel_rfl, rfl⟩) ?_
      refine wpAny_take (i := 21) (v := undef) rfl (by kernel_rfl) (by kernel_rfl) (by kernel_rfl) (fun _ _ _ h => h) (Or.inr ⟨by kernel_rfl, rfl⟩) ?_
      refine wpAny_take (i := 22) (v := .bool true) rfl (by kernel_rfl) (by kernel_rfl) (by kernel_rfl) (fun _ _ _ h => h) (Or.inl ⟨by kernel_rfl, fun _ => by kernel_rfl⟩) ?_
      refine wpAny_take (i := 23) (v := .bool true) rfl (by kernel_rfl) (by kernel_rfl) (by kernel_rfl) (fun _ _ _ h => h) (Or.inl ⟨by kernel_rfl, fun _ => by kernel_rfl⟩) ?_
      refine wpAny_take (i := 24) (v := .bool true) rfl (by kernel_rfl) (by kernel_rfl) (by kernel_rfl) (fun _ _ _ h => h) (Or.inl ⟨by kernel_rfl, fun _ => by kernel_rfl⟩) ?_
      refine wpAny_done (by kernel_rfl) ?_ _
      go_wp2
      go_ret
      exact ⟨by kernel_rfl, bw5.trans ((below_of_drew hb6).mono bw5.size)⟩
  · generalize tkNum _ _ = T1
    go_wp2_with fail
    refine (takeNum_any _ bs 0 w4 hbw by1).mono ?_
    rintro e w5 ⟨rfl, rfl⟩
    rw [← HT.out]
    go_wp2_with fail
    refine Calls.mono (H2.out w4) ?_
    rintro e w5 ⟨v5, rfl, hown5, hb5⟩
    by_cases hz : T.2.2 = 0
    · obtain ⟨z, kk, hT, hz1, hz2, hz3, hz4⟩ := numB_tkNum bs by1 (by rw [← HT.out]; exact hz)
      rw [← HT.out] at hT
      subst hT
      have hms : q = 0 ∧ ms = bs.take kk := by
        rcases HD.out with ⟨h1, k', h2, h3, h4⟩ | ⟨_, _, h3⟩
        · have : k' = z := by have : (z : Int) = k' := h2; omega
          subst this
          exact ⟨h1, by rw [h4, hz2]⟩
        · have : (z : Int) < 0 ∨ 9007199254740991 < (z : Int) := h3
          omega
      obtain ⟨rfl, hms⟩ := hms
      rcases hbw.cases with ⟨e0, _⟩ | ⟨_, b, off, cap', hv', hl', hm', hbl, hc'⟩
      · rw [e0] at hz4; simp at hz4; omega
      simp only [Value.slice.injEq, true_and] at hv'
      obtain ⟨rfl, rfl⟩ := hv'
      have hk2 : (kk : Int) ≤ bs.length := by omega
      have hkp : (0 : Int) < kk := by omega
      have hp : Bs w5 (.slice (some ⟨b, off, none⟩) kk cap) (bs.take kk) := Bs_head (hbw.below hb5) kk (by omega)
      have hp5 : Bs w5 v5 (bs.take kk) := by rw [← hms]; exact hown5.bs
      have bw5 := bw.trans (hb5.mono bw.size)
      have HP : Hid _ := hp
      have HP5 : Hid _ := hp5
      clear HD HC HT hz hms hz1 hz2 hp hp5 hown5 hc' hbw H2 by1 hm8 hmb
      have hkc : (kk : Int) ≤ cap := by omega
      have hk0 : (0 : Int) ≤ kk := by omega
      have i1 := run_str Try.bt (Bs.drew HP5.out) 9 Try.underlying9
      have i2 := run_str Try.bt (Bs.drew HP.out) 9 Try.underlying9
      generalize strOfNums (bs.take kk) = sv at i1 i2
      go_wp2
      go_region_held3 (fun w' => (Sem.run Try.prog (convert 22 9 v5) w' = .ok (.string sv) w') ∧ (Sem.run Try.prog (convert 22 9 (.slice (some ⟨b, off, none⟩) kk cap)) w' = .ok (.string sv) w')) ((refine ⟨?_, ?_⟩ <;> assumption)) (first | (go_at_call 13; refine (live_any _).mono ?_; rintro e w6 ⟨rfl, hb6⟩; have s1 := conv_later i1 HP5.out hb6; have s2 := conv_later i2 HP.out hb6))
      go_wp2
      go_ret
      exact ⟨rfl, bw5.trans ((below_of_drew hb6).mono bw5.size)⟩
    · have bw5 := bw.trans (hb5.mono bw.size)
      obtain ⟨t1, t2, t3⟩ := T
      have hz' : (t3 != 0) = true := by simpa using hz
      clear HD HC HT hown5 hbw H2 by1 hm8 hmb hz
      go_wp2
      refine wp_region_any (by kernel_rfl) ?_
      change wpAny _ _ _ _ _ _ _ (World.drew _)
      refine wpAny_ready (rs := [0]) (by kernel_rfl) (by simp) (AllReady.cons rfl (fun K hK => ?_) AllReady.nil)
      go_simp
      go_wp2_with (go_at_call 13; refine (live_any _).mono ?_; rintro e w6 ⟨rfl, hb6⟩)
      refine wpAny_take (i := 1) (v := .bool true) rfl (by kernel_rfl) (by kernel_rfl) (by kernel_rfl) (fun _ _ _ h => h) (Or.inl ⟨by kernel_rfl, fun _ => by kernel_rfl⟩) ?_
      refine wpAny_take (i := 2) (v := .int .i64 t3) rfl (by kernel_rfl) (by kernel_rfl) (by kernel_rfl) (fun _ _ _ h => h) (Or.inl ⟨by kernel_rfl, fun _ => by kernel_rfl⟩) ?_
      refine wpAny_take (i := 3) (v := .bool true) rfl (by kernel_rfl) (by kernel_rfl) (by kernel_rfl) (fun _ _ _ h => h) (Or.inl ⟨by kernel_rfl, fun _ => by go_simp⟩) ?_
      refine wpAny_take (i := 4) (v := .bool true) rfl (by kernel_rfl) (by kernel_rfl) (by kernel_rfl) (fun _ _ _ h => h) (Or.inl ⟨by kernel_rfl, fun _ => by kernel_rfl⟩) ?_
      refine wpAny_take (i := 5) (v := undef) rfl (by kernel_rfl) (by kernel_rfl) (by kernel_rfl) (fun _ _ _ h => h) (Or.inr ⟨by kernel_rfl, rfl⟩) ?_
      refine wpAny_take (i := 6) (v := undef) rfl (by kernel_rfl) (by kernel_rfl) (by kernel_rfl) (fun _ _ _ h => h) (Or.inr ⟨by kernel_rfl, rfl⟩) ?_
      refine wpAny_take (i := 7) (v := undef) rfl (by kernel_rfl) (by kernel_rfl) (by kernel_rfl) (fun _ _ _ h => h) (Or.inr ⟨by kernel_rfl, rfl⟩) ?_
      refine wpAny_take (i := 8) (v := undef) rfl (by kernel_rfl) (by kernel_rfl) (by kernel_rfl) (fun _ _ _ h => h) (Or.inr ⟨by kernel_rfl, rfl⟩) ?_
      refine wpAny_take (i := 9) (v := undef) rfl (by kernel_rfl) (by kernel_rfl) (by kernel_rfl) (fun _ _ _ h => h) (Or.inr ⟨by kernel_rfl, rfl⟩) ?_
      refine wpAny_take (i := 10) (v := undef) rfl (by kernel_rfl) (by kernel_rfl) (by kernel_rfl) (fun _ _ _ h => h) (Or.inr ⟨by kernel_rfl, rfl⟩) ?_
      refine wpAny_take (i := 11) (v := undef) rfl (by kernel_rfl) (by kernel_rfl) (by kernel_rfl) (fun _ _ _ h => h) (Or.inr ⟨by kernel_rfl, rfl⟩) ?_
      refine wpAny_take (i := 12) (v := undef) rfl (by kernel_rfl) (by kernel_rfl) (by kernel_rfl) (fun _ _ _ h => h) (Or.inr ⟨by kernel_rfl, rfl⟩) ?_
      refine wpAny_take (i := 13) (v := undef) rfl (by kernel_rfl) (by kernel_rfl) (by kernel_rfl) (fun _ _ _ h => h) (Or.inr ⟨by kernel_rfl, rfl⟩) ?_
      refine wpAny_take (i := 14) (v := undef) rfl (by kernel_rfl) (by kernel_rfl) (by kernel_rfl) (fun _ _ _ h => h) (Or.inr ⟨by kernel_rfl, rfl⟩) ?_
      refine wpAny_take (i := 15) (v := undef) rfl (by kernel_rfl) (by kernel_rfl) (by kernel_rfl) (fun _ _ _ h => h) (Or.inr ⟨by kernel_rfl, rfl⟩) ?_
      refine wpAny_take (i := 16) (v := undef) rfl (by kernel_rfl) (by kernel_rfl) (by kernel_rfl) (fun _ _ _ h => h) (Or.inr ⟨by kernel_rfl, rfl⟩) ?_
      refine wpAny_take (i := 17) (v := undef) rfl (by kernel_rfl) (by kernel_rfl) (by kernel_rfl) (fun _ _ _ h => h) (Or.inr ⟨by kernel_rfl, rfl⟩) ?_
      refine wpAny_take (i := 18) (v := undef) rfl (by kernel_rfl) (by kernel_rfl) (by kernel_rfl) (fun _ _ _ h => h) (Or.inr ⟨by kernel_rfl, rfl⟩) ?_
      refine wpAny_take (i := 19) (v := undef) rfl (by kernel_rfl) (by kernel_rfl) (by kernel_rfl) (fun _ _ _ h => h) (Or.inr ⟨by kernel_rfl, rfl⟩) ?_
      refine wpAny_take (i := 20) (v := undef) rfl (by kernel_rfl) (by kernel_rfl) (by kernel_rfl) (fun _ _ _ h => h) (Or.inr ⟨by kernel_rfl, rfl⟩) ?_
      refine wpAny_take (i := 21) (v := undef) rfl (by kernel_rfl) (by kernel_rfl) (by kernel_rfl) (fun _ _ _ h => h) (Or.inr ⟨by kernel_rfl, rfl⟩) ?_
      refine wpAny_take (i := 22) (v := .bool true) rfl (by kernel_rfl) (by kernel_rfl) (by kernel_rfl) (fun _ _ _ h => h) (Or.inl ⟨by kernel_rfl, fun _ => by kernel_rfl⟩) ?_
      refine wpAny_take (i := 23) (v := .bool true) rfl (by kernel_rfl) (by kernel_rfl) (by kernel_rfl) (fun _ _ _ h => h) (Or.inl ⟨by kernel_rfl, fun _ => by kernel_rfl⟩) ?_
      refine wpAny_take (i := 24) (v := .bool true) rfl (by kernel_rfl) (by kernel_rfl) (by kernel_rfl) (fun _ _ _ h => h) (Or.inl ⟨by kernel_rfl, fun _ => by kernel_rfl⟩) ?_
      refine wpAny_done (by kernel_rfl) ?_ _
      go_wp2
      go_ret
      exact ⟨by kernel_rfl, bw5.trans ((below_of_drew hb6).mono bw5.size)⟩
end Go.Proofs.Ythfikoghbnicoaa
