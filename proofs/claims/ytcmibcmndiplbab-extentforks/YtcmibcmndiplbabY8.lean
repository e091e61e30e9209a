/- slices.Insert over rows of spans, beyond the room. -/
import Derived.Test.YtcmibcmndiplbabY5
import Derived.Test.YtcmibcmndiplbabY6
namespace Go.Proofs.Ytcmibcmndiplbab
open Go.RowKit Go.Lib Go.Shelf

set_option maxHeartbeats 2000000 in
set_option maxRecDepth 100000 in
theorem insert_c (g n cap gv cv i : Nat) (C : Array Value) (l vs : List (Int × Int)) (w : World) (hR : RowOf w g n cap C l) (hv : SpAt w gv cv vs) (h0 : 0 < vs.length) (hjn : i < n) (hm : cap < n + vs.length) (h5 : n + vs.length ≤ 100000) :
    Calls Try.prog 49 #[.slice (some ⟨g, 0, none⟩) n cap, .int .i64 i, .slice (some ⟨gv, 0, none⟩) vs.length cv] w (Repl w g (l.take i ++ vs ++ l.drop i)) := by
  have hbig := hR.big
  unfold maxLen at hbig
  have hn := hR.room
  have hn5 := hR.n5
  obtain ⟨m, hml⟩ : ∃ m, vs.length = m := ⟨_, rfl⟩
  rw [hml] at hm h5 h0 ⊢
  obtain ⟨L', HL'⟩ : ∃ L', Hid (L' = l.take i ++ vs ++ l.drop i) := ⟨_, ⟨rfl⟩⟩
  rw [← HL'.out]
  have h4 : ((i : Int) == (n : Int)) = false := by simp; omega
  have h6 : (i : Int) < (n : Int) := by omega
  have h7 : (n : Int) ≤ (cap : Int) := by omega
  have h8 : i ≠ cap := by omega
  have h10 : (cap : Int) < (n : Int) + (m : Int) := by omega
  have z1 : ((m : Int) == 0) = false := by simp; omega
  have HR : Hid (RowOf w g n cap C l) := ⟨hR⟩
  have HV : Hid (SpAt w gv cv vs) := ⟨hv⟩
  clear hR hv
  go_enter Try.func49, Try.ntmps49
  obtain ⟨w0, hw0⟩ : ∃ w0, w0 = w := ⟨_, rfl⟩
  have hR0 : RowOf w0 g n cap C l := by rw [hw0]; exact HR.out
  have hV0 : SpAt w0 gv cv vs := by rw [hw0]; exact HV.out
  have hG0 : w.grownBy w0 (some g) := by rw [hw0]; exact grown_refl _ _
  have hS0 : w.heap.size ≤ w0.heap.size := by rw [hw0]; exact Nat.le_refl _
  have hli : (l.take i).length = i := by have := hR0.len; simp; omega
  have hown : Own2 w0 0 57 (.slice (some ⟨g, 0, none⟩) i cap) (l.take i) := by
    refine ⟨flat2_length _, .inr ⟨g, cap, C, by rw [hli], Nat.zero_le _, hR0.row, by omega, hR0.big, hR0.size, ?_⟩⟩
    rw [hli, flat2_take, ← hR0.take, List.take_take, Nat.min_eq_left (by omega)]
  obtain ⟨cap2, Cz, w1, happ, hr1, hs1, ht1, hc1, hc2, hb1⟩ := run_appendZ w0 58 0 g i cap (m + (n - i)) (l.take i) hown hli.symm (by omega) (by omega)
  obtain ⟨g2, Hg2⟩ : ∃ g2, Hid (g2 = w0.heap.size) := ⟨_, ⟨rfl⟩⟩
  rw [← Hg2.out] at happ hr1
  rw [hw0] at happ
  have hgl : g < w0.heap.size := hR0.row.lt
  have hvl : gv < w0.heap.size := hV0.2.2.1
  have hg2g : g2 ≠ g := by rw [Hg2.out]; omega
  have hR1 : Row w1 g C := hR0.row.below hb1
  have hV1 : SpAt w1 gv cv vs := hV0.below hb1
  have hG1 : w.grownBy w1 (some g) := grown_trans hG0 (grown_of_below hb1)
  have HH : Hid (w.heap.size ≤ g2) := ⟨by rw [Hg2.out]; exact hS0⟩
  have hCzL : Cz.toList.length = cap2 * 2 := by rw [← hs1]; simp
  obtain ⟨V, HVf⟩ : ∃ V, Hid (V = flat2 vs) := ⟨_, ⟨rfl⟩⟩
  have hVl : V.length = m * 2 := by rw [HVf.out, flat2_length, hml]
  obtain ⟨D, HD⟩ : ∃ D, Hid (D = flat2 (l.drop i)) := ⟨_, ⟨rfl⟩⟩
  have hDl : D.length = (n - i) * 2 := by rw [HD.out, flat2_length, List.length_drop, hR0.len]
  have hcp1 : (Builtin.copy_ #[58, 58] 3 #[.slice (some ⟨g2, i * 2, none⟩) (m + (n - i)) (cap2 - i), .slice (some ⟨gv, 0, none⟩) m cv]).run Try.prog w1 = .ok (goInt (Nat.min m (m + (n - i)))) (w1.setRow g2 (splice Cz.toList (i * 2) V).toArray) :=
    run_copy2 _ _ _ _ _ _ _ _ _ Cz V hr1 (by rw [hVl, show Nat.min m (m + (n - i)) = m from Nat.min_eq_left (by omega)]) (fun k u hu => by rw [HVf.out] at hu; exact hV1.src k u hu) (by omega) (by rw [HVf.out]; exact flat2_one vs)
  obtain ⟨C1, HC1⟩ : ∃ C1, Hid (C1 = splice Cz.toList (i * 2) V) := ⟨_, ⟨rfl⟩⟩
  have hC1s : C1.length = cap2 * 2 := by rw [HC1.out, length_splice _ _ _ (by omega), hCzL]
  have hC1t : C1.take ((i + m) * 2) = flat2 (l.take i ++ vs) := by
    have t1 := splice_take Cz.toList (i * 2) V (by omega)
    rw [show i * 2 + V.length = (i + m) * 2 by omega, ← HC1.out] at t1
    rw [t1, ht1, flat2_append, HVf.out]
  rw [← HC1.out] at hcp1
  have hr2 : Row (w1.setRow g2 C1.toArray) g2 C1.toArray := setRow_row hr1 _
  have hRo : Row (w1.setRow g2 C1.toArray) g C := (setRow_other w1 g2 g _ (Ne.symm hg2g)).trans hR1
  have hG2 : w.grownBy (w1.setRow g2 C1.toArray) (some g) := ⟨hG1.os, hG1.tape, hG1.output, by simpa using hG1.size, fun k hk hne => by
    rw [setRow_other w1 g2 k _ (by have := HH.out; omega)]
    exact hG1.block k hk hne⟩
  have HC1s : Hid (C1.length = cap2 * 2) := ⟨hC1s⟩
  have HC1t : Hid (C1.take ((i + m) * 2) = flat2 (l.take i ++ vs)) := ⟨hC1t⟩
  have HDl : Hid (D.length = (n - i) * 2) := ⟨hDl⟩
  have HR2 : Hid (Row (w1.setRow g2 C1.toArray) g2 C1.toArray) := ⟨hr2⟩
  have HRo : Hid (Row (w1.setRow g2 C1.toArray) g C) := ⟨hRo⟩
  have HG2 : Hid (w.grownBy (w1.setRow g2 C1.toArray) (some g)) := ⟨hG2⟩
  have HR0 : Hid (RowOf w0 g n cap C l) := ⟨hR0⟩
  have HB2 : Hid (cap2 ≤ maxLen) := ⟨hc2⟩
  have n1 : i ≠ cap2 := by omega
  have n2 : cap2 ≠ i := by omega
  have n3 : cap2 ≠ i + m := by omega
  clear hr2 hRo hG2 hC1s hC1t hDl hVl hCzL hV1 hR1 hr1 hs1 ht1 hG1 hb1 hown hli hG0 hR0 hV0 hS0 hc2 hvl hgl
  go_wp2_with (at_builtin; refine wpl_app (v2 := .int .i64 ((m + (n - i) : Nat) : Int)) rfl (.tmp 34) (.tmp 39) rfl rfl ?hx happ ?_)
  case hx => show Value.int _ _ = _; congr 1; omega
  clear happ
  go_wp2
  have hr2 := HR2.out
  have hRo := HRo.out
  have hG2 := HG2.out
  generalize w1.setRow g2 C1.toArray = wa at hr2 hRo hG2 ⊢
  clear hcp1 HR2 HRo HG2
  have hDl := HDl.out
  have hC1s := HC1s.out
  have hcp2 : (Builtin.copy_ #[58, 58] 3 #[.slice (some ⟨g2, (i + m) * 2, none⟩) (n - i) (cap2 - (i + m)), .slice (some ⟨g, i * 2, none⟩) (n - i) (cap - i)]).run Try.prog wa.drew = .ok (goInt (Nat.min (n - i) (n - i))) (wa.drew.setRow g2 (splice C1 ((i + m) * 2) D).toArray) := by
    have := run_copy2 wa.drew 3 g2 ((i + m) * 2) (n - i) (cap2 - (i + m)) ⟨g, i * 2, none⟩ (n - i) (cap - i) C1.toArray D hr2 (by rw [hDl, show Nat.min (n - i) (n - i) = n - i from Nat.min_self _]) (fun k u hu => by
      have hadd : (⟨g, i * 2, none⟩ : Addr).add k = ⟨g, i * 2 + k, none⟩ := by unfold Addr.add; split <;> simp_all
      have hk : k < D.length := by
        rcases Nat.lt_or_ge k D.length with h' | h'
        · exact h'
        · rw [List.getElem?_eq_none h'] at hu; cases hu
      rw [hadd]
      show wa.cell? _ = _
      rw [hRo.cell]
      rw [HD.out, flat2_drop, List.getElem?_drop, ← HR0.out.get _ (by omega)] at hu
      simpa using hu) (by rw [List.size_toArray]; omega) (by rw [HD.out]; exact flat2_one _)
    exact this
  clear hDl hC1s
  refine wp_region_any (by kernel_rfl) ?_
  change wpAny _ _ _ _ _ _ _ (World.drew _)
  refine wpAny_take (i := 0) (v := .slice (some ⟨g2, 0, none⟩) (i + (m + (n - i))) cap2) rfl (by kernel_rfl) (by kernel_rfl) (by kernel_rfl) (fun _ _ _ h => h) (Or.inl ⟨by kernel_rfl, fun _ => by kernel_rfl⟩) ?_
  refine wpAny_take (i := 1) (v := .int .i64 (i : Int)) rfl (by kernel_rfl) (by kernel_rfl) (by kernel_rfl) (fun _ _ _ h => h) (Or.inl ⟨by kernel_rfl, fun _ => by kernel_rfl⟩) ?_
  refine wpAny_take (i := 2) (v := .int .i64 (m : Int)) rfl (by kernel_rfl) (by kernel_rfl) (by kernel_rfl) (fun _ _ _ h => h) (Or.inl ⟨by kernel_rfl, fun _ => by kernel_rfl⟩) ?_
  refine wpAny_take (i := 3) (v := .int .i64 ((i : Int) + (m : Int))) rfl (by kernel_rfl) (by kernel_rfl) (by kernel_rfl) (fun _ _ _ h => h) (Or.inl ⟨by kernel_rfl, fun wx => by go_simp; rw [IntKind.wrap_i64]; omega⟩) ?_
  refine wpAny_take (i := 4) (v := .slice (some ⟨g2, (i + m) * 2, none⟩) (n - i) (cap2 - (i + m))) rfl (by kernel_rfl) (by kernel_rfl) (by kernel_rfl) (fun _ _ _ h => h) (Or.inl ⟨by kernel_rfl, fun wx => by go_simp; rw [if_pos ⟨by omega, by omega⟩, show ((i : Int) + (m : Int)).toNat = i + m by omega, if_neg (by omega), show i + (m + (n - i)) - (i + m) = n - i by omega]⟩) ?_
  refine wpAny_take (i := 5) (v := .slice (some ⟨g, 0, none⟩) n cap) rfl (by kernel_rfl) (by kernel_rfl) (by kernel_rfl) (fun _ _ _ h => h) (Or.inl ⟨by kernel_rfl, fun _ => by kernel_rfl⟩) ?_
  refine wpAny_take (i := 6) (v := .int .i64 (i : Int)) rfl (by kernel_rfl) (by kernel_rfl) (by kernel_rfl) (fun _ _ _ h => h) (Or.inl ⟨by kernel_rfl, fun _ => by kernel_rfl⟩) ?_
  refine wpAny_take (i := 7) (v := .slice (some ⟨g, i * 2, none⟩) (n - i) (cap - i)) rfl (by kernel_rfl) (by kernel_rfl) (by kernel_rfl) (fun _ _ _ h => h) (Or.inl ⟨by kernel_rfl, fun wx => by go_simp; rw [if_pos (by omega), if_neg (by omega)]⟩) ?_
  refine wpAny_ready (rs := [8]) (by kernel_rfl) (by simp) (AllReady.cons rfl (fun Kc hK => ?_) AllReady.nil)
  go_simp
  refine hK _ _ ?_
  refine wpAny_done (by kernel_rfl) ?_ _
  have hr3 : Row (wa.drew.setRow g2 (splice C1 ((i + m) * 2) D).toArray) g2 (splice C1 ((i + m) * 2) D).toArray := setRow_row (w := wa.drew) hr2 _
  have hG3 : w.grownBy (wa.drew.setRow g2 (splice C1 ((i + m) * 2) D).toArray) (some g) := ⟨hG2.os, hG2.tape, hG2.output, by simpa using hG2.size, fun k hk hne => by
    rw [setRow_other wa.drew g2 k _ (by have := HH.out; omega)]
    exact hG2.block k hk hne⟩
  generalize wa.drew.setRow g2 (splice C1 ((i + m) * 2) D).toArray = wb at hr3 hG3 ⊢
  have hF : RowOf wb g2 (i + (m + (n - i))) cap2 (splice C1 ((i + m) * 2) D).toArray L' := by
    have e1 := HDl.out
    have e2 := HC1s.out
    refine ⟨hr3, ?_, ?_, ?_, hc1, HB2.out, by omega⟩
    · rw [List.size_toArray, length_splice _ _ _ (by omega)]; omega
    · have t2 := splice_take C1 ((i + m) * 2) D (by omega)
      rw [show (i + m) * 2 + D.length = (i + (m + (n - i))) * 2 by omega] at t2
      show (splice C1 ((i + m) * 2) D).take _ = _
      rw [t2, HC1t.out, HL'.out, HD.out, ← flat2_append]
    · have := HR0.out.len
      rw [HL'.out]; simp; omega
  have HF : Hid (RowOf wb g2 (i + (m + (n - i))) cap2 (splice C1 ((i + m) * 2) D).toArray L') := ⟨hF⟩
  have HG3 : Hid (w.grownBy wb (some g)) := ⟨hG3⟩
  clear hF hG3 hr3 hcp2 hr2 hRo hG2
  go_wp2
  go_ret
  have hLl := HF.out.len
  refine ⟨g2, cap2, (splice C1 ((i + m) * 2) D).toArray, ?_, ?_, HG3.out, .inr HH.out⟩
  · rw [hLl]; rfl
  · rw [hLl]; exact HF.out
end Go.Proofs.Ytcmibcmndiplbab
