/- slices.Insert over rows of spans, within the room. -/
import Derived.Test.YtcmibcmndiplbabY5
import Derived.Test.YtcmibcmndiplbabY6
namespace Go.Proofs.Ytcmibcmndiplbab
open Go.RowKit Go.Lib Go.Shelf

set_option maxHeartbeats 2000000 in
set_option maxRecDepth 100000 in
theorem insert_e (g n cap gv cv i : Nat) (C : Array Value) (l vs : List (Int × Int)) (w : World) (hR : RowOf w g n cap C l) (Cv : Array Value) (hv : SpAt w gv cv vs) (hvr : Row w gv Cv) (hne : gv ≠ g) (h0 : 0 < vs.length) (hjn : i < n) (hm : n + vs.length ≤ cap) (h5 : n + vs.length ≤ 100000) :
    Calls Try.prog 49 #[.slice (some ⟨g, 0, none⟩) n cap, .int .i64 i, .slice (some ⟨gv, 0, none⟩) vs.length cv] w (Replaced w g (n + vs.length) cap (l.take i ++ vs ++ l.drop i)) := by
  have hbig := hR.big
  unfold maxLen at hbig
  have hn := hR.room
  have hn5 := hR.n5
  obtain ⟨m, hml⟩ : ∃ m, vs.length = m := ⟨_, rfl⟩
  rw [hml] at hm h5 h0 ⊢
  obtain ⟨L', HL'⟩ : ∃ L', Hid (L' = l.take i ++ vs ++ l.drop i) := ⟨_, ⟨rfl⟩⟩
  rw [← HL'.out]
  have h4 : ((i : Int) == (n : Int)) = false := by simp; omega
  have h6 : (i : Int) < (n : Int) := by omega
  have h7 : (n : Int) ≤ (cap : Int) := by omega
  have h8 : i ≠ cap := by omega
  have h10 : ¬ (cap : Int) < (n : Int) + (m : Int) := by omega
  have h12 : i + m ≠ cap := by omega
  have h13 : cap ≠ i + m := by omega
  have z1 : ((m : Int) == 0) = false := by simp; omega
  have HR : Hid (RowOf w g n cap C l) := ⟨hR⟩
  have hCs := hR.size
  have hCL : C.toList.length = cap * 2 := by rw [← hCs]; simp
  obtain ⟨V, HVf⟩ : ∃ V, Hid (V = flat2 vs) := ⟨_, ⟨rfl⟩⟩
  have hVl : V.length = m * 2 := by rw [HVf.out, flat2_length, hml]
  obtain ⟨D, HD⟩ : ∃ D, Hid (D = flat2 (l.drop i)) := ⟨_, ⟨rfl⟩⟩
  have hDl : D.length = (n - i) * 2 := by rw [HD.out, flat2_length, List.length_drop, hR.len]
  have hov : (callFunc 50 #[.slice (some ⟨gv, 0, none⟩) m cv, .slice (some ⟨g, (i + m) * 2, none⟩) (n + m - (i + m)) (cap - (i + m))]).run Try.prog w = .ok (.value (.bool false)) w := run_ov w gv g _ _ _ _ _ _ Cv C hvr hR.row (by omega) hne
  have hcp : (Builtin.copy_ #[58, 58] 3 #[.slice (some ⟨g, (i + m) * 2, none⟩) (n - i) (cap - (i + m)), .slice (some ⟨g, i * 2, none⟩) (n + m - i) (cap - i)]).run Try.prog w.drew = .ok (goInt (Nat.min (n + m - i) (n - i))) (w.drew.setRow g (splice C.toList ((i + m) * 2) D).toArray) :=
    run_copy2 w.drew 3 g ((i + m) * 2) (n - i) (cap - (i + m)) ⟨g, i * 2, none⟩ (n + m - i) (cap - i) C D hR.row (by rw [hDl, show Nat.min (n + m - i) (n - i) = n - i from Nat.min_eq_right (by omega)]) (fun k u hu => by
      have hadd : (⟨g, i * 2, none⟩ : Addr).add k = ⟨g, i * 2 + k, none⟩ := by unfold Addr.add; split <;> simp_all
      have hk : k < D.length := by
        rcases Nat.lt_or_ge k D.length with h' | h'
        · exact h'
        · rw [List.getElem?_eq_none h'] at hu; cases hu
      rw [hadd]
      show w.cell? _ = _
      rw [hR.row.cell]
      rw [HD.out, flat2_drop, List.getElem?_drop, ← hR.get _ (by omega)] at hu
      simpa using hu) (by omega) (by rw [HD.out]; exact flat2_one _)
  obtain ⟨C1, HC1⟩ : ∃ C1, Hid (C1 = splice C.toList ((i + m) * 2) D) := ⟨_, ⟨rfl⟩⟩
  have hC1s : C1.length = cap * 2 := by rw [HC1.out, length_splice _ _ _ (by omega), hCL]
  have hC1a : C1.take (i * 2) = flat2 (l.take i) := by
    have t1 := splice_take0 C.toList ((i + m) * 2) D (by omega)
    have t2 : (C1.take ((i + m) * 2)).take (i * 2) = (C.toList.take ((i + m) * 2)).take (i * 2) := by rw [HC1.out, t1]
    rw [List.take_take, List.take_take, Nat.min_eq_left (by omega)] at t2
    rw [t2, flat2_take, ← hR.take, List.take_take, Nat.min_eq_left (by omega)]
  have hC1b : (C1.drop ((i + m) * 2)).take ((n - i) * 2) = D := by
    have := splice_mid C.toList ((i + m) * 2) D (by omega)
    rw [hDl] at this
    rw [HC1.out]; exact this
  rw [← HC1.out] at hcp
  have HC1s : Hid (C1.length = cap * 2) := ⟨hC1s⟩
  have HC1a : Hid (C1.take (i * 2) = flat2 (l.take i)) := ⟨hC1a⟩
  have HC1b : Hid ((C1.drop ((i + m) * 2)).take ((n - i) * 2) = D) := ⟨hC1b⟩
  have HVl : Hid (V.length = m * 2) := ⟨hVl⟩
  have HDl : Hid (D.length = (n - i) * 2) := ⟨hDl⟩
  have HV : Hid (SpAt w gv cv vs) := ⟨hv⟩
  have HW : Hid (Row (w.drew.setRow g C1.toArray) g C1.toArray ∧ w.grownBy (w.drew.setRow g C1.toArray) (some g) ∧ SpAt (w.drew.setRow g C1.toArray) gv cv vs) := ⟨by
    have hg : w.grownBy (w.drew.setRow g C1.toArray) (some g) := grown_trans (grown_drew (grown_refl w _)) (grown_setRow _ _ _)
    refine ⟨setRow_row (w := w.drew) hR.row _, hg, hv.1, hv.2.1, Nat.lt_of_lt_of_le hv.2.2.1 hg.size, fun jj hj => ⟨hg.cell (hv.2.2.2 jj hj).1 (by simpa using hne), hg.cell (hv.2.2.2 jj hj).2 (by simpa using hne)⟩⟩⟩
  clear hR hv hvr hCs hCL hVl hDl hC1s hC1a hC1b
  go_enter Try.func49, Try.ntmps49
  go_wp2
  refine wp_region_any (by kernel_rfl) ?_
  change wpAny _ _ _ _ _ _ _ (World.drew _)
  refine wpAny_take (i := 0) (v := .slice (some ⟨g, 0, none⟩) (n + m) cap) rfl (by kernel_rfl) (by kernel_rfl) (by kernel_rfl) (fun _ _ _ h => h) (Or.inl ⟨by kernel_rfl, fun _ => by kernel_rfl⟩) ?_
  refine wpAny_take (i := 1) (v := .int .i64 (i : Int)) rfl (by kernel_rfl) (by kernel_rfl) (by kernel_rfl) (fun _ _ _ h => h) (Or.inl ⟨by kernel_rfl, fun _ => by kernel_rfl⟩) ?_
  refine wpAny_take (i := 2) (v := .int .i64 (m : Int)) rfl (by kernel_rfl) (by kernel_rfl) (by kernel_rfl) (fun _ _ _ h => h) (Or.inl ⟨by kernel_rfl, fun _ => by kernel_rfl⟩) ?_
  refine wpAny_take (i := 3) (v := .int .i64 ((i : Int) + (m : Int))) rfl (by kernel_rfl) (by kernel_rfl) (by kernel_rfl) (fun _ _ _ h => h) (Or.inl ⟨by kernel_rfl, fun wx => by go_simp; rw [IntKind.wrap_i64]; omega⟩) ?_
  refine wpAny_take (i := 4) (v := .slice (some ⟨g, (i + m) * 2, none⟩) (n - i) (cap - (i + m))) rfl (by kernel_rfl) (by kernel_rfl) (by kernel_rfl) (fun _ _ _ h => h) (Or.inl ⟨by kernel_rfl, fun wx => by go_simp; rw [if_pos ⟨by omega, by omega⟩, show ((i : Int) + (m : Int)).toNat = i + m by omega, if_neg (by omega), show n + m - (i + m) = n - i by omega]⟩) ?_
  refine wpAny_take (i := 5) (v := .slice (some ⟨g, 0, none⟩) (n + m) cap) rfl (by kernel_rfl) (by kernel_rfl) (by kernel_rfl) (fun _ _ _ h => h) (Or.inl ⟨by kernel_rfl, fun _ => by kernel_rfl⟩) ?_
  refine wpAny_take (i := 6) (v := .int .i64 (i : Int)) rfl (by kernel_rfl) (by kernel_rfl) (by kernel_rfl) (fun _ _ _ h => h) (Or.inl ⟨by kernel_rfl, fun _ => by kernel_rfl⟩) ?_
  refine wpAny_take (i := 7) (v := .slice (some ⟨g, i * 2, none⟩) (n + m - i) (cap - i)) rfl (by kernel_rfl) (by kernel_rfl) (by kernel_rfl) (fun _ _ _ h => h) (Or.inl ⟨by kernel_rfl, fun wx => by go_simp; rw [if_pos (by omega), if_neg (by omega)]⟩) ?_
  refine wpAny_ready (rs := [8]) (by kernel_rfl) (by simp) (AllReady.cons rfl (fun Kc hK => ?_) AllReady.nil)
  go_simp
  refine hK _ _ ?_
  refine wpAny_done (by kernel_rfl) ?_ _
  obtain ⟨hr1, hG1, hV1⟩ := HW.out
  generalize w.drew.setRow g C1.toArray = wa at hr1 hG1 hV1 ⊢
  clear hcp hov HW
  have hVl := HVl.out
  have hC1s := HC1s.out
  have hDl := HDl.out
  have hcp2 : (Builtin.copy_ #[58, 58] 3 #[.slice (some ⟨g, i * 2, none⟩) (n + m - i) (cap - i), .slice (some ⟨gv, 0, none⟩) m cv]).run Try.prog wa = .ok (goInt (Nat.min m (n + m - i))) (wa.setRow g (splice C1 (i * 2) V).toArray) :=
    run_copy2 _ _ _ _ _ _ _ _ _ C1.toArray V hr1 (by rw [hVl, show Nat.min m (n + m - i) = m from Nat.min_eq_left (by omega)]) (fun j u hu => by rw [HVf.out] at hu; exact hV1.src j u hu) (by rw [List.size_toArray]; omega) (by rw [HVf.out]; exact flat2_one vs)
  have hr2 : Row (wa.setRow g (splice C1 (i * 2) V).toArray) g (splice C1 (i * 2) V).toArray := setRow_row hr1 _
  have hG2 : w.grownBy (wa.setRow g (splice C1 (i * 2) V).toArray) (some g) := grown_trans hG1 (grown_setRow _ _ _)
  have hF : RowOf (wa.setRow g (splice C1 (i * 2) V).toArray) g (n + m) cap (splice C1 (i * 2) V).toArray L' := by
    refine ⟨hr2, ?_, ?_, ?_, by omega, HR.out.big, by omega⟩
    · rw [List.size_toArray, length_splice _ _ _ (by omega)]; omega
    · show (splice C1 (i * 2) V).take _ = _
      have t1 := splice_take C1 (i * 2) V (by omega)
      rw [show i * 2 + V.length = (i + m) * 2 by omega] at t1
      have t2 := splice_drop C1 (i * 2) V (by omega)
      rw [show i * 2 + V.length = (i + m) * 2 by omega] at t2
      rw [show (n + m) * 2 = (i + m) * 2 + (n - i) * 2 by omega, List.take_add, t1, t2, HC1b.out, HC1a.out, HL'.out, HD.out, HVf.out, ← flat2_append, ← flat2_append]
    · have := HR.out.len
      rw [HL'.out]; simp; omega
  have HF : Hid (RowOf (wa.setRow g (splice C1 (i * 2) V).toArray) g (n + m) cap (splice C1 (i * 2) V).toArray L') := ⟨hF⟩
  have HG2 : Hid (w.grownBy (wa.setRow g (splice C1 (i * 2) V).toArray) (some g)) := ⟨hG2⟩
  clear hF hG2 hr2 hVl hC1s hDl hr1 hG1 hV1
  go_wp2
  go_ret
  exact ⟨rfl, ⟨_, HF.out⟩, HG2.out⟩
end Go.Proofs.Ytcmibcmndiplbab
