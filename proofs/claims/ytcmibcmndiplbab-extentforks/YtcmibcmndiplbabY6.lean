/- slices.Replace over rows of spans, within the room, more than was there. -/
import Derived.Test.YtcmibcmndiplbabY4
import Derived.Lib.Overlaps
namespace Go.Proofs.Ytcmibcmndiplbab
open Go.RowKit Go.Lib Go.Shelf

theorem Row.shape {w : World} {g : Nat} {C : Array Value} (h : Row w g C) : w.shape? g = some (57, C.size) := by unfold Row at h; simp [World.shape?, h]
theorem run_ov (w : World) (g gv o la ca lb cb : Nat) (o2 : Nat) (C Cv : Array Value) (h : Row w g C) (hv : Row w gv Cv) (hs : Cv.size ≠ 0) (hne : g ≠ gv) :
    (callFunc 50 #[.slice (some ⟨g, o, none⟩) la ca, .slice (some ⟨gv, o2, none⟩) lb cb]).run Try.prog w = .ok (.value (.bool false)) w := by
  rw [run_callFunc_extern Try.func50 (by kernel_rfl) (by kernel_rfl) (by kernel_rfl) (e := Extern.SlicesOverlaps.overlaps #[58, 58] #[4]) (by kernel_rfl),
    Lib.run_overlaps_apart w 58 4 57 Try.underlying58 2 Try.sizeOf57 ⟨g, o, none⟩ ⟨gv, o2, none⟩ la ca lb cb hne 57 57 C.size Cv.size h.shape hv.shape hs (h.frozen _) (h.frozen _)]
  rfl
theorem splice_drop {α : Type} (L : List α) (off : Nat) (cs : List α) (h : off ≤ L.length) : (splice L off cs).drop (off + cs.length) = L.drop (off + cs.length) := by
  unfold splice
  rw [← List.append_assoc, List.drop_append, List.drop_of_length_le (by simp; omega)]
  have e : off + cs.length - (List.take off L ++ cs).length = 0 := by simp; omega
  rw [e]; simp
theorem splice_mid {α : Type} (L : List α) (off : Nat) (cs : List α) (h : off ≤ L.length) : ((splice L off cs).drop off).take cs.length = cs := by
  unfold splice
  rw [List.drop_append, List.drop_of_length_le (by simp; omega)]
  have e : off - (List.take off L).length = 0 := by simp; omega
  rw [e]; simp

set_option maxHeartbeats 2000000 in
set_option maxRecDepth 100000 in
theorem replace_e (g n cap gv cv i j : Nat) (C : Array Value) (l vs : List (Int × Int)) (w : World) (hR : RowOf w g n cap C l) (Cv : Array Value) (hv : SpAt w gv cv vs) (hvr : Row w gv Cv) (hvs : Cv.size ≠ 0) (hne : gv ≠ g) (hij : i < j) (hjn : j < n) (hm1 : j < i + vs.length) (hm : i + vs.length + (n - j) ≤ cap) (h5 : i + vs.length + (n - j) ≤ 100000) :
    Calls Try.prog 43 #[.slice (some ⟨g, 0, none⟩) n cap, .int .i64 i, .int .i64 j, .slice (some ⟨gv, 0, none⟩) vs.length cv] w (Replaced w g (i + vs.length + (n - j)) cap (l.take i ++ vs ++ l.drop j)) := by
  have hbig := hR.big
  unfold maxLen at hbig
  have hn := hR.room
  have hn5 := hR.n5
  obtain ⟨m, hml⟩ : ∃ m, vs.length = m := ⟨_, rfl⟩
  rw [hml] at hm h5 hm1 ⊢
  obtain ⟨L', HL'⟩ : ∃ L', Hid (L' = l.take i ++ vs ++ l.drop j) := ⟨_, ⟨rfl⟩⟩
  rw [← HL'.out]
  have h1 : (i : Int) < (j : Int) := by omega
  have h2 : (j : Int) < (n : Int) := by omega
  have h3 : ((i : Int) == (j : Int)) = false := by simp; omega
  have h4 : ((j : Int) == (n : Int)) = false := by simp; omega
  have h6 : (i : Int) < (n : Int) := by omega
  have h7 : (n : Int) ≤ (cap : Int) := by omega
  have h8 : i ≠ cap := by omega
  have h9 : j ≠ cap := by omega
  have h10 : ¬ (cap : Int) < (i : Int) + (m : Int) + ((n - j : Nat) : Int) := by omega
  have h11 : ¬ (i : Int) + (m : Int) ≤ (j : Int) := by omega
  have h12 : i + m ≠ cap := by omega
  have h13 : cap ≠ i + m := by omega
  have HR : Hid (RowOf w g n cap C l) := ⟨hR⟩
  have hCs := hR.size
  have hCL : C.toList.length = cap * 2 := by rw [← hCs]; simp
  obtain ⟨V, HVf⟩ : ∃ V, Hid (V = flat2 vs) := ⟨_, ⟨rfl⟩⟩
  have hVl : V.length = m * 2 := by rw [HVf.out, flat2_length, hml]
  obtain ⟨D, HD⟩ : ∃ D, Hid (D = flat2 (l.drop j)) := ⟨_, ⟨rfl⟩⟩
  have hDl : D.length = (n - j) * 2 := by rw [HD.out, flat2_length, List.length_drop, hR.len]
  have hov : ∀ q, (callFunc 50 #[.slice (some ⟨g, (i + m) * 2, none⟩) (n - j) (cap - (i + m)), .slice (some ⟨gv, 0, none⟩) m cv]).run Try.prog (w.drewN q) = .ok (.value (.bool false)) (w.drewN q) := fun q => run_ov (w.drewN q) g gv _ _ _ _ _ _ C Cv hR.row hvr hvs (Ne.symm hne)
  have hcp : ∀ q, (Builtin.copy_ #[58, 58] 3 #[.slice (some ⟨g, (i + m) * 2, none⟩) (n - j) (cap - (i + m)), .slice (some ⟨g, j * 2, none⟩) (n - j) (cap - j)]).run Try.prog (w.drewN q) = .ok (goInt (Nat.min (n - j) (n - j))) ((w.drewN q).setRow g (splice C.toList ((i + m) * 2) D).toArray) := fun q =>
    run_copy2 (w.drewN q) 3 g ((i + m) * 2) (n - j) (cap - (i + m)) ⟨g, j * 2, none⟩ (n - j) (cap - j) C D hR.row (by rw [hDl, show Nat.min (n - j) (n - j) = n - j from Nat.min_self _]) (fun k u hu => by
      have hadd : (⟨g, j * 2, none⟩ : Addr).add k = ⟨g, j * 2 + k, none⟩ := by unfold Addr.add; split <;> simp_all
      have hk : k < D.length := by
        rcases Nat.lt_or_ge k D.length with h' | h'
        · exact h'
        · rw [List.getElem?_eq_none h'] at hu; cases hu
      rw [hadd]
      show w.cell? _ = _
      rw [hR.row.cell]
      rw [HD.out, flat2_drop, List.getElem?_drop, ← hR.get _ (by omega)] at hu
      simpa using hu) (by omega) (by rw [HD.out]; exact flat2_one _)
  obtain ⟨C1, HC1⟩ : ∃ C1, Hid (C1 = splice C.toList ((i + m) * 2) D) := ⟨_, ⟨rfl⟩⟩
  have hC1s : C1.length = cap * 2 := by rw [HC1.out, length_splice _ _ _ (by omega), hCL]
  have hC1a : C1.take (i * 2) = flat2 (l.take i) := by
    have t1 := splice_take0 C.toList ((i + m) * 2) D (by omega)
    have t2 : (C1.take ((i + m) * 2)).take (i * 2) = (C.toList.take ((i + m) * 2)).take (i * 2) := by rw [HC1.out, t1]
    rw [List.take_take, List.take_take, Nat.min_eq_left (by omega)] at t2
    rw [t2, flat2_take, ← hR.take, List.take_take, Nat.min_eq_left (by omega)]
  have hC1b : (C1.drop ((i + m) * 2)).take ((n - j) * 2) = D := by
    have := splice_mid C.toList ((i + m) * 2) D (by omega)
    rw [hDl] at this
    rw [HC1.out]; exact this
  rw [← HC1.out] at hcp
  have HC1s : Hid (C1.length = cap * 2) := ⟨hC1s⟩
  have HC1a : Hid (C1.take (i * 2) = flat2 (l.take i)) := ⟨hC1a⟩
  have HC1b : Hid ((C1.drop ((i + m) * 2)).take ((n - j) * 2) = D) := ⟨hC1b⟩
  have HVl : Hid (V.length = m * 2) := ⟨hVl⟩
  have HDl : Hid (D.length = (n - j) * 2) := ⟨hDl⟩
  have HV : Hid (SpAt w gv cv vs) := ⟨hv⟩
  have HW : Hid (∀ q, Row ((w.drewN q).setRow g C1.toArray) g C1.toArray ∧ w.grownBy ((w.drewN q).setRow g C1.toArray) (some g) ∧ SpAt ((w.drewN q).setRow g C1.toArray) gv cv vs) := ⟨fun q => by
    have hg : w.grownBy ((w.drewN q).setRow g C1.toArray) (some g) := grown_trans (grown_drewN w q _) (grown_setRow _ _ _)
    refine ⟨setRow_row (w := (w.drewN q)) hR.row _, hg, hv.1, hv.2.1, Nat.lt_of_lt_of_le hv.2.2.1 hg.size, fun jj hj => ⟨hg.cell (hv.2.2.2 jj hj).1 (by simpa using hne), hg.cell (hv.2.2.2 jj hj).2 (by simpa using hne)⟩⟩⟩
  clear hR hv hvr hvs hCs hCL hVl hDl hC1s hC1a hC1b
  go_enter Try.func43, Try.ntmps43
  go_wp2
  go_quiet (fail)
  go_wp2
  refine wp_region_any (by kernel_rfl) ?_
  change wpAny _ _ _ _ _ _ _ (World.drew _)
  refine wpAny_take (i := 0) (v := .slice (some ⟨g, 0, none⟩) (i + m + (n - j)) cap) rfl (by kernel_rfl) (by kernel_rfl) (by kernel_rfl) (fun _ _ _ h => h) (Or.inl ⟨by kernel_rfl, fun _ => by kernel_rfl⟩) ?_
  refine wpAny_take (i := 1) (v := .int .i64 (i : Int)) rfl (by kernel_rfl) (by kernel_rfl) (by kernel_rfl) (fun _ _ _ h => h) (Or.inl ⟨by kernel_rfl, fun _ => by kernel_rfl⟩) ?_
  refine wpAny_take (i := 2) (v := .slice (some ⟨gv, 0, none⟩) m cv) rfl (by kernel_rfl) (by kernel_rfl) (by kernel_rfl) (fun _ _ _ h => h) (Or.inl ⟨by kernel_rfl, fun _ => by kernel_rfl⟩) ?_
  refine wpAny_take (i := 3) (v := .int .i64 (m : Int)) rfl (by kernel_rfl) (by kernel_rfl) (by kernel_rfl) (fun _ _ _ h => h) (Or.inl ⟨by kernel_rfl, fun wx => by go_simp⟩) ?_
  refine wpAny_take (i := 4) (v := .int .i64 ((i : Int) + (m : Int))) rfl (by kernel_rfl) (by kernel_rfl) (by kernel_rfl) (fun _ _ _ h => h) (Or.inl ⟨by kernel_rfl, fun wx => by go_simp; rw [IntKind.wrap_i64]; omega⟩) ?_
  refine wpAny_take (i := 5) (v := .slice (some ⟨g, (i + m) * 2, none⟩) (n - j) (cap - (i + m))) rfl (by kernel_rfl) (by kernel_rfl) (by kernel_rfl) (fun _ _ _ h => h) (Or.inl ⟨by kernel_rfl, fun wx => by go_simp; rw [if_pos ⟨by omega, by omega⟩, show ((i : Int) + (m : Int)).toNat = i + m by omega, if_neg (by omega), show i + m + (n - j) - (i + m) = n - j by omega]⟩) ?_
  refine wpAny_take (i := 6) (v := .slice (some ⟨g, 0, none⟩) n cap) rfl (by kernel_rfl) (by kernel_rfl) (by kernel_rfl) (fun _ _ _ h => h) (Or.inl ⟨by kernel_rfl, fun _ => by kernel_rfl⟩) ?_
  refine wpAny_take (i := 7) (v := .int .i64 (j : Int)) rfl (by kernel_rfl) (by kernel_rfl) (by kernel_rfl) (fun _ _ _ h => h) (Or.inl ⟨by kernel_rfl, fun _ => by kernel_rfl⟩) ?_
  refine wpAny_take (i := 8) (v := .slice (some ⟨g, j * 2, none⟩) (n - j) (cap - j)) rfl (by kernel_rfl) (by kernel_rfl) (by kernel_rfl) (fun _ _ _ h => h) (Or.inl ⟨by kernel_rfl, fun wx => by go_simp; rw [if_pos (by omega), if_neg (by omega)]⟩) ?_
  refine wpAny_ready (rs := [9]) (by kernel_rfl) (by simp) (AllReady.cons rfl (fun Kc hK => ?_) AllReady.nil)
  go_simp
  refine hK _ _ ?_
  refine wpAny_done (by kernel_rfl) ?_ _
  obtain ⟨hr1, hG1, hV1⟩ := HW.out (nq + 1)
  generalize (w.drewN (nq + 1)).setRow g C1.toArray = wa at hr1 hG1 hV1 ⊢
  clear hcp hov HW
  have hVl := HVl.out
  have hC1s := HC1s.out
  have hDl := HDl.out
  have hcp2 : (Builtin.copy_ #[58, 58] 3 #[.slice (some ⟨g, i * 2, none⟩) (i + m + (n - j) - i) (cap - i), .slice (some ⟨gv, 0, none⟩) m cv]).run Try.prog wa = .ok (goInt (Nat.min m (i + m + (n - j) - i))) (wa.setRow g (splice C1 (i * 2) V).toArray) :=
    run_copy2 _ _ _ _ _ _ _ _ _ C1.toArray V hr1 (by rw [hVl, show Nat.min m (i + m + (n - j) - i) = m from Nat.min_eq_left (by omega)]) (fun j u hu => by rw [HVf.out] at hu; exact hV1.src j u hu) (by rw [List.size_toArray]; omega) (by rw [HVf.out]; exact flat2_one vs)
  have hr2 : Row (wa.setRow g (splice C1 (i * 2) V).toArray) g (splice C1 (i * 2) V).toArray := setRow_row hr1 _
  have hG2 : w.grownBy (wa.setRow g (splice C1 (i * 2) V).toArray) (some g) := grown_trans hG1 (grown_setRow _ _ _)
  have hF : RowOf (wa.setRow g (splice C1 (i * 2) V).toArray) g (i + m + (n - j)) cap (splice C1 (i * 2) V).toArray L' := by
    refine ⟨hr2, ?_, ?_, ?_, by omega, HR.out.big, by omega⟩
    · rw [List.size_toArray, length_splice _ _ _ (by omega)]; omega
    · show (splice C1 (i * 2) V).take _ = _
      have t1 := splice_take C1 (i * 2) V (by omega)
      rw [show i * 2 + V.length = (i + m) * 2 by omega] at t1
      have t2 := splice_drop C1 (i * 2) V (by omega)
      rw [show i * 2 + V.length = (i + m) * 2 by omega] at t2
      rw [show (i + m + (n - j)) * 2 = (i + m) * 2 + (n - j) * 2 by omega, List.take_add, t1, t2, HC1b.out, HC1a.out, HL'.out, HD.out, HVf.out, ← flat2_append, ← flat2_append]
    · have := HR.out.len
      rw [HL'.out]; simp; omega
  have HF : Hid (RowOf (wa.setRow g (splice C1 (i * 2) V).toArray) g (i + m + (n - j)) cap (splice C1 (i * 2) V).toArray L') := ⟨hF⟩
  have HG2 : Hid (w.grownBy (wa.setRow g (splice C1 (i * 2) V).toArray) (some g)) := ⟨hG2⟩
  clear hF hG2 hr2 hVl hC1s hDl hr1 hG1 hV1
  go_wp2
  go_ret
  exact ⟨rfl, ⟨_, HF.out⟩, HG2.out⟩
end Go.Proofs.Ytcmibcmndiplbab
