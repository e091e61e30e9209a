/- slices.Replace over rows of spans. -/
import Derived.Test.YtcmibcmndiplbabY1
import Derived.BigRegion
namespace Go.Proofs.Ytcmibcmndiplbab
open Go.RowKit Go.Lib Go.Shelf

theorem row_drewN {w : World} {g : Nat} {C : Array Value} (h : Row w g C) (q : Nat) : Row (w.drewN q) g C := h
theorem grown_drewN (w : World) (q : Nat) (g : Option Nat) : w.grownBy (w.drewN q) g := ⟨rfl, rfl, rfl, Nat.le_refl _, fun _ _ _ => rfl⟩
theorem grown_refl (w : World) (g : Option Nat) : w.grownBy w g := ⟨rfl, rfl, rfl, Nat.le_refl _, fun _ _ _ => rfl⟩

/-- The spans of v, as cells that are read. -/
theorem SpAt.src {w : World} {b cap : Nat} {l : List (Int × Int)} (h : SpAt w b cap l) : ∀ j u, (flat2 l)[j]? = some u → w.cell? ((⟨b, 0, none⟩ : Addr).add j) = some u := by
  intro j u hu
  have hj : j < l.length * 2 := by
    rw [← flat2_length]
    rcases Nat.lt_or_ge j (flat2 l).length with h' | h'
    · exact h'
    · rw [List.getElem?_eq_none h'] at hu; cases hu
  have hadd : (⟨b, 0, none⟩ : Addr).add j = ⟨b, j, none⟩ := by unfold Addr.add; split <;> simp_all
  rw [hadd]
  have h2 := h.2.2.2 (j / 2) (by omega)
  have h3 := flat2_get l (j / 2) (by omega)
  rcases Nat.mod_two_eq_zero_or_one j with hm | hm
  · have e : j / 2 * 2 = j := by omega
    rw [e] at h2 h3
    rw [h2.1, ← h3.1]; exact hu
  · have e : j / 2 * 2 + 1 = j := by omega
    rw [e] at h2 h3
    rw [h2.2, ← h3.2]; exact hu

/-- The row of the slice (g, 0), n, cap holds the spans l. -/
structure RowOf (w : World) (g n cap : Nat) (C : Array Value) (l : List (Int × Int)) : Prop where
  row : Row w g C
  size : C.size = cap * 2
  take : C.toList.take (n * 2) = flat2 l
  len : l.length = n
  room : n ≤ cap
  big : cap ≤ maxLen
  n5 : n ≤ 100000

theorem RowOf.get {w : World} {g n cap : Nat} {C : Array Value} {l : List (Int × Int)} (h : RowOf w g n cap C l) (p : Nat) (hp : p < n * 2) : C.toList[p]? = (flat2 l)[p]? := by
  rw [← h.take, List.getElem?_take, if_pos hp]

/-- What a Replace leaves: the slice (g, 0), n, cap, which holds l. -/
def Replaced (w : World) (g n cap : Nat) (l : List (Int × Int)) (e : Ending) (w' : World) : Prop :=
  e = .returned (.slice (some ⟨g, 0, none⟩) n cap) ∧ (∃ C', RowOf w' g n cap C' l) ∧ w.grownBy w' (some g)

set_option maxHeartbeats 2000000 in
set_option maxRecDepth 100000 in
/-- Within the room, and not more than was there. -/
theorem replace_d (g n cap gv cv i j : Nat) (C : Array Value) (l vs : List (Int × Int)) (w : World) (hR : RowOf w g n cap C l) (hv : SpAt w gv cv vs) (hij : i < j) (hjn : j < n) (hm : i + vs.length ≤ j) :
    Calls Try.prog 43 #[.slice (some ⟨g, 0, none⟩) n cap, .int .i64 i, .int .i64 j, .slice (some ⟨gv, 0, none⟩) vs.length cv] w (Replaced w g (i + vs.length + (n - j)) cap (l.take i ++ vs ++ l.drop j)) := by
  have hbig := hR.big
  unfold maxLen at hbig
  have hn := hR.room
  have hn5 := hR.n5
  have hCs := hR.size
  have hCL : C.toList.length = cap * 2 := by rw [← hCs]; simp
  have HR : Hid (RowOf w g n cap C l) := ⟨hR⟩
  obtain ⟨V, HVf⟩ : ∃ V, Hid (V = flat2 vs) := ⟨_, ⟨rfl⟩⟩
  have hVl : V.length = vs.length * 2 := by rw [HVf.out, flat2_length]
  obtain ⟨D, HD⟩ : ∃ D, Hid (D = flat2 (l.drop j)) := ⟨_, ⟨rfl⟩⟩
  have hDl : D.length = (n - j) * 2 := by rw [HD.out, flat2_length, List.length_drop, hR.len]
  have hV1 : ∀ v ∈ V, v.oneCell' = true := by rw [HVf.out]; exact flat2_one vs
  have hD1 : ∀ v ∈ D, v.oneCell' = true := by rw [HD.out]; exact flat2_one _
  obtain ⟨L', HL'⟩ : ∃ L', Hid (L' = l.take i ++ vs ++ l.drop j) := ⟨_, ⟨rfl⟩⟩
  rw [← HL'.out]
  obtain ⟨m, hml⟩ : ∃ m, vs.length = m := ⟨_, rfl⟩
  rw [hml] at hm hVl ⊢
  have hc1 : ∀ q, (Builtin.copy_ #[58, 58] 3 #[.slice (some ⟨g, i * 2, none⟩) (i + m + (n - j) - i) (cap - i), .slice (some ⟨gv, 0, none⟩) m cv]).run Try.prog (w.drewN q) = .ok (goInt (Nat.min m (i + m + (n - j) - i))) ((w.drewN q).setRow g (splice C.toList (i * 2) V).toArray) := fun q =>
    run_copy2 _ _ _ _ _ _ _ _ _ C V (row_drewN hR.row q) (by rw [hVl, show Nat.min m (i + m + (n - j) - i) = m from Nat.min_eq_left (by omega)]) (fun j u hu => by rw [HVf.out] at hu; exact hv.src j u hu) (by omega) hV1
  have hW1 : ∀ q, Row ((w.drewN q).setRow g (splice C.toList (i * 2) V).toArray) g (splice C.toList (i * 2) V).toArray ∧ w.grownBy ((w.drewN q).setRow g (splice C.toList (i * 2) V).toArray) (some g) := fun q =>
    ⟨setRow_row (row_drewN hR.row q) _, grown_trans (grown_drewN w q _) (grown_setRow _ _ _)⟩
  have HW1 : Hid (∀ q, Row ((w.drewN q).setRow g (splice C.toList (i * 2) V).toArray) g (splice C.toList (i * 2) V).toArray ∧ w.grownBy ((w.drewN q).setRow g (splice C.toList (i * 2) V).toArray) (some g)) := ⟨hW1⟩
  obtain ⟨C1, HC1⟩ : ∃ C1, Hid (C1 = splice C.toList (i * 2) V) := ⟨_, ⟨rfl⟩⟩
  have hC1s : C1.length = cap * 2 := by rw [HC1.out, length_splice _ _ _ (by omega), hCL]
  have hsrc : ∀ k u, D[k]? = some u → C1[j * 2 + k]? = some u := by
    intro k u hu
    have hk : k < D.length := by
      rcases Nat.lt_or_ge k D.length with h' | h'
      · exact h'
      · rw [List.getElem?_eq_none h'] at hu; cases hu
    rw [HC1.out, splice_ge _ _ _ _ (by omega) (by omega), HR.out.get _ (by omega)]
    rw [HD.out, flat2_drop, List.getElem?_drop] at hu
    exact hu
  have HSR : Hid (∀ k u, D[k]? = some u → C1[j * 2 + k]? = some u) := ⟨hsrc⟩
  have HD1 : Hid (∀ v ∈ D, v.oneCell' = true) := ⟨hD1⟩
  rw [← HC1.out] at hc1 HW1
  have HDl : Hid (D.length = (n - j) * 2) := ⟨hDl⟩
  have HC1s : Hid (C1.length = cap * 2) := ⟨hC1s⟩
  have HVl : Hid (V.length = m * 2) := ⟨hVl⟩
  have HCL : Hid (C.toList.length = cap * 2) := ⟨hCL⟩
  clear hv hR hW1 hsrc hD1 hV1 hDl hC1s hVl hCL hCs
  have h1 : (i : Int) < (j : Int) := by omega
  have h2 : (j : Int) < (n : Int) := by omega
  have h3 : ((i : Int) == (j : Int)) = false := by simp; omega
  have h4 : ((j : Int) == (n : Int)) = false := by simp; omega
  have h5 : (i : Int) + (m : Int) ≤ (j : Int) := by omega
  have h6 : (i : Int) < (n : Int) := by omega
  have h7 : (n : Int) ≤ (cap : Int) := by omega
  have h8 : i ≠ cap := by omega
  have h9 : j ≠ cap := by omega
  have h10 : i + m ≠ cap := by omega
  have w1 : wrap64 ((i : Int) + (m : Int)) = (i : Int) + m := IntWalk.wrap64_in _ ⟨by omega, by omega⟩
  go_enter Try.func43, Try.ntmps43
  go_wp2
  go_quiet (fail)
  go_wp2
  obtain ⟨hr1, hg1⟩ := HW1.out nq
  generalize (w.drewN nq).setRow g C1.toArray = wa at hr1 hg1 ⊢
  clear HW1 hc1
  have hDl := HDl.out
  have hC1s := HC1s.out
  have hc2 : (Builtin.copy_ #[58, 58] 3 #[.slice (some ⟨g, (i + m) * 2, none⟩) (n - j) (cap - (i + m)), .slice (some ⟨g, j * 2, none⟩) (n - j) (cap - j)]).run Try.prog wa.drew = .ok (goInt (Nat.min (n - j) (n - j))) (wa.drew.setRow g (splice C1 ((i + m) * 2) D).toArray) := by
    have := run_copy2 wa.drew 3 g ((i + m) * 2) (n - j) (cap - (i + m)) ⟨g, j * 2, none⟩ (n - j) (cap - j) C1.toArray D hr1 (by rw [hDl, show Nat.min (n - j) (n - j) = n - j from Nat.min_self _]) (fun k u hu => by
      have hadd : (⟨g, j * 2, none⟩ : Addr).add k = ⟨g, j * 2 + k, none⟩ := by unfold Addr.add; split <;> simp_all
      rw [hadd]
      show wa.cell? _ = _
      rw [hr1.cell]
      simpa using HSR.out k u hu) (by rw [List.size_toArray]; omega) HD1.out
    exact this
  clear hDl hC1s
  refine wp_region_any (by kernel_rfl) ?_
  change wpAny _ _ _ _ _ _ _ (World.drew _)
  refine wpAny_take (i := 0) (v := .slice (some ⟨g, 0, none⟩) (i + m + (n - j)) (cap)) rfl (by kernel_rfl) (by kernel_rfl) (by kernel_rfl) (fun _ _ _ h => h) (Or.inl ⟨by kernel_rfl, fun _ => by kernel_rfl⟩) ?_
  refine wpAny_take (i := 1) (v := .int .i64 (i : Int)) rfl (by kernel_rfl) (by kernel_rfl) (by kernel_rfl) (fun _ _ _ h => h) (Or.inl ⟨by kernel_rfl, fun _ => by kernel_rfl⟩) ?_
  refine wpAny_take (i := 2) (v := .slice (some ⟨gv, 0, none⟩) m cv) rfl (by kernel_rfl) (by kernel_rfl) (by kernel_rfl) (fun _ _ _ h => h) (Or.inl ⟨by kernel_rfl, fun _ => by kernel_rfl⟩) ?_
  refine wpAny_take (i := 3) (v := .int .i64 (m : Int)) rfl (by kernel_rfl) (by kernel_rfl) (by kernel_rfl) (fun _ _ _ h => h) (Or.inl ⟨by kernel_rfl, fun wx => by go_simp⟩) ?_
  refine wpAny_take (i := 4) (v := .int .i64 ((i : Int) + (m : Int))) rfl (by kernel_rfl) (by kernel_rfl) (by kernel_rfl) (fun _ _ _ h => h) (Or.inl ⟨by kernel_rfl, fun wx => by go_simp; rw [IntKind.wrap_i64]; omega⟩) ?_
  refine wpAny_take (i := 5) (v := .slice (some ⟨g, (i + m) * 2, none⟩) (n - j) (cap - (i + m))) rfl (by kernel_rfl) (by kernel_rfl) (by kernel_rfl) (fun _ _ _ h => h) (Or.inl ⟨by kernel_rfl, fun wx => by go_simp; rw [if_pos ⟨by omega, by omega⟩, show ((i : Int) + (m : Int)).toNat = i + m by omega, if_neg (by omega), show i + m + (n - j) - (i + m) = n - j by omega]⟩) ?_
  refine wpAny_take (i := 6) (v := .slice (some ⟨g, 0, none⟩) (n) (cap)) rfl (by kernel_rfl) (by kernel_rfl) (by kernel_rfl) (fun _ _ _ h => h) (Or.inl ⟨by kernel_rfl, fun _ => by kernel_rfl⟩) ?_
  refine wpAny_take (i := 7) (v := .int .i64 (j : Int)) rfl (by kernel_rfl) (by kernel_rfl) (by kernel_rfl) (fun _ _ _ h => h) (Or.inl ⟨by kernel_rfl, fun _ => by kernel_rfl⟩) ?_
  refine wpAny_take (i := 8) (v := .slice (some ⟨g, j * 2, none⟩) (n - j) (cap - j)) rfl (by kernel_rfl) (by kernel_rfl) (by kernel_rfl) (fun _ _ _ h => h) (Or.inl ⟨by kernel_rfl, fun wx => by go_simp; rw [if_pos (by omega), if_neg (by omega)]⟩) ?_
  refine wpAny_ready (rs := [9]) (by kernel_rfl) (by simp) (AllReady.cons rfl (fun Kc hK => ?_) AllReady.nil)
  go_simp
  refine hK _ _ ?_
  refine wpAny_done (by kernel_rfl) ?_ _
  have hr2 : Row (wa.drew.setRow g (splice C1 ((i + m) * 2) D).toArray) g (splice C1 ((i + m) * 2) D).toArray := setRow_row (w := wa.drew) hr1 _
  have hg2 : w.grownBy (wa.drew.setRow g (splice C1 ((i + m) * 2) D).toArray) (some g) := grown_trans (grown_drew hg1) (grown_setRow _ _ _)
  generalize wa.drew.setRow g (splice C1 ((i + m) * 2) D).toArray = wb at hr2 hg2 ⊢
  clear hc2 hr1 hg1
  have hC2s : (splice C1 ((i + m) * 2) D).length = cap * 2 := by
    have := HDl.out
    have := HC1s.out
    rw [length_splice _ _ _ (by omega)]; omega
  have hC2t : (splice C1 ((i + m) * 2) D).take ((i + m + (n - j)) * 2) = flat2 (l.take i ++ vs ++ l.drop j) := by
    have e1 := HDl.out
    have e2 := HC1s.out
    have e3 := HVl.out
    have e4 := HCL.out
    have t2 := splice_take C1 ((i + m) * 2) D (by omega)
    rw [show (i + m) * 2 + D.length = (i + m + (n - j)) * 2 by omega] at t2
    have t1 := splice_take C.toList (i * 2) V (by omega)
    rw [show i * 2 + V.length = (i + m) * 2 by omega, ← HC1.out] at t1
    rw [t2, t1, flat2_append, flat2_append, flat2_take, HD.out, HVf.out, ← HR.out.take, List.take_take, Nat.min_eq_left (by omega)]
  have hLl : (l.take i ++ vs ++ l.drop j).length = i + m + (n - j) := by
    have := HR.out.len
    simp; omega
  have HC2s : Hid ((splice C1 ((i + m) * 2) D).length = cap * 2) := ⟨hC2s⟩
  have HC2t : Hid ((splice C1 ((i + m) * 2) D).take ((i + m + (n - j)) * 2) = flat2 (l.take i ++ vs ++ l.drop j)) := ⟨hC2t⟩
  have HLl : Hid ((l.take i ++ vs ++ l.drop j).length = i + m + (n - j)) := ⟨hLl⟩
  generalize splice C1 ((i + m) * 2) D = C2 at hr2 HC2s HC2t
  rw [← HL'.out] at HC2t HLl
  clear hC2s hC2t hLl
  by_cases hT : i + m + (n - j) = n
  · have hz : n - (i + m + (n - j)) = 0 := by omega
    have hcl : ∀ d c, (Builtin.clear_ #[58] 0 #[.slice d 0 c]).run Try.prog wb = .ok (.tuple #[]) wb := fun d c => run_clear0 wb 0 d c
    have HF : Hid (RowOf wb g (i + m + (n - j)) cap C2.toArray L') := ⟨⟨hr2, by rw [List.size_toArray]; exact HC2s.out, HC2t.out, HLl.out, by omega, HR.out.big, by omega⟩⟩
    have HG : Hid (w.grownBy wb (some g)) := ⟨hg2⟩
    clear hr2 hg2 hT
    by_cases hcT : cap = i + m + (n - j)
    · have HcT : Hid (cap = i + m + (n - j)) := ⟨hcT⟩
      clear hcT
      go_wp2
      · go_ret
        exact ⟨rfl, ⟨_, by have h := HF.out; rw [HcT.out] at h; exact h⟩, HG.out⟩
      · exact absurd HcT.out (by assumption)
    · go_wp2
      go_ret
      exact ⟨rfl, ⟨_, HF.out⟩, HG.out⟩
  · have hT1 : i + m + (n - j) < n := by omega
    have hT2 : cap ≠ i + m + (n - j) := by omega
    have hcl := run_clearR wb 0 g ((i + m + (n - j)) * 2) (n - (i + m + (n - j))) (cap - (i + m + (n - j))) C2.toArray hr2 (by omega) (by rw [List.size_toArray]; have := HC2s.out; omega)
    have hcs : (splice C2 ((i + m + (n - j)) * 2) (List.replicate ((n - (i + m + (n - j))) * 2) (Value.int .i64 0))).length = cap * 2 := by
      have := HC2s.out
      rw [length_splice _ _ _ (by rw [List.length_replicate]; omega)]; omega
    have HF : Hid (RowOf (wb.setRow g (splice C2 ((i + m + (n - j)) * 2) (List.replicate ((n - (i + m + (n - j))) * 2) (Value.int .i64 0))).toArray) g (i + m + (n - j)) cap (splice C2 ((i + m + (n - j)) * 2) (List.replicate ((n - (i + m + (n - j))) * 2) (Value.int .i64 0))).toArray L') := ⟨⟨setRow_row hr2 _, by rw [List.size_toArray]; exact hcs, by
      rw [show (splice C2 ((i + m + (n - j)) * 2) (List.replicate ((n - (i + m + (n - j))) * 2) (Value.int .i64 0))).toArray.toList = splice C2 ((i + m + (n - j)) * 2) (List.replicate ((n - (i + m + (n - j))) * 2) (Value.int .i64 0)) from rfl, splice_take0 _ _ _ (by have := HC2s.out; omega)]
      exact HC2t.out, HLl.out, by omega, HR.out.big, by omega⟩⟩
    have HG : Hid (w.grownBy (wb.setRow g (splice C2 ((i + m + (n - j)) * 2) (List.replicate ((n - (i + m + (n - j))) * 2) (Value.int .i64 0))).toArray) (some g)) := ⟨grown_trans hg2 (grown_setRow _ _ _)⟩
    clear hr2 hg2 hcs
    go_wp2
    go_ret
    exact ⟨rfl, ⟨_, HF.out⟩, HG.out⟩
end Go.Proofs.Ytcmibcmndiplbab
