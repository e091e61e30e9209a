/- Texts joined into one: Y4, W3, W4. -/
import Derived.Test.YthohpbppfihoiaaGy
import Derived.Test.YthohpbppfihoiaaGw
import Derived.Test.YthohpbppfihoiaaGp
/- The document's Take; what is taken has whole sums. -/
namespace Go.Proofs.Ythohpbppfihoiaa
open Go.RowKit Go.Lib

section
variable {w : World}
theorem rtake13 (v : Value) (bs : List Int) (hv : Oct.Bs w v bs) (hby : ∀ x ∈ bs, 0 ≤ x ∧ x < 256) (hl : bs.length ≤ 140737488355328) :
    Calls Try.prog 13 #[v] w fun e w' => TakeP w w' (tkN bs).1 (tkN bs).2 e := by
  obtain ⟨⟨s, a, c⟩, hs⟩ : ∃ r, Oct.tkNum bs 0 = r := ⟨_, rfl⟩
  by_cases hc : c = 0
  · subst hc
    cases h : isS s with
    | false => exact rtake_0 v bs hv hby hl s a hs h
    | true =>
      rcases say7 h with rfl | rfl | rfl | rfl | rfl | rfl | rfl
      · exact rtake_1 v bs hv hby hl a hs
      · exact rtake_2 v bs hv hby hl a hs
      · exact rtake_3 v bs hv hby hl a hs
      · exact rtake_4 v bs hv hby hl a hs
      · exact rtake_5 v bs hv hby hl a hs
      · exact rtake_6 v bs hv hby hl a hs
      · exact rtake_7 v bs hv hby hl a hs
  · exact rtake_e v bs hv hby hl c s a hs hc
end
theorem rep_all {α : Type} {bs : List Int} {Q : α → Prop} (f : St → α × St) (hf : ∀ st, InS bs st → InS bs (f st).2 ∧ Q (f st).1) : ∀ (k : Nat) (st : St), InS bs st → ∀ x ∈ (rep f k st).1, Q x
  | 0, _, _, x, hx => by cases hx
  | k + 1, st, h, x, hx => by
    by_cases h0 : st.2 = 0
    · rw [rep_ok f k st h0] at hx
      rcases List.mem_cons.1 hx with rfl | hx
      · exact (hf st h).2
      · exact rep_all f hf k _ (hf st h).1 x hx
    · rw [rep_stop f _ st h0] at hx
      cases hx
theorem sS_sum {bs : List Int} {st : St} (hb : ∀ x ∈ bs, 0 ≤ x ∧ x < 256) (h : InS bs st) : Sum32 (sS bs st).1 := by
  refine ⟨sS_len bs st h, fun x hx => ?_⟩
  unfold sS at hx
  split at hx
  · have := List.eq_of_mem_replicate hx; omega
  · exact hb x (List.mem_of_mem_drop (List.mem_of_mem_take hx))
theorem pL_sum {bs : List Int} {st : St} (hb : ∀ x ∈ bs, 0 ≤ x ∧ x < 256) (h : InS bs st) : ∀ p ∈ (lS bs 256 (pS bs) st).1, Sum32 p.1 := by
  unfold lS
  refine rep_all (Q := fun p : Pt => Sum32 p.1) (pS bs) (fun st h => ⟨pS_in hb h, sS_sum hb h⟩) _ _ ?_
  split
  · exact flS_in (nS_in hb h) 6
  · exact nS_in hb h
theorem noteK_sum {bs : List Int} {m : Nm} {s : Int} {s1 : St} (hb : ∀ x ∈ bs, 0 ≤ x ∧ x < 256) (h : InS bs s1) : ∀ p ∈ (noteK m bs s s1).1.P, Sum32 p.1 := by
  obtain ⟨m1, m2, m3, m4, m5⟩ := m
  have c1 : ∀ (x : Bool) (st : St), InS bs st → InS bs (cond x (nS bs st) (0, st)).2 := fun x st h => by cases x <;> first | exact h | exact nS_in hb h
  have c2 : ∀ (x : Bool) (k : Int) (st : St), InS bs st → InS bs (cond x (xS bs k st) ([], st)).2 := fun x k st h => by cases x <;> first | exact h | exact xS_in hb k h
  have c3 : ∀ (x : Bool) (st : St), InS bs st → InS bs (cond x (lS bs 64 (hS bs) st) ([], st)).2 := fun x st h => by cases x <;> first | exact h | exact lS_in hb _ _ (fun st h => hS_in hb h) h
  have c4 : ∀ (x : Bool) (st : St), InS bs st → ∀ p ∈ (cond x (lS bs 256 (pS bs) st) ([], st)).1, Sum32 p.1 := fun x st h => by
    cases x
    · exact fun p hp => by cases hp
    · exact pL_sum hb h
  exact c4 _ _ (c3 _ _ (c1 _ _ (c1 _ _ (c2 _ _ _ h))))
theorem tkN_sum {bs : List Int} (hb : ∀ x ∈ bs, 0 ≤ x ∧ x < 256) : ∀ p ∈ (tkN bs).1.P, Sum32 p.1 := by
  have h0 : InS bs (0, 0) := ⟨Int.le_refl 0, by simp⟩
  have hn : ∀ p ∈ (noteS bs (0, 0)).1.P, Sum32 p.1 := by
    unfold noteS
    split
    · exact noteK_sum hb (nS_in hb h0)
    · exact noteK_sum hb (flS_in (nS_in hb h0) 4)
  have ht : (tkN bs).1 = (noteS bs (0, 0)).1 ∨ (tkN bs).1 = zN := by
    unfold tkN
    simp only
    repeat' split
    all_goals first | exact .inl rfl | exact .inr rfl
  rcases ht with e | e
  · rw [e]; exact hn
  · rw [e]; exact fun p hp => by cases hp
end Go.Proofs.Ythohpbppfihoiaa

/- WireTakes: both Takes answer the same, and what is taken keeps no bytes of those that came in. -/
namespace Go.Proofs.Ythohpbppfihoiaa
open Go.RowKit Go.Lib

section
variable {w : World}
set_option maxHeartbeats 16000000 in
set_option maxRecDepth 100000 in
theorem walk_wireTakes (v : Value) (bs : List Int) (W : World) (hb : Oct.Bs W v bs) (by0 : ∀ x ∈ bs, 0 ≤ x ∧ x < 256) (l0 : bs.length ≤ 140737488351232) : Calls Try.prog 5 #[v] W fun e w' => e = .returned (.bool true) ∧ Below W.heap.size W w' := by
  have HV := Hid.mk hb
  obtain ⟨va, vc, rfl, _⟩ := hb
  obtain ⟨nb, Hnb⟩ : ∃ n, Hid (bs.length = n) := ⟨_, ⟨rfl⟩⟩
  have Hby := Hid.mk by0
  have Hl : Hid (bs.length ≤ 140737488355328) := ⟨by omega⟩
  have Hsum := Hid.mk (tkN_sum by0)
  have ha : Below W.heap.size W (W.alloc (.cells #[] 5)) := (Below.refl _ W).alloc (Nat.le_refl _) _
  have HU1 : Hid (Oct.Bs (W.alloc (.cells #[] 5)) (.slice va bs.length vc) bs) := ⟨HV.out.below ha⟩
  have HA := Hid.mk ha
  rw [Hnb.out] at HV HU1
  rw [Hnb.out]
  have t12 := fun (w : World) (u : Value) (h : Oct.Bs w u bs) => take12 (w := w) u bs h Hby.out Hl.out
  have t13 := fun (w : World) (u : Value) (h : Oct.Bs w u bs) => rtake13 (w := w) u bs h Hby.out Hl.out
  obtain ⟨⟨n, c⟩, HR⟩ : ∃ r, Hid (tkN bs = r) := ⟨_, ⟨rfl⟩⟩
  rw [HR.out] at t12 t13 Hsum
  simp only at t12 t13 Hsum
  clear by0 ha
  go_enter Try.func5, Try.ntmps5
  go_upto_region 2 with (at_builtin; refine Oct.wp_appS Oct.Try.bt rfl (.tmp 9) (.tmp 10) rfl rfl (owny_none W) rfl HU1.out (by have := Hl.out; simpa using this) HA.out.size ?_; intro v2 w2 hO hB; have HO2 : Hid (OwnY w2 W.heap.size v2 bs) := ⟨hO⟩; have HB2 : Hid (Below W.heap.size W w2) := ⟨HA.out.trans hB⟩; clear hO hB)
  obtain ⟨a2, c2, e2, h2l, h2m, _⟩ := OwnY.shape HO2.out
  subst e2
  rw [Hnb.out] at HO2 h2l
  rw [Hnb.out]
  go_wp2_with fail
  refine (t12 w2 _ (Oct.OwnB.bs HO2.out)).mono ?_
  rintro e w3 ⟨ha, hc, pa, pc, ba, bc, rfl, hH, hP, hY, hB3⟩
  have HH3 := Hid.mk hH
  have HP3 := Hid.mk hP
  have HY3 := Hid.mk hY
  have HB3 := Hid.mk hB3
  clear hH hP hY hB3 t12
  obtain ⟨N, HN⟩ : ∃ x, Hid (na n.s n.nm n.g n.i (.slice ha n.H.length hc) (.slice pa n.P.length pc) (.slice ba n.bs.length bc) = x) := ⟨_, ⟨rfl⟩⟩
  have HNs : Hid ((Try.prog.info? 27).map (·.size) = some N.size ∧ N.all (·.oneCell') = true ∧ zn.size = N.size) := ⟨by rw [← HN.out]; exact ⟨info27, na_one _ _ _ _ _ _ _ _ _ _ _ _ _, rfl⟩⟩
  obtain ⟨r4, Hr4⟩ : ∃ x, Hid (w3.heap.size = x) := ⟨_, ⟨rfl⟩⟩
  obtain ⟨w4, Hw4⟩ : ∃ x, Hid ((w3.alloc (.cells zn 27)).setRow r4 N = x) := ⟨_, ⟨rfl⟩⟩
  have HB4 : Hid (Below w3.heap.size w3 w4) := ⟨by rw [← Hw4.out, ← Hr4.out]; exact below_setRow ((Below.refl _ w3).alloc (Nat.le_refl _) _) (Nat.le_refl _) _⟩
  have Hz4 : Hid (w4.heap[r4]? = some (.cells N 27 (0, 0))) := ⟨by rw [← Hw4.out, ← Hr4.out]; exact setRow_heap _ _ zn _ 27 (0, 0) (heap_alloc_new w3 _)⟩
  have HB24 : Hid (Below w2.heap.size w2 w4) := ⟨HB3.out.trans (HB4.out.mono HB3.out.size)⟩
  have HO4 : Hid (OwnY w4 W.heap.size (.slice a2 nb c2) bs) := ⟨by have := Oct.OwnB.below HO2.out HB24.out; exact this⟩
  have Hlt2 : Hid (∀ g ∈ ob (Value.slice a2 nb c2), W.heap.size ≤ g ∧ g < w2.heap.size) := ⟨fun g hg => by rw [← Hnb.out] at hg HO2; exact (World.ownsRow.lt HO2.out g (mem_ob.1 hg))⟩
  rw [HN.out]
  go_upto_region 3 with (first
    | (refine wp_newZ zero27 rfl rfl ?_; rw [Hr4.out])
    | (refine wpList_store_row rfl 27 (.tmp 4) (.tmp 15) rfl r4 N rfl rfl 27 zn (by rw [← Hr4.out]; exact heap_alloc_new w3 _) HNs.out.1 HNs.out.2.2 HNs.out.2.1 ?_; rw [Hw4.out]))
  go_wp2_with fail
  go_loopg [6] nb (fun gg s6 wr => ∃ (i : Nat) (ys : List Int), i ≤ nb ∧ nb - i ≤ gg ∧ s6 = .int .i64 (i : Int) ∧ ys.length = nb ∧ Hid (OwnY wr W.heap.size (.slice a2 nb c2) ys) ∧ Hid (Chg (ob (.slice a2 nb c2)) w4 wr))
  case atStart => exact ⟨0, bs, Nat.zero_le _, by omega, rfl, Hnb.out, HO4, ⟨Chg.refl _ _⟩⟩
  case round =>
    obtain ⟨i, ys, hi, hgg, rfl, hys, HO, HC⟩ := hrel
    rename World => wo
    have hn63 : nb ≤ 140737488351232 := by rw [← Hnb.out]; exact l0
    by_cases hlt : i < nb
    · have hltz : (i : Int) < (nb : Int) := by omega
      obtain ⟨g, off, cap, e, hcc, hat⟩ := HO.out.rd.at (i := i) (by rw [hys]; exact hlt)
      have hg0 : off = 0 := by
        rcases HO.out.2 with ⟨e', _⟩ | ⟨g', cap', cur', e', _⟩
        · rw [e'] at e; cases e
        · rw [e'] at e; simp only [Value.slice.injEq, Option.some.injEq, Addr.mk.injEq] at e; exact e.1.2.1.symm
      subst hg0
      rw [hys] at e
      simp only [Value.slice.injEq] at e
      obtain ⟨rfl, -, rfl⟩ := e
      have hv := hat i (by rw [hys]; exact hlt)
      rw [Nat.zero_add] at hv
      have hf : wo.frozen? ⟨g, i, none⟩ = false := by rw [← hys] at HO; exact Oct.OwnB.frozenAt HO.out i
      obtain ⟨y, Hy⟩ : ∃ y, Hid (ys.getD i 0 = y) := ⟨_, ⟨rfl⟩⟩
      rw [Hy.out] at hv
      have HgW : Hid (W.heap.size ≤ g) := ⟨(Hlt2.out g (mem_ob.2 rfl)).1⟩
      obtain ⟨y2, Hy2⟩ : ∃ y2, Hid (bits BinOp.xor IntKind.u8 y 1 = y2) := ⟨_, ⟨rfl⟩⟩
      have HO5 : Hid (OwnY (wo.setCell ⟨g, i, none⟩ (.int .u8 y2)) W.heap.size (.slice (some ⟨g, 0, none⟩) nb c2) (ys.set i y2)) := ⟨(Oct.OwnB.stored HO.out HgW.out i y2).1⟩
      have HC5 : Hid (Chg (ob (.slice (some ⟨g, 0, none⟩) nb c2)) w4 (wo.setCell ⟨g, i, none⟩ (.int .u8 y2))) := ⟨Chg.setCell HC.out (a := ⟨g, i, none⟩) (.inl (mem_ob.2 rfl)) _⟩
      clear hat
      go_wp2_with fail
      rw [Hy2.out]
      go_roundg (nb - (i + 1))
      case measure => omega
      case rel => exact ⟨i + 1, ys.set i y2, hlt, Nat.le_refl _, by go_num, by rw [List.length_set]; exact hys, HO5, HC5⟩
    · obtain rfl : nb = i := by omega
      have hltz : ¬ (nb : Int) < (nb : Int) := by omega
      have hob : ∀ x ∈ ob (Value.slice a2 nb c2), W.heap.size ≤ x := fun x hx => (Hlt2.out x hx).1
      have HBo : Hid (Below W.heap.size W wo) := ⟨(HB2.out.trans (HB24.out.mono HB2.out.size)).trans (HC.out.below (Nat.le_trans HB2.out.size HB24.out.size) hob)⟩
      have Hr24 : Hid (w2.heap.size ≤ r4) := ⟨by rw [← Hr4.out]; exact HB3.out.size⟩
      have Hzo : Hid (wo.heap[r4]? = some (.cells N 27 (0, 0))) := ⟨(HC.out.block r4 (Array.getElem?_eq_some_iff.1 Hz4.out).1 (fun hm => by have := (Hlt2.out r4 hm).2; have := Hr24.out; omega)).trans Hz4.out⟩
      have HHo : Hid (OwnE he 2 46 wo w2.heap.size (.slice ha n.H.length hc) n.H) := ⟨(HH3.out.far (Chg.ofBelow (X := []) HB4.out) (by simp)).far HC.out (fun g hg hm => by have h1 := (HH3.out.lt g hg).1; have h2 := (Hlt2.out g hm).2; omega)⟩
      have HPo : Hid (OwnE pe 33 49 wo w2.heap.size (.slice pa n.P.length pc) n.P) := ⟨(HP3.out.far (Chg.ofBelow (X := []) HB4.out) (by simp)).far HC.out (fun g hg hm => by have h1 := (HP3.out.lt g hg).1; have h2 := (Hlt2.out g hm).2; omega)⟩
      have HYo : Hid (OwnY wo w2.heap.size (.slice ba n.bs.length bc) n.bs) := ⟨own_far (own_far HY3.out (Chg.ofBelow (X := []) HB4.out) (by simp)) HC.out (fun g hg hm => by have h1 := own_geY HY3.out g (mem_ob.2 hg); have h2 := (Hlt2.out g hm).2; omega)⟩
      have t := t13 wo _ (HV.out.below HBo.out)
      clear t13
      go_wp2_with fail
      refine t.mono ?_
      rintro e w6 ⟨ha', hc', pa', pc', ba', bc', rfl, hH, hP, hY, hB6⟩
      have HH6 := Hid.mk hH
      have HP6 := Hid.mk hP
      have HY6 := Hid.mk hY
      have HB6 := Hid.mk hB6
      clear hH hP hY hB6 t
      obtain ⟨M, HM⟩ : ∃ x, Hid (na n.s n.nm n.g n.i (.slice ha' n.H.length hc') (.slice pa' n.P.length pc') (.slice ba' n.bs.length bc') = x) := ⟨_, ⟨rfl⟩⟩
      have HMs : Hid ((Try.prog.info? 27).map (·.size) = some M.size ∧ M.all (·.oneCell') = true ∧ zn.size = M.size) := ⟨by rw [← HM.out]; exact ⟨info27, na_one _ _ _ _ _ _ _ _ _ _ _ _ _, rfl⟩⟩
      obtain ⟨r7, Hr7⟩ : ∃ x, Hid (w6.heap.size = x) := ⟨_, ⟨rfl⟩⟩
      obtain ⟨w7, Hw7⟩ : ∃ x, Hid ((w6.alloc (.cells zn 27)).setRow r7 M = x) := ⟨_, ⟨rfl⟩⟩
      have HB7 : Hid (Below w6.heap.size w6 w7) := ⟨by rw [← Hw7.out, ← Hr7.out]; exact below_setRow ((Below.refl _ w6).alloc (Nat.le_refl _) _) (Nat.le_refl _) _⟩
      have Hz7 : Hid (w7.heap[r7]? = some (.cells M 27 (0, 0))) := ⟨by rw [← Hw7.out, ← Hr7.out]; exact setRow_heap _ _ zn _ 27 (0, 0) (heap_alloc_new w6 _)⟩
      rw [HM.out]
      go_upto_region 8 with (first
        | (refine wp_newZ zero27 rfl rfl ?_; rw [Hr7.out])
        | (refine wpList_store_row rfl 27 (.tmp 7) (.tmp 32) rfl r7 M rfl rfl 27 zn (by rw [← Hr7.out]; exact heap_alloc_new w6 _) HMs.out.1 HMs.out.2.2 HMs.out.2.1 ?_; rw [Hw7.out]))
      go_wp2_with fail
      refine (live7 (w := w7)).mono ?_
      rintro e w8 ⟨rfl, hB8⟩
      have HB8 := Hid.mk hB8
      have HB68 : Hid (Below w6.heap.size w6 w8) := ⟨HB7.out.trans (HB8.out.mono HB7.out.size)⟩
      have HBo8 : Hid (Below wo.heap.size wo w8) := ⟨HB6.out.trans (HB68.out.mono HB6.out.size)⟩
      have Hz48 : Hid (w8.heap[r4]? = some (.cells N 27 (0, 0))) := ⟨(HBo8.out.block r4 (Array.getElem?_eq_some_iff.1 Hzo.out).1).trans Hzo.out⟩
      have Hz78 : Hid (w8.heap[r7]? = some (.cells M 27 (0, 0))) := ⟨(HB8.out.block r7 (Array.getElem?_eq_some_iff.1 Hz7.out).1).trans Hz7.out⟩
      have c1 := Chg.ofBelow (X := []) HBo8.out
      have c2 := Chg.ofBelow (X := []) HB68.out
      have t14 := same14 (w := w8) n ha pa ba ha' pa' ba' hc pc bc hc' pc' bc' ((HHo.out.far c1 (by simp)).rd h0) ((HPo.out.far c1 (by simp)).rd p0) (Oct.OwnB.bs (own_far HYo.out c1 (by simp))) ((HH6.out.far c2 (by simp)).rd h0) ((HP6.out.far c2 (by simp)).rd p0) (Oct.OwnB.bs (own_far HY6.out c2 (by simp))) Hsum.out
      have hcc : (c == c) = true := by simp
      have y0 : w8.cell? ⟨r4, 0, none⟩ = some (.int .i64 n.s) := by rw [cell_of_row _ _ _ _ _ _ Hz48.out, ← HN.out]; rfl
      have y1 : w8.cell? ⟨r4, 1, none⟩ = some (.string n.nm) := by rw [cell_of_row _ _ _ _ _ _ Hz48.out, ← HN.out]; rfl
      have y2 : w8.cell? ⟨r4, 2, none⟩ = some (.int .i64 n.g) := by rw [cell_of_row _ _ _ _ _ _ Hz48.out, ← HN.out]; rfl
      have y3 : w8.cell? ⟨r4, 3, none⟩ = some (.int .i64 n.i) := by rw [cell_of_row _ _ _ _ _ _ Hz48.out, ← HN.out]; rfl
      have y4 : w8.cell? ⟨r4, 4, none⟩ = some (.slice ha n.H.length hc) := by rw [cell_of_row _ _ _ _ _ _ Hz48.out, ← HN.out]; rfl
      have y5 : w8.cell? ⟨r4, 5, none⟩ = some (.slice pa n.P.length pc) := by rw [cell_of_row _ _ _ _ _ _ Hz48.out, ← HN.out]; rfl
      have y6 : w8.cell? ⟨r4, 6, none⟩ = some (.slice ba n.bs.length bc) := by rw [cell_of_row _ _ _ _ _ _ Hz48.out, ← HN.out]; rfl
      have z0 : w8.cell? ⟨r7, 0, none⟩ = some (.int .i64 n.s) := by rw [cell_of_row _ _ _ _ _ _ Hz78.out, ← HM.out]; rfl
      have z1 : w8.cell? ⟨r7, 1, none⟩ = some (.string n.nm) := by rw [cell_of_row _ _ _ _ _ _ Hz78.out, ← HM.out]; rfl
      have z2 : w8.cell? ⟨r7, 2, none⟩ = some (.int .i64 n.g) := by rw [cell_of_row _ _ _ _ _ _ Hz78.out, ← HM.out]; rfl
      have z3 : w8.cell? ⟨r7, 3, none⟩ = some (.int .i64 n.i) := by rw [cell_of_row _ _ _ _ _ _ Hz78.out, ← HM.out]; rfl
      have z4 : w8.cell? ⟨r7, 4, none⟩ = some (.slice ha' n.H.length hc') := by rw [cell_of_row _ _ _ _ _ _ Hz78.out, ← HM.out]; rfl
      have z5 : w8.cell? ⟨r7, 5, none⟩ = some (.slice pa' n.P.length pc') := by rw [cell_of_row _ _ _ _ _ _ Hz78.out, ← HM.out]; rfl
      have z6 : w8.cell? ⟨r7, 6, none⟩ = some (.slice ba' n.bs.length bc') := by rw [cell_of_row _ _ _ _ _ _ Hz78.out, ← HM.out]; rfl
      clear hB8 c1 c2
      go_wp2_with fail
      refine t14.mono ?_
      rintro e w9 ⟨rfl, hB9⟩
      have HB9 := Hid.mk hB9
      clear t14 hB9
      go_wp2_with fail
      go_ret
      exact ⟨rfl, HBo.out.trans ((HBo8.out.trans (HB9.out.mono HBo8.out.size)).mono HBo.out.size)⟩
end
end Go.Proofs.Ythohpbppfihoiaa

/- WireBack: Take of Put is the note; Put of what is taken are its bytes. -/
namespace Go.Proofs.Ythohpbppfihoiaa
open Go.RowKit Go.Lib

set_option maxHeartbeats 16000000 in
set_option maxRecDepth 100000 in
theorem walk_wireBack (v : Value) (n : Nt) (u : Value) (bs : List Int) (W : World) (hn : NoteV W v n) (hb : Oct.Bs W u bs) (by0 : ∀ x ∈ bs, 0 ≤ x ∧ x < 256) (l0 : bs.length ≤ 140737488351232) : Calls Try.prog 6 #[v, u] W fun e w' => e = .returned (.bool true) ∧ Below W.heap.size W w' := by
  obtain ⟨ha, hc, pa, pc, ba, bc, rfl, hH, hP, hY⟩ := hn.ex
  have hS : ∀ p ∈ n.P, Sum32 p.1 := fun p hp => ⟨(hn.pt p hp).1, (hn.pt p hp).2.1⟩
  have h32 : ∀ p ∈ n.P, p.1.length = 32 := fun p hp => (hS p hp).len
  have hput := putN_ok hS hn.by'
  have HTP : Hid (chkN n = 0 → tkN (putN n).1 = (n, 0)) := ⟨fun h => take_put h h32⟩
  have Hce : Hid ((putN n).2 = chkN n) := ⟨by unfold putN; split <;> simp [*]⟩
  have HSn := Hid.mk hS
  have Hby := Hid.mk by0
  have Hl : Hid (bs.length ≤ 140737488355328) := ⟨by omega⟩
  obtain ⟨va, vc, rfl, _⟩ := id hb
  have HV := Hid.mk hb
  obtain ⟨nb, Hnb⟩ : ∃ k, Hid (bs.length = k) := ⟨_, ⟨rfl⟩⟩
  rw [Hnb.out] at HV
  rw [Hnb.out]
  obtain ⟨q, Hq⟩ : ∃ q, Hid (W.heap.size = q) := ⟨_, ⟨rfl⟩⟩
  obtain ⟨A, HA⟩ : ∃ x, Hid (na n.s n.nm n.g n.i (.slice ha n.H.length hc) (.slice pa n.P.length pc) (.slice ba n.bs.length bc) = x) := ⟨_, ⟨rfl⟩⟩
  obtain ⟨w1, Hw1⟩ : ∃ x, Hid (W.alloc (.cells A 27) = x) := ⟨_, ⟨rfl⟩⟩
  have HB1 : Hid (Below W.heap.size W w1) := ⟨by rw [← Hw1.out]; exact (Below.refl _ W).alloc (Nat.le_refl _) _⟩
  have HX1 : Hid (w1.heap[q]? = some (.cells A 27 (0, 0))) := ⟨by rw [← Hw1.out, ← Hq.out]; exact heap_alloc_new W _⟩
  have HIA : Hid ((Try.prog.info? 27).map (·.size) = some A.size) := ⟨by rw [← HA.out]; exact info27⟩
  have HHx : Hid (∀ wx, Below w1.heap.size w1 wx → RdE he 2 h0 wx (.slice ha n.H.length hc) n.H) := ⟨fun wx h => hH.far (Chg.ofBelow (X := []) (HB1.out.trans (h.mono HB1.out.size))) (by simp)⟩
  have HPx : Hid (∀ wx, Below w1.heap.size w1 wx → RdE pe 33 p0 wx (.slice pa n.P.length pc) n.P) := ⟨fun wx h => hP.far (Chg.ofBelow (X := []) (HB1.out.trans (h.mono HB1.out.size))) (by simp)⟩
  have HYx : Hid (∀ wx, Below w1.heap.size w1 wx → Oct.Bs wx (.slice ba n.bs.length bc) n.bs) := ⟨fun wx h => hY.below (HB1.out.trans (h.mono HB1.out.size))⟩
  have HVx : Hid (∀ wx, Below w1.heap.size w1 wx → Oct.Bs wx (.slice va nb vc) bs) := ⟨fun wx h => HV.out.below (HB1.out.trans (h.mono HB1.out.size))⟩
  have tp := put_any (w := w1) n ha pa ba hc pc bc (HHx.out w1 (Below.refl _ _)) (HPx.out w1 (Below.refl _ _)) (HYx.out w1 (Below.refl _ _)) h32
  have hsum := tkN_sum by0
  have hpt := fun (o : Nt) (h : tkN bs = (o, 0)) => put_take by0 h
  obtain ⟨⟨X, ce⟩, HX⟩ : ∃ r, Hid (putN n = r) := ⟨_, ⟨rfl⟩⟩
  rw [HX.out] at tp hput HTP Hce
  simp only at tp hput HTP Hce
  rw [← Hce.out] at HTP
  have HXb := Hid.mk hput.1
  have HXl : Hid (X.length ≤ 140737488355328) := ⟨by have := hput.2; omega⟩
  have t12x := fun (w : World) (u : Value) (h : Oct.Bs w u X) => take12 (w := w) u X h HXb.out HXl.out
  have t12b := fun (w : World) (u : Value) (h : Oct.Bs w u bs) => take12 (w := w) u bs h Hby.out Hl.out
  obtain ⟨⟨m, cf⟩, HM⟩ : ∃ r, Hid (tkN X = r) := ⟨_, ⟨rfl⟩⟩
  obtain ⟨⟨o, cg⟩, HG⟩ : ∃ r, Hid (tkN bs = r) := ⟨_, ⟨rfl⟩⟩
  rw [HM.out] at t12x HTP
  rw [HG.out] at t12b hsum hpt
  simp only at t12x t12b hsum
  have HSo := Hid.mk hsum
  have HPT : Hid (cg = 0 → putN o = (bs, 0)) := ⟨fun h => hpt o (by rw [h])⟩
  rw [HA.out] at tp ⊢
  clear hn hb hH hP hY hS h32 hput by0 l0 hsum hpt
  go_enter Try.func6, Try.ntmps6
  go_upto_region 1 with (refine wp_box rfl 27 (.tmp 0) rfl A rfl ?_; rw [Hw1.out, Hq.out])
  go_wp2_with (refine wp_load rfl 27 (.tmp 2) rfl q rfl A 27 (0, 0) _ HX1.out Try.underlying27 rfl HIA.out ?_)
  refine tp.mono ?_
  rintro e w2 ⟨v1, rfl, hO, hB⟩
  have HO2 := Hid.mk hO
  have HB2 := Hid.mk hB
  clear hO hB tp
  go_wp2_with fail
  refine (t12x w2 _ (Oct.OwnB.bs HO2.out)).mono ?_
  rintro e w3 ⟨ha', hc', pa', pc', ba', bc', rfl, hH, hP, hY, hB⟩
  have HH3 := Hid.mk hH
  have HP3 := Hid.mk hP
  have HY3 := Hid.mk hY
  have HB3 := Hid.mk hB
  clear hH hP hY hB t12x
  obtain ⟨M, HMr⟩ : ∃ x, Hid (na m.s m.nm m.g m.i (.slice ha' m.H.length hc') (.slice pa' m.P.length pc') (.slice ba' m.bs.length bc') = x) := ⟨_, ⟨rfl⟩⟩
  have HMs : Hid ((Try.prog.info? 27).map (·.size) = some M.size ∧ M.all (·.oneCell') = true ∧ zn.size = M.size) := ⟨by rw [← HMr.out]; exact ⟨info27, na_one _ _ _ _ _ _ _ _ _ _ _ _ _, rfl⟩⟩
  obtain ⟨r7, Hr7⟩ : ∃ x, Hid (w3.heap.size = x) := ⟨_, ⟨rfl⟩⟩
  obtain ⟨w4, Hw4⟩ : ∃ x, Hid ((w3.alloc (.cells zn 27)).setRow r7 M = x) := ⟨_, ⟨rfl⟩⟩
  have HB4 : Hid (Below w3.heap.size w3 w4) := ⟨by rw [← Hw4.out, ← Hr7.out]; exact below_setRow ((Below.refl _ w3).alloc (Nat.le_refl _) _) (Nat.le_refl _) _⟩
  have Hz7 : Hid (w4.heap[r7]? = some (.cells M 27 (0, 0))) := ⟨by rw [← Hw4.out, ← Hr7.out]; exact setRow_heap _ _ zn _ 27 (0, 0) (heap_alloc_new w3 _)⟩
  have HB14 : Hid (Below w1.heap.size w1 w4) := ⟨HB2.out.trans ((HB3.out.trans (HB4.out.mono HB3.out.size)).mono HB2.out.size)⟩
  rw [HMr.out]
  go_upto_region 3 with (first
    | (refine wp_newZ zero27 rfl rfl ?_; rw [Hr7.out])
    | (refine wpList_store_row rfl 27 (.tmp 7) (.tmp 21) rfl r7 M rfl rfl 27 zn (by rw [← Hr7.out]; exact heap_alloc_new w3 _) HMs.out.1 HMs.out.2.2 HMs.out.2.1 ?_; rw [Hw4.out]))
  go_wp2_with fail
  refine (t12b w4 _ (HVx.out w4 HB14.out)).mono ?_
  rintro e w5 ⟨ho, ko, po, lo, bo, mo, rfl, hH, hP, hY, hB⟩
  have HH5 := Hid.mk hH
  have HP5 := Hid.mk hP
  have HY5 := Hid.mk hY
  have HB5 := Hid.mk hB
  clear hH hP hY hB t12b
  obtain ⟨r9, Hr9⟩ : ∃ x, Hid (w5.heap.size = x) := ⟨_, ⟨rfl⟩⟩
  obtain ⟨O, HOr⟩ : ∃ x, Hid (na o.s o.nm o.g o.i (.slice ho o.H.length ko) (.slice po o.P.length lo) (.slice bo o.bs.length mo) = x) := ⟨_, ⟨rfl⟩⟩
  have HOs : Hid ((Try.prog.info? 27).map (·.size) = some O.size ∧ O.all (·.oneCell') = true ∧ zn.size = O.size) := ⟨by rw [← HOr.out]; exact ⟨info27, na_one _ _ _ _ _ _ _ _ _ _ _ _ _, rfl⟩⟩
  obtain ⟨w6, Hw6⟩ : ∃ x, Hid ((w5.alloc (.cells zn 27)).setRow r9 O = x) := ⟨_, ⟨rfl⟩⟩
  have HB6 : Hid (Below w5.heap.size w5 w6) := ⟨by rw [← Hw6.out, ← Hr9.out]; exact below_setRow ((Below.refl _ w5).alloc (Nat.le_refl _) _) (Nat.le_refl _) _⟩
  have Hz9 : Hid (w6.heap[r9]? = some (.cells O 27 (0, 0))) := ⟨by rw [← Hw6.out, ← Hr9.out]; exact setRow_heap _ _ zn _ 27 (0, 0) (heap_alloc_new w5 _)⟩
  have HB46 : Hid (Below w4.heap.size w4 w6) := ⟨HB5.out.trans (HB6.out.mono HB5.out.size)⟩
  have c6 := Chg.ofBelow (X := []) HB6.out
  have tq := put_any (w := w6) o ho po bo ko lo mo ((HH5.out.far c6 (by simp)).rd h0) ((HP5.out.far c6 (by simp)).rd p0) (Oct.OwnB.bs (own_far HY5.out c6 (by simp))) (fun p hp => (HSo.out p hp).len)
  rw [HOr.out] at tq ⊢
  clear c6
  obtain ⟨⟨Y, ch⟩, HYr⟩ : ∃ r, Hid (putN o = r) := ⟨_, ⟨rfl⟩⟩
  rw [HYr.out] at tq HPT
  simp only at tq
  go_upto_region 4 with (first
    | (refine wp_newZ zero27 rfl rfl ?_; rw [Hr9.out])
    | (refine wpList_store_row rfl 27 (.tmp 9) (.tmp 26) rfl r9 O rfl rfl 27 zn (by rw [← Hr9.out]; exact heap_alloc_new w5 _) HOs.out.1 HOs.out.2.2 HOs.out.2.1 ?_; rw [Hw6.out]))
  go_wp2_with (refine wp_load rfl 27 (.tmp 9) rfl r9 rfl O 27 (0, 0) _ Hz9.out Try.underlying27 rfl HOs.out.1 ?_)
  refine tq.mono ?_
  rintro e w7 ⟨v7, rfl, hO, hB⟩
  have HO7 := Hid.mk hO
  have HB7 := Hid.mk hB
  obtain ⟨a7, c7, e7, _⟩ := OwnY.shape HO7.out
  subst e7
  clear hO hB tq
  go_wp2_with fail
  refine (live7 (w := w7)).mono ?_
  rintro e w8 ⟨rfl, hB⟩
  have HB8 := Hid.mk hB
  clear hB
  have HB68 : Hid (Below w6.heap.size w6 w8) := ⟨HB7.out.trans (HB8.out.mono HB7.out.size)⟩
  have HB48 : Hid (Below w4.heap.size w4 w8) := ⟨HB46.out.trans (HB68.out.mono HB46.out.size)⟩
  have HB18 : Hid (Below w1.heap.size w1 w8) := ⟨HB14.out.trans (HB48.out.mono HB14.out.size)⟩
  have HB38 : Hid (Below w3.heap.size w3 w8) := ⟨HB4.out.trans (HB48.out.mono HB4.out.size)⟩
  have HXq : Hid (w8.heap[q]? = some (.cells A 27 (0, 0))) := ⟨(HB18.out.block q (Array.getElem?_eq_some_iff.1 HX1.out).1).trans HX1.out⟩
  have HX7 : Hid (w8.heap[r7]? = some (.cells M 27 (0, 0))) := ⟨(HB48.out.block r7 (Array.getElem?_eq_some_iff.1 Hz7.out).1).trans Hz7.out⟩
  have HBW8 : Hid (Below W.heap.size W w8) := ⟨HB1.out.trans (HB18.out.mono HB1.out.size)⟩
  have Hcv1 : Hid ((convert 25 9 (.slice a7 Y.length c7)).run Try.prog w8 = .ok (.string (strOfNums Y)) w8) := ⟨bs_str ((Oct.OwnB.bs HO7.out).below HB8.out)⟩
  have Hcv2 : Hid ((convert 25 9 (.slice va nb vc)).run Try.prog w8 = .ok (.string (strOfNums bs)) w8) := ⟨bs_str (HVx.out w8 HB18.out)⟩
  by_cases hce : ce = 0
  · have he := HTP.out hce
    simp only [Prod.mk.injEq] at he
    obtain ⟨rfl, rfl⟩ := he
    subst hce
    have y0 : w8.cell? ⟨q, 0, none⟩ = some (.int .i64 m.s) := by rw [cell_of_row _ _ _ _ _ _ HXq.out, ← HA.out]; rfl
    have y1 : w8.cell? ⟨q, 1, none⟩ = some (.string m.nm) := by rw [cell_of_row _ _ _ _ _ _ HXq.out, ← HA.out]; rfl
    have y2 : w8.cell? ⟨q, 2, none⟩ = some (.int .i64 m.g) := by rw [cell_of_row _ _ _ _ _ _ HXq.out, ← HA.out]; rfl
    have y3 : w8.cell? ⟨q, 3, none⟩ = some (.int .i64 m.i) := by rw [cell_of_row _ _ _ _ _ _ HXq.out, ← HA.out]; rfl
    have y4 : w8.cell? ⟨q, 4, none⟩ = some (.slice ha m.H.length hc) := by rw [cell_of_row _ _ _ _ _ _ HXq.out, ← HA.out]; rfl
    have y5 : w8.cell? ⟨q, 5, none⟩ = some (.slice pa m.P.length pc) := by rw [cell_of_row _ _ _ _ _ _ HXq.out, ← HA.out]; rfl
    have y6 : w8.cell? ⟨q, 6, none⟩ = some (.slice ba m.bs.length bc) := by rw [cell_of_row _ _ _ _ _ _ HXq.out, ← HA.out]; rfl
    have z0 : w8.cell? ⟨r7, 0, none⟩ = some (.int .i64 m.s) := by rw [cell_of_row _ _ _ _ _ _ HX7.out, ← HMr.out]; rfl
    have z1 : w8.cell? ⟨r7, 1, none⟩ = some (.string m.nm) := by rw [cell_of_row _ _ _ _ _ _ HX7.out, ← HMr.out]; rfl
    have z2 : w8.cell? ⟨r7, 2, none⟩ = some (.int .i64 m.g) := by rw [cell_of_row _ _ _ _ _ _ HX7.out, ← HMr.out]; rfl
    have z3 : w8.cell? ⟨r7, 3, none⟩ = some (.int .i64 m.i) := by rw [cell_of_row _ _ _ _ _ _ HX7.out, ← HMr.out]; rfl
    have z4 : w8.cell? ⟨r7, 4, none⟩ = some (.slice ha' m.H.length hc') := by rw [cell_of_row _ _ _ _ _ _ HX7.out, ← HMr.out]; rfl
    have z5 : w8.cell? ⟨r7, 5, none⟩ = some (.slice pa' m.P.length pc') := by rw [cell_of_row _ _ _ _ _ _ HX7.out, ← HMr.out]; rfl
    have z6 : w8.cell? ⟨r7, 6, none⟩ = some (.slice ba' m.bs.length bc') := by rw [cell_of_row _ _ _ _ _ _ HX7.out, ← HMr.out]; rfl
    have c3 := Chg.ofBelow (X := []) HB38.out
    have t14 := same14 (w := w8) m ha pa ba ha' pa' ba' hc pc bc hc' pc' bc' (HHx.out w8 HB18.out) (HPx.out w8 HB18.out) (HYx.out w8 HB18.out) ((HH3.out.far c3 (by simp)).rd h0) ((HP3.out.far c3 (by simp)).rd p0) (Oct.OwnB.bs (own_far HY3.out c3 (by simp))) HSn.out
    clear c3
    by_cases hcg : cg = 0
    · subst hcg
      have hp := HPT.out rfl
      simp only [Prod.mk.injEq] at hp
      obtain ⟨rfl, rfl⟩ := hp
      obtain ⟨S, HS⟩ : ∃ S, Hid (strOfNums Y = S) := ⟨_, ⟨rfl⟩⟩
      rw [HS.out] at Hcv1 Hcv2
      go_wp2_with fail
      refine t14.mono ?_
      rintro e w9 ⟨rfl, hB⟩
      have HB9 := Hid.mk hB
      have hcv1 : (convert 25 9 (.slice a7 Y.length c7)).run Try.prog w9 = .ok (.string S) w9 := by rw [← HS.out]; exact bs_str ((Oct.OwnB.bs HO7.out).below (HB8.out.trans (HB9.out.mono HB8.out.size)))
      have hcv2 : (convert 25 9 (.slice va nb vc)).run Try.prog w9 = .ok (.string S) w9 := by rw [← HS.out]; exact bs_str (HVx.out w9 (HB18.out.trans (HB9.out.mono HB18.out.size)))
      clear t14 hB
      go_wp2_with fail
      go_ret
      exact ⟨rfl, HBW8.out.trans (HB9.out.mono HBW8.out.size)⟩
    · have hcg' : (cg != 0) = true := by simpa using hcg
      go_wp2_with fail
      refine t14.mono ?_
      rintro e w9 ⟨rfl, hB⟩
      have HB9 := Hid.mk hB
      clear t14 hB
      go_wp2_with fail
      go_ret
      exact ⟨rfl, HBW8.out.trans (HB9.out.mono HBW8.out.size)⟩
  · have hce' : (ce != 0) = true := by simpa using hce
    by_cases hcg : cg = 0
    · subst hcg
      have hp := HPT.out rfl
      simp only [Prod.mk.injEq] at hp
      obtain ⟨rfl, rfl⟩ := hp
      obtain ⟨S, HS⟩ : ∃ S, Hid (strOfNums Y = S) := ⟨_, ⟨rfl⟩⟩
      rw [HS.out] at Hcv1 Hcv2
      have hcv1 := Hcv1.out
      have hcv2 := Hcv2.out
      go_wp2_with fail
      go_ret
      exact ⟨rfl, HBW8.out⟩
    · have hcg' : (cg != 0) = true := by simpa using hcg
      go_wp2_with fail
      go_ret
      exact ⟨rfl, HBW8.out⟩
end Go.Proofs.Ythohpbppfihoiaa
