/- WireTakes: both Takes answer the same, and what is taken keeps no bytes of those that came in. -/
import Derived.Test.YthohpbppfihoiaaY4
import Derived.Test.YthohpbppfihoiaaGw
namespace Go.Proofs.Ythohpbppfihoiaa
open Go.RowKit Go.Lib

section
variable {w : World}
set_option maxHeartbeats 16000000 in
set_option maxRecDepth 100000 in
theorem walk_wireTakes (v : Value) (bs : List Int) (W : World) (hb : Oct.Bs W v bs) (by0 : ∀ x ∈ bs, 0 ≤ x ∧ x < 256) (l0 : bs.length ≤ 140737488351232) : Calls Try.prog 5 #[v] W fun e w' => e = .returned (.bool true) ∧ Below W.heap.size W w' := by
  have HV := Hid.mk hb
  obtain ⟨va, vc, rfl, _⟩ := hb
  obtain ⟨nb, Hnb⟩ : ∃ n, Hid (bs.length = n) := ⟨_, ⟨rfl⟩⟩
  have Hby := Hid.mk by0
  have Hl : Hid (bs.length ≤ 140737488355328) := ⟨by omega⟩
  have Hsum := Hid.mk (tkN_sum by0)
  have ha : Below W.heap.size W (W.alloc (.cells #[] 5)) := (Below.refl _ W).alloc (Nat.le_refl _) _
  have HU1 : Hid (Oct.Bs (W.alloc (.cells #[] 5)) (.slice va bs.length vc) bs) := ⟨HV.out.below ha⟩
  have HA := Hid.mk ha
  rw [Hnb.out] at HV HU1
  rw [Hnb.out]
  have t12 := fun (w : World) (u : Value) (h : Oct.Bs w u bs) => take12 (w := w) u bs h Hby.out Hl.out
  have t13 := fun (w : World) (u : Value) (h : Oct.Bs w u bs) => rtake13 (w := w) u bs h Hby.out Hl.out
  obtain ⟨⟨n, c⟩, HR⟩ : ∃ r, Hid (tkN bs = r) := ⟨_, ⟨rfl⟩⟩
  rw [HR.out] at t12 t13 Hsum
  simp only at t12 t13 Hsum
  clear by0 ha
  go_enter Try.func5, Try.ntmps5
  go_upto_region 2 with (at_builtin; refine Oct.wp_appS Oct.Try.bt rfl (.tmp 9) (.tmp 10) rfl rfl (owny_none W) rfl HU1.out (by have := Hl.out; simpa using this) HA.out.size ?_; intro v2 w2 hO hB; have HO2 : Hid (OwnY w2 W.heap.size v2 bs) := ⟨hO⟩; have HB2 : Hid (Below W.heap.size W w2) := ⟨HA.out.trans hB⟩; clear hO hB)
  obtain ⟨a2, c2, e2, h2l, h2m, _⟩ := OwnY.shape HO2.out
  subst e2
  rw [Hnb.out] at HO2 h2l
  rw [Hnb.out]
  go_wp2_with fail
  refine (t12 w2 _ (Oct.OwnB.bs HO2.out)).mono ?_
  rintro e w3 ⟨ha, hc, pa, pc, ba, bc, rfl, hH, hP, hY, hB3⟩
  have HH3 := Hid.mk hH
  have HP3 := Hid.mk hP
  have HY3 := Hid.mk hY
  have HB3 := Hid.mk hB3
  clear hH hP hY hB3 t12
  obtain ⟨N, HN⟩ : ∃ x, Hid (na n.s n.nm n.g n.i (.slice ha n.H.length hc) (.slice pa n.P.length pc) (.slice ba n.bs.length bc) = x) := ⟨_, ⟨rfl⟩⟩
  have HNs : Hid ((Try.prog.info? 27).map (·.size) = some N.size ∧ N.all (·.oneCell') = true ∧ zn.size = N.size) := ⟨by rw [← HN.out]; exact ⟨info27, na_one _ _ _ _ _ _ _ _ _ _ _ _ _, rfl⟩⟩
  obtain ⟨r4, Hr4⟩ : ∃ x, Hid (w3.heap.size = x) := ⟨_, ⟨rfl⟩⟩
  obtain ⟨w4, Hw4⟩ : ∃ x, Hid ((w3.alloc (.cells zn 27)).setRow r4 N = x) := ⟨_, ⟨rfl⟩⟩
  have HB4 : Hid (Below w3.heap.size w3 w4) := ⟨by rw [← Hw4.out, ← Hr4.out]; exact below_setRow ((Below.refl _ w3).alloc (Nat.le_refl _) _) (Nat.le_refl _) _⟩
  have Hz4 : Hid (w4.heap[r4]? = some (.cells N 27 (0, 0))) := ⟨by rw [← Hw4.out, ← Hr4.out]; exact setRow_heap _ _ zn _ 27 (0, 0) (heap_alloc_new w3 _)⟩
  have HB24 : Hid (Below w2.heap.size w2 w4) := ⟨HB3.out.trans (HB4.out.mono HB3.out.size)⟩
  have HO4 : Hid (OwnY w4 W.heap.size (.slice a2 nb c2) bs) := ⟨by have := Oct.OwnB.below HO2.out HB24.out; exact this⟩
  have Hlt2 : Hid (∀ g ∈ ob (Value.slice a2 nb c2), W.heap.size ≤ g ∧ g < w2.heap.size) := ⟨fun g hg => by rw [← Hnb.out] at hg HO2; exact (World.ownsRow.lt HO2.out g (mem_ob.1 hg))⟩
  rw [HN.out]
  go_upto_region 3 with (first
    | (refine wp_newZ zero27 rfl rfl ?_; rw [Hr4.out])
    | (refine wpList_store_row rfl 27 (.tmp 4) (.tmp 15) rfl r4 N rfl rfl 27 zn (by rw [← Hr4.out]; exact heap_alloc_new w3 _) HNs.out.1 HNs.out.2.2 HNs.out.2.1 ?_; rw [Hw4.out]))
  go_wp2_with fail
  go_loopg [6] nb (fun gg s6 wr => ∃ (i : Nat) (ys : List Int), i ≤ nb ∧ nb - i ≤ gg ∧ s6 = .int .i64 (i : Int) ∧ ys.length = nb ∧ Hid (OwnY wr W.heap.size (.slice a2 nb c2) ys) ∧ Hid (Chg (ob (.slice a2 nb c2)) w4 wr))
  case atStart => exact ⟨0, bs, Nat.zero_le _, by omega, rfl, Hnb.out, HO4, ⟨Chg.refl _ _⟩⟩
  case round =>
    obtain ⟨i, ys, hi, hgg, rfl, hys, HO, HC⟩ := hrel
    rename World => wo
    have hn63 : nb ≤ 140737488351232 := by rw [← Hnb.out]; exact l0
    by_cases hlt : i < nb
    · have hltz : (i : Int) < (nb : Int) := by omega
      obtain ⟨g, off, cap, e, hcc, hat⟩ := HO.out.rd.at (i := i) (by rw [hys]; exact hlt)
      have hg0 : off = 0 := by
        rcases HO.out.2 with ⟨e', _⟩ | ⟨g', cap', cur', e', _⟩
        · rw [e'] at e; cases e
        · rw [e'] at e; simp only [Value.slice.injEq, Option.some.injEq, Addr.mk.injEq] at e; exact e.1.2.1.symm
      subst hg0
      rw [hys] at e
      simp only [Value.slice.injEq] at e
      obtain ⟨rfl, -, rfl⟩ := e
      have hv := hat i (by rw [hys]; exact hlt)
      rw [Nat.zero_add] at hv
      have hf : wo.frozen? ⟨g, i, none⟩ = false := by rw [← hys] at HO; exact Oct.OwnB.frozenAt HO.out i
      obtain ⟨y, Hy⟩ : ∃ y, Hid (ys.getD i 0 = y) := ⟨_, ⟨rfl⟩⟩
      rw [Hy.out] at hv
      have HgW : Hid (W.heap.size ≤ g) := ⟨(Hlt2.out g (mem_ob.2 rfl)).1⟩
      obtain ⟨y2, Hy2⟩ : ∃ y2, Hid (bits BinOp.xor IntKind.u8 y 1 = y2) := ⟨_, ⟨rfl⟩⟩
      have HO5 : Hid (OwnY (wo.setCell ⟨g, i, none⟩ (.int .u8 y2)) W.heap.size (.slice (some ⟨g, 0, none⟩) nb c2) (ys.set i y2)) := ⟨(Oct.OwnB.stored HO.out HgW.out i y2).1⟩
      have HC5 : Hid (Chg (ob (.slice (some ⟨g, 0, none⟩) nb c2)) w4 (wo.setCell ⟨g, i, none⟩ (.int .u8 y2))) := ⟨Chg.setCell HC.out (a := ⟨g, i, none⟩) (.inl (mem_ob.2 rfl)) _⟩
      clear hat
      go_wp2_with fail
      rw [Hy2.out]
      go_roundg (nb - (i + 1))
      case measure => omega
      case rel => exact ⟨i + 1, ys.set i y2, hlt, Nat.le_refl _, by go_num, by rw [List.length_set]; exact hys, HO5, HC5⟩
    · obtain rfl : nb = i := by omega
      have hltz : ¬ (nb : Int) < (nb : Int) := by omega
      have hob : ∀ x ∈ ob (Value.slice a2 nb c2), W.heap.size ≤ x := fun x hx => (Hlt2.out x hx).1
      have HBo : Hid (Below W.heap.size W wo) := ⟨(HB2.out.trans (HB24.out.mono HB2.out.size)).trans (HC.out.below (Nat.le_trans HB2.out.size HB24.out.size) hob)⟩
      have Hr24 : Hid (w2.heap.size ≤ r4) := ⟨by rw [← Hr4.out]; exact HB3.out.size⟩
      have Hzo : Hid (wo.heap[r4]? = some (.cells N 27 (0, 0))) := ⟨(HC.out.block r4 (Array.getElem?_eq_some_iff.1 Hz4.out).1 (fun hm => by have := (Hlt2.out r4 hm).2; have := Hr24.out; omega)).trans Hz4.out⟩
      have HHo : Hid (OwnE he 2 46 wo w2.heap.size (.slice ha n.H.length hc) n.H) := ⟨(HH3.out.far (Chg.ofBelow (X := []) HB4.out) (by simp)).far HC.out (fun g hg hm => by have h1 := (HH3.out.lt g hg).1; have h2 := (Hlt2.out g hm).2; omega)⟩
      have HPo : Hid (OwnE pe 33 49 wo w2.heap.size (.slice pa n.P.length pc) n.P) := ⟨(HP3.out.far (Chg.ofBelow (X := []) HB4.out) (by simp)).far HC.out (fun g hg hm => by have h1 := (HP3.out.lt g hg).1; have h2 := (Hlt2.out g hm).2; omega)⟩
      have HYo : Hid (OwnY wo w2.heap.size (.slice ba n.bs.length bc) n.bs) := ⟨own_far (own_far HY3.out (Chg.ofBelow (X := []) HB4.out) (by simp)) HC.out (fun g hg hm => by have h1 := own_geY HY3.out g (mem_ob.2 hg); have h2 := (Hlt2.out g hm).2; omega)⟩
      have t := t13 wo _ (HV.out.below HBo.out)
      clear t13
      go_wp2_with fail
      refine t.mono ?_
      rintro e w6 ⟨ha', hc', pa', pc', ba', bc', rfl, hH, hP, hY, hB6⟩
      have HH6 := Hid.mk hH
      have HP6 := Hid.mk hP
      have HY6 := Hid.mk hY
      have HB6 := Hid.mk hB6
      clear hH hP hY hB6 t
      obtain ⟨M, HM⟩ : ∃ x, Hid (na n.s n.nm n.g n.i (.slice ha' n.H.length hc') (.slice pa' n.P.length pc') (.slice ba' n.bs.length bc') = x) := ⟨_, ⟨rfl⟩⟩
      have HMs : Hid ((Try.prog.info? 27).map (·.size) = some M.size ∧ M.all (·.oneCell') = true ∧ zn.size = M.size) := ⟨by rw [← HM.out]; exact ⟨info27, na_one _ _ _ _ _ _ _ _ _ _ _ _ _, rfl⟩⟩
      obtain ⟨r7, Hr7⟩ : ∃ x, Hid (w6.heap.size = x) := ⟨_, ⟨rfl⟩⟩
      obtain ⟨w7, Hw7⟩ : ∃ x, Hid ((w6.alloc (.cells zn 27)).setRow r7 M = x) := ⟨_, ⟨rfl⟩⟩
      have HB7 : Hid (Below w6.heap.size w6 w7) := ⟨by rw [← Hw7.out, ← Hr7.out]; exact below_setRow ((Below.refl _ w6).alloc (Nat.le_refl _) _) (Nat.le_refl _) _⟩
      have Hz7 : Hid (w7.heap[r7]? = some (.cells M 27 (0, 0))) := ⟨by rw [← Hw7.out, ← Hr7.out]; exact setRow_heap _ _ zn _ 27 (0, 0) (heap_alloc_new w6 _)⟩
      rw [HM.out]
      go_upto_region 8 with (first
        | (refine wp_newZ zero27 rfl rfl ?_; rw [Hr7.out])
        | (refine wpList_store_row rfl 27 (.tmp 7) (.tmp 32) rfl r7 M rfl rfl 27 zn (by rw [← Hr7.out]; exact heap_alloc_new w6 _) HMs.out.1 HMs.out.2.2 HMs.out.2.1 ?_; rw [Hw7.out]))
      go_wp2_with fail
      refine (live7 (w := w7)).mono ?_
      rintro e w8 ⟨rfl, hB8⟩
      have HB8 := Hid.mk hB8
      have HB68 : Hid (Below w6.heap.size w6 w8) := ⟨HB7.out.trans (HB8.out.mono HB7.out.size)⟩
      have HBo8 : Hid (Below wo.heap.size wo w8) := ⟨HB6.out.trans (HB68.out.mono HB6.out.size)⟩
      have Hz48 : Hid (w8.heap[r4]? = some (.cells N 27 (0, 0))) := ⟨(HBo8.out.block r4 (Array.getElem?_eq_some_iff.1 Hzo.out).1).trans Hzo.out⟩
      have Hz78 : Hid (w8.heap[r7]? = some (.cells M 27 (0, 0))) := ⟨(HB8.out.block r7 (Array.getElem?_eq_some_iff.1 Hz7.out).1).trans Hz7.out⟩
      have c1 := Chg.ofBelow (X := []) HBo8.out
      have c2 := Chg.ofBelow (X := []) HB68.out
      have t14 := same14 (w := w8) n ha pa ba ha' pa' ba' hc pc bc hc' pc' bc' ((HHo.out.far c1 (by simp)).rd h0) ((HPo.out.far c1 (by simp)).rd p0) (Oct.OwnB.bs (own_far HYo.out c1 (by simp))) ((HH6.out.far c2 (by simp)).rd h0) ((HP6.out.far c2 (by simp)).rd p0) (Oct.OwnB.bs (own_far HY6.out c2 (by simp))) Hsum.out
      have hcc : (c == c) = true := by simp
      have y0 : w8.cell? ⟨r4, 0, none⟩ = some (.int .i64 n.s) := by rw [cell_of_row _ _ _ _ _ _ Hz48.out, ← HN.out]; rfl
      have y1 : w8.cell? ⟨r4, 1, none⟩ = some (.string n.nm) := by rw [cell_of_row _ _ _ _ _ _ Hz48.out, ← HN.out]; rfl
      have y2 : w8.cell? ⟨r4, 2, none⟩ = some (.int .i64 n.g) := by rw [cell_of_row _ _ _ _ _ _ Hz48.out, ← HN.out]; rfl
      have y3 : w8.cell? ⟨r4, 3, none⟩ = some (.int .i64 n.i) := by rw [cell_of_row _ _ _ _ _ _ Hz48.out, ← HN.out]; rfl
      have y4 : w8.cell? ⟨r4, 4, none⟩ = some (.slice ha n.H.length hc) := by rw [cell_of_row _ _ _ _ _ _ Hz48.out, ← HN.out]; rfl
      have y5 : w8.cell? ⟨r4, 5, none⟩ = some (.slice pa n.P.length pc) := by rw [cell_of_row _ _ _ _ _ _ Hz48.out, ← HN.out]; rfl
      have y6 : w8.cell? ⟨r4, 6, none⟩ = some (.slice ba n.bs.length bc) := by rw [cell_of_row _ _ _ _ _ _ Hz48.out, ← HN.out]; rfl
      have z0 : w8.cell? ⟨r7, 0, none⟩ = some (.int .i64 n.s) := by rw [cell_of_row _ _ _ _ _ _ Hz78.out, ← HM.out]; rfl
      have z1 : w8.cell? ⟨r7, 1, none⟩ = some (.string n.nm) := by rw [cell_of_row _ _ _ _ _ _ Hz78.out, ← HM.out]; rfl
      have z2 : w8.cell? ⟨r7, 2, none⟩ = some (.int .i64 n.g) := by rw [cell_of_row _ _ _ _ _ _ Hz78.out, ← HM.out]; rfl
      have z3 : w8.cell? ⟨r7, 3, none⟩ = some (.int .i64 n.i) := by rw [cell_of_row _ _ _ _ _ _ Hz78.out, ← HM.out]; rfl
      have z4 : w8.cell? ⟨r7, 4, none⟩ = some (.slice ha' n.H.length hc') := by rw [cell_of_row _ _ _ _ _ _ Hz78.out, ← HM.out]; rfl
      have z5 : w8.cell? ⟨r7, 5, none⟩ = some (.slice pa' n.P.length pc') := by rw [cell_of_row _ _ _ _ _ _ Hz78.out, ← HM.out]; rfl
      have z6 : w8.cell? ⟨r7, 6, none⟩ = some (.slice ba' n.bs.length bc') := by rw [cell_of_row _ _ _ _ _ _ Hz78.out, ← HM.out]; rfl
      clear hB8 c1 c2
      go_wp2_with fail
      refine t14.mono ?_
      rintro e w9 ⟨rfl, hB9⟩
      have HB9 := Hid.mk hB9
      clear t14 hB9
      go_wp2_with fail
      go_ret
      exact ⟨rfl, HBo.out.trans ((HBo8.out.trans (HB9.out.mono HBo8.out.size)).mono HBo.out.size)⟩
end
end Go.Proofs.Ythohpbppfihoiaa
