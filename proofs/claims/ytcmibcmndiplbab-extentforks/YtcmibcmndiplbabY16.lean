/- Package extent's join, walked: with spans to join. -/
import Derived.Test.YtcmibcmndiplbabY15
namespace Go.Proofs.Ytcmibcmndiplbab
open Go.RowKit Go.Lib Go.Shelf


set_option maxHeartbeats 8000000 in
set_option maxRecDepth 100000 in
theorem join_some (A B s1 s2' : Int) (p b cap base : Nat) (l : List (Int × Int)) (w : World) (hM : MapAt w p A B base b cap l) (hbs : base ≤ w.heap.size) (h5 : l.length ≤ 99000) (F0 : Nat) (hidx : idx (fun x => decide (s1 ≤ x.2)) l = F0) (hjf : jfrom l s1 = F0) (hFl : F0 < l.length) :
    Calls Try.prog 34 #[.pointer (some ⟨p, 0, none⟩), .agg #[.int .i64 s1, .int .i64 s2']] w fun e w' => e = .returned (.tuple #[]) ∧ Maps w p A B base b (joined l (s1, s2')) w' := by
  obtain ⟨c0, c1, c2⟩ := cells_row hM.row
  obtain ⟨hbb, C, hR⟩ := Own2.rowOf hM.own hM.caps
  have hpl : p < w.heap.size := (Array.getElem?_eq_some_iff.1 hM.row).1
  have hbl : b < w.heap.size := hR.row.lt
  have hpb := hM.ne
  have np : p ≠ w.heap.size := by omega
  have HM : Hid (MapAt w p A B base b cap l) := ⟨hM⟩
  have HPw0 := hM.row
  have hsp0 := hM.spAt
  obtain ⟨n, hn⟩ : ∃ n, l.length = n := ⟨_, rfl⟩
  rw [hn] at c2 h5 hR HPw0
  have HPw : Hid (w.heap[p]? = some (.cells #[.int .i64 A, .int .i64 B, .slice (some ⟨b, 0, none⟩) n cap] 62 (0, 0))) := ⟨HPw0⟩
  have HR : Hid (RowOf w b n cap C l) := ⟨hR⟩
  have HSP : Hid (SpAt w b cap l) := ⟨hsp0⟩
  obtain ⟨L', HL'⟩ : ∃ L', Hid (L' = joined l (s1, s2')) := ⟨_, ⟨rfl⟩⟩
  rw [← HL'.out]
  obtain ⟨F, HF⟩ : ∃ F, Hid (F = jfrom l s1) := ⟨_, ⟨rfl⟩⟩
  obtain ⟨bx, Hbx⟩ : ∃ bx, Hid (bx = w.heap.size) := ⟨_, ⟨rfl⟩⟩
  have hw1 : Below w.heap.size w (w.alloc (.cells #[.int .i64 s1, .int .i64 s2'] 57)) := (Below.refl _ w).alloc (Nat.le_refl _) _
  have hcon := index_any 44 #[] #[.pointer (some ⟨w.heap.size, 0, none⟩)] _ (enters_of Try.func44 (by kernel_rfl) rfl) b cap l (w.alloc (.cells #[.int .i64 s1, .int .i64 s2'] 57)) ((HM.out.below hw1).spAt) (pred_touch s1 w.heap.size _ (by simp) (by simp))
  rw [hidx, hn] at hcon
  have hroom := hR.room
  have hbig := hR.big
  unfold maxLen at hbig
  clear hM hR HPw0 hsp0 c0 c1 hw1
  go_enter Try.func34, Try.ntmps34
  go_wp2_with (go_at_call 28
               refine hcon.mono ?_
               rintro e wr ⟨rfl, hb'⟩
               have hb1 : Below w.heap.size w wr := ((Below.refl _ w).alloc (Nat.le_refl _) _).trans (hb'.mono (by simp))
               have hX : Row wr w.heap.size #[.int .i64 s1, .int .i64 s2'] := by
                 have h0 := heap_alloc_new w (.cells #[.int .i64 s1, .int .i64 s2'] 57)
                 exact (hb'.block w.heap.size (by simp)).trans h0
               have d2 : wr.cell? ⟨p, 2, none⟩ = some (.slice (some ⟨b, 0, none⟩) n cap) := (hb1.cell (p := ⟨p, 2, none⟩) hpl).trans c2
               have HBr0 : Hid (Below w.heap.size w wr) := ⟨hb1⟩
               have HXr0 : Hid (Row wr w.heap.size #[.int .i64 s1, .int .i64 s2']) := ⟨hX⟩
               clear hcon hb' hb1 hX)
  have hF0 : F = F0 := by rw [HF.out, hjf]
  subst hF0
  rw [hn] at hFl
  rw [← Hbx.out] at HXr0 ⊢
  have hstart : Hid (0 + (jgo (l.drop (F + 0)) (s1, s2')).1 = (jgo (l.drop F) (s1, s2')).1 ∧ (jgo (l.drop (F + 0)) (s1, s2')).2 = (jgo (l.drop F) (s1, s2')).2) := ⟨by simp⟩
  rename World => wq0
  clear d2 c2
  go_loopg [5] n (fun gg s5 wq => ∃ (kk : Nat) (sa sb : Int), F + kk ≤ n ∧ n - (F + kk) ≤ gg ∧ s5 = .int .i64 ((F : Int) + (kk : Int)) ∧ Hid (Below w.heap.size w wq) ∧ Hid (Row wq bx #[.int .i64 sa, .int .i64 sb]) ∧ Hid (kk + (jgo (l.drop (F + kk)) (sa, sb)).1 = (jgo (l.drop F) (s1, s2')).1 ∧ (jgo (l.drop (F + kk)) (sa, sb)).2 = (jgo (l.drop F) (s1, s2')).2))
  case atStart => exact ⟨0, s1, s2', by omega, by omega, by simp, HBr0, HXr0, hstart⟩
  case round =>
    clear HBr0 HXr0 hstart
    obtain ⟨kk, sa, sb, hkn, hg, rfl, HBq, HXq, HJ⟩ := hrel
    rename World => wq
    obtain ⟨T, hT⟩ : ∃ T, F + kk = T := ⟨_, rfl⟩
    have hTi : (F : Int) + (kk : Int) = (T : Int) := by omega
    rw [hTi]
    have hplq : p < wq.heap.size := Nat.lt_of_lt_of_le hpl HBq.out.size
    have HPq : Hid (wq.heap[p]? = some (.cells #[.int .i64 A, .int .i64 B, .slice (some ⟨b, 0, none⟩) n cap] 62 (0, 0))) := ⟨by rw [HBq.out.block p hpl]; exact HPw.out⟩
    have d2 : wq.cell? ⟨p, 2, none⟩ = some (.slice (some ⟨b, 0, none⟩) n cap) := (cells_row HPq.out).2.2
    have x0 : wq.cell? ⟨bx, 0, none⟩ = some (.int .i64 sa) := HXq.out.cell 0
    have x1 : wq.cell? ⟨bx, 1, none⟩ = some (.int .i64 sb) := HXq.out.cell 1
    have hFT : F ≤ T := by omega
    by_cases hlt : T < n
    · have hltz : (T : Int) < (n : Int) := by omega
      have hdl : decide ((T : Int) < (n : Int)) = true := by simp; omega
      have hsp := (HSP.out.below HBq.out).2.2.2 T (by omega)
      obtain ⟨xa, xb, hx⟩ : ∃ xa xb, l.getD T default = (xa, xb) := ⟨_, _, rfl⟩
      rw [hx] at hsp
      have k0 : wq.cell? ⟨b, T * 2, none⟩ = some (.int .i64 xa) := hsp.1
      have k1 : wq.cell? ⟨b, T * 2 + 1, none⟩ = some (.int .i64 xb) := hsp.2
      have HX : Hid (l.getD T default = (xa, xb)) := ⟨hx⟩
      clear hsp hx
      by_cases hle : xa ≤ sb
      · have hdle : decide (xa ≤ sb) = true := by simp; omega
        have hwith := fun W => with_any (sa, sb) (xa, xb) W
        unfold sp at hwith
        simp only at hwith
        go_wp2
        go_quiet (fail)
        go_wp2
        go_region_with (go_at_call 45
                        refine (hwith _).mono ?_
                        rintro e w2 ⟨rfl, hb2⟩
                        have hbq2 : Below wq.heap.size wq w2 := ⟨hb2.os, hb2.tape, hb2.output, hb2.size, hb2.block⟩
                        have hX2 : Row w2 bx #[.int .i64 sa, .int .i64 sb] := HXq.out.below hbq2
                        have y0 : w2.cell? ⟨bx, 0, none⟩ = some (.int .i64 sa) := hX2.cell 0
                        have y1 : w2.cell? ⟨bx, 1, none⟩ = some (.int .i64 sb) := hX2.cell 1
                        have z0 := hX2.frozen 0
                        have z1 := hX2.frozen 1
                        have HX2 : Hid (Row w2 bx #[.int .i64 sa, .int .i64 sb]) := ⟨hX2⟩
                        have HB2 : Hid (Below w.heap.size w w2) := ⟨HBq.out.trans (hbq2.mono HBq.out.size)⟩
                        clear hb2 hbq2 hX2 hwith)
        all_goals go_wp2
        all_goals go_roundg (n - (T + 1))
        all_goals first
          | (show n - (T + 1) < _; omega)
          | (have hst := jgo_step l F kk (sa, sb) (by omega) (by rw [hT, HX.out]; exact hle)
             rw [hT, HX.out] at hst
             simp only at hst
             have hj := HJ.out
             rw [hT, hst] at hj
             refine ⟨kk + 1, min sa xa, max sb xb, by omega, by omega, by rw [← hTi]; go_num, ?_, ?_, ?_⟩
             · exact ⟨(HB2.out.setCell (by rw [Hbx.out]; exact Nat.le_refl _) _).setCell (by rw [Hbx.out]; exact Nat.le_refl _) _⟩
             · exact ⟨(HX2.out.set 0 _).set 1 _⟩
             · exact ⟨by simp only at hj; omega, hj.2⟩)
      · have hdle : decide (xa ≤ sb) = false := by simp; omega
        go_wp2
        go_quiet (fail)
        go_wp2
        have HBr : Hid (Below w.heap.size w (wq.drewN nq)) := ⟨⟨HBq.out.os, HBq.out.tape, HBq.out.output, HBq.out.size, HBq.out.block⟩⟩
        have HXr : Hid (Row (wq.drewN nq) bx #[.int .i64 sa, .int .i64 sb]) := ⟨HXq.out⟩
        generalize wq.drewN nq = wr at HBr HXr ⊢
        clear HBq HXq d2 x0 x1 k0 k1
        have HLf : l.take F ++ [(sa, sb)] ++ l.drop T = L' := by
          have hst := jgo_stop l F kk (sa, sb) (.inr (by rw [hT, HX.out]; simp; omega))
          have hj := HJ.out
          rw [hst] at hj
          simp only [Nat.add_zero] at hj
          rw [HL'.out, joined, show jfrom l (s1, s2').1 = F from HF.out.symm, ← hj.1, ← hj.2, hT]
        have hTn : T ≤ n := by omega
        have hplr : p < wr.heap.size := Nat.lt_of_lt_of_le hpl HBr.out.size
        have HPr : Hid (wr.heap[p]? = some (.cells #[.int .i64 A, .int .i64 B, .slice (some ⟨b, 0, none⟩) n cap] 62 (0, 0))) := ⟨by rw [HBr.out.block p hpl]; exact HPw.out⟩
        have hs2 : wr.cell? ⟨p, 2, none⟩ = some (.slice (some ⟨b, 0, none⟩) n cap) := (cells_row HPr.out).2.2
        have hx0 : wr.cell? ⟨bx, 0, none⟩ = some (.int .i64 sa) := HXr.out.cell 0
        have hx1 : wr.cell? ⟨bx, 1, none⟩ = some (.int .i64 sb) := HXr.out.cell 1
        have hbxl : bx < wr.heap.size := HXr.out.lt
        have npr : p ≠ wr.heap.size := by omega
        have nbx : bx ≠ wr.heap.size := by omega
        have HBs : Hid (Below wr.heap.size wr (wr.drew.alloc (.cells #[.int .i64 sa, .int .i64 sb] 57))) := ⟨((Below.refl _ wr).drew).alloc (Nat.le_refl _) _⟩
        have hRr : RowOf (wr.drew.alloc (.cells #[.int .i64 sa, .int .i64 sb] 57)) b n cap C l := (HR.out.below HBr.out).below HBs.out
        have hnew : Row (wr.drew.alloc (.cells #[.int .i64 sa, .int .i64 sb] 57)) wr.heap.size #[.int .i64 sa, .int .i64 sb] := heap_alloc_new wr.drew _
        have hspn : SpAt (wr.drew.alloc (.cells #[.int .i64 sa, .int .i64 sb] 57)) wr.heap.size 1 [(sa, sb)] := ⟨by simp, by simp, hnew.lt, fun j hj => by
          obtain rfl : j = 0 := by simp at hj; omega
          exact ⟨hnew.cell 0, hnew.cell 1⟩⟩
        have hcon2 := replace_any b n cap wr.heap.size 1 F T C l [(sa, sb)] _ hRr _ hspn hnew (by simp) (by have := hRr.row.lt; have := (HR.out.below HBr.out).row.lt; omega) hFT hTn (.inr (by simp)) (by simp; omega)
        rw [show l.take F ++ [(sa, sb)] ++ l.drop T = L' from HLf] at hcon2
        clear hRr hspn hnew
        refine wp_region_any (by kernel_rfl) ?_
        change wpAny _ _ _ _ _ _ _ (World.drew _)
        refine wpAny_take (i := 0) (v := .pointer (some ⟨p, 0, none⟩)) rfl (by kernel_rfl) (by kernel_rfl) (by kernel_rfl) (fun _ _ _ h => h) (Or.inl ⟨by kernel_rfl, fun _ => by kernel_rfl⟩) ?_
        refine wpAny_take (i := 1) (v := .pointer (some ⟨p, 0, none⟩)) rfl (by kernel_rfl) (by kernel_rfl) (by kernel_rfl) (fun _ _ _ h => h) (Or.inl ⟨by kernel_rfl, fun _ => by kernel_rfl⟩) ?_
        refine wpAny_take (i := 2) (v := .pointer (some ⟨p, 0, none⟩)) rfl (by kernel_rfl) (by kernel_rfl) (by kernel_rfl) (fun _ _ _ h => h) (Or.inl ⟨by kernel_rfl, fun wx => by go_simp⟩) ?_
        refine wpAny_take (i := 3) (v := .pointer (some ⟨p, 2, none⟩)) rfl (by kernel_rfl) (by kernel_rfl) (by kernel_rfl) (fun _ _ _ h => h) (Or.inl ⟨by kernel_rfl, fun wx => by go_simp⟩) ?_
        refine wpAny_take (i := 5) (v := .int .i64 (F : Int)) rfl (by kernel_rfl) (by kernel_rfl) (by kernel_rfl) (fun _ _ _ h => h) (Or.inl ⟨by kernel_rfl, fun _ => by kernel_rfl⟩) ?_
        refine wpAny_take (i := 6) (v := .int .i64 (T : Int)) rfl (by kernel_rfl) (by kernel_rfl) (by kernel_rfl) (fun _ _ _ h => h) (Or.inl ⟨by kernel_rfl, fun _ => by kernel_rfl⟩) ?_
        refine wpAny_ready (rs := [4, 7]) (by kernel_rfl) (by simp) (AllReady.cons rfl (fun K hK => ?_) (AllReady.cons rfl (fun K hK => ?_) AllReady.nil))
        · go_simp
          refine hK _ _ ?_
          clear hK
          refine wpAny_ready (rs := [7]) (by kernel_rfl) (by simp) (AllReady.cons rfl (fun K hK => ?_) AllReady.nil)
          go_simp
          refine hK _ _ ?_
          clear hK
          refine wpAny_ready (rs := [8]) (by kernel_rfl) (by simp) (AllReady.cons rfl (fun K hK => ?_) AllReady.nil)
          go_simp
          refine hK _ _ ?_
          clear hK
          refine wpAny_ready (rs := [9]) (by kernel_rfl) (by simp) (AllReady.cons rfl (fun K hK => ?_) AllReady.nil)
          go_simp
          refine hcon2.mono ?_
          rintro e w3 ⟨g', cap', C', rfl, hF3, hg3, hd3⟩
          have hp3 : w3.heap[p]? = some (.cells #[.int .i64 A, .int .i64 B, .slice (some ⟨b, 0, none⟩) n cap] 62 (0, 0)) := by
            have e1 := hg3.block p (Nat.lt_of_lt_of_le hplr HBs.out.size) (by simp; omega)
            rw [e1, HBs.out.block p hplr]
            exact HPr.out
          have s3 : w3.cell? ⟨p, 2, none⟩ = some (.slice (some ⟨b, 0, none⟩) n cap) := (cells_row hp3).2.2
          have f3 : w3.frozen? ⟨p, 2, none⟩ = false := frozen_of_row w3 p 2 _ 62 hp3
          have HP3 : Hid (w3.heap[p]? = some (.cells #[.int .i64 A, .int .i64 B, .slice (some ⟨b, 0, none⟩) n cap] 62 (0, 0))) := ⟨hp3⟩
          have HF3 : Hid (RowOf w3 g' L'.length cap' C' L') := ⟨hF3⟩
          have hpg : p ≠ g' := by
            rcases hd3 with h | h
            · omega
            · have := HBs.out.size; omega
          have hbg : base ≤ g' := by
            rcases hd3 with h | h
            · omega
            · have := HBs.out.size; have := HBr.out.size; omega
          have HD3 : Hid (g' = b ∨ w.heap.size ≤ g') := ⟨by
            rcases hd3 with h | h
            · exact .inl h
            · have := HBs.out.size; have := HBr.out.size; exact .inr (by omega)⟩
          have HK3 : Hid (∀ k, k < w.heap.size → k ≠ b → w3.heap[k]? = w.heap[k]?) := ⟨fun k hk hkb => ((hg3.block k (by have := HBs.out.size; have := HBr.out.size; omega) (by simpa using hkb)).trans (HBs.out.block k (Nat.lt_of_lt_of_le hk HBr.out.size))).trans (HBr.out.block k hk)⟩
          have hB3 : Hid (Below base w w3) := ⟨below_of_grown ((HBr.out.trans (HBs.out.mono HBr.out.size)).mono hbs) hg3 hbb hbs⟩
          refine hK _ _ ?_
          clear hK hp3 hF3 hg3 hcon2
          refine wpAny_take (i := 10) (v := .pointer (some ⟨p, 0, none⟩)) rfl (by kernel_rfl) (by kernel_rfl) (by kernel_rfl) (fun _ _ _ h => h) (Or.inl ⟨by kernel_rfl, fun wx => by go_simp⟩) ?_
          refine wpAny_take (i := 11) (v := .pointer (some ⟨p, 2, none⟩)) rfl (by kernel_rfl) (by kernel_rfl) (by kernel_rfl) (fun _ _ _ h => h) (Or.inl ⟨by kernel_rfl, fun wx => by go_simp⟩) ?_
          refine wpAny_ready (rs := [12]) (by kernel_rfl) (by simp) (AllReady.cons rfl (fun K hK => ?_) AllReady.nil)
          go_simp
          refine hK _ _ ?_
          clear hK
          refine wpAny_done (by kernel_rfl) ?_ _
          go_wp2
          go_returns
          refine ⟨rfl, ⟨g', cap', ⟨cells_set3 HP3.out, ?_, HF3.out.n5, HM.out.pb, hpg⟩, HD3.out⟩, hB3.out.setCell HM.out.pb _, fun k hk hkp hkb => (heap_setCell_other w3 ⟨p, 2, none⟩ k _ hkp).trans (HK3.out k hk hkb)⟩
          have hF4 : RowOf (w3.setCell ⟨p, 2, none⟩ (.slice (some ⟨g', 0, none⟩) L'.length cap')) g' L'.length cap' C' L' := ⟨(heap_setCell_other w3 ⟨p, 2, none⟩ g' _ (Ne.symm hpg)).trans HF3.out.row, HF3.out.size, HF3.out.take, HF3.out.len, HF3.out.room, HF3.out.big, HF3.out.n5⟩
          exact hF4.own hbg
        · go_simp
          refine hK _ _ ?_
          clear hK
          refine wpAny_ready (rs := [4, 8]) (by kernel_rfl) (by simp) (AllReady.cons rfl (fun K hK => ?_) (AllReady.cons rfl (fun K hK => ?_) AllReady.nil))
          · go_simp
            refine hK _ _ ?_
            clear hK
            refine wpAny_ready (rs := [8]) (by kernel_rfl) (by simp) (AllReady.cons rfl (fun K hK => ?_) AllReady.nil)
            go_simp
            refine hK _ _ ?_
            clear hK
            refine wpAny_ready (rs := [9]) (by kernel_rfl) (by simp) (AllReady.cons rfl (fun K hK => ?_) AllReady.nil)
            go_simp
            refine hcon2.mono ?_
            rintro e w3 ⟨g', cap', C', rfl, hF3, hg3, hd3⟩
            have hp3 : w3.heap[p]? = some (.cells #[.int .i64 A, .int .i64 B, .slice (some ⟨b, 0, none⟩) n cap] 62 (0, 0)) := by
              have e1 := hg3.block p (Nat.lt_of_lt_of_le hplr HBs.out.size) (by simp; omega)
              rw [e1, HBs.out.block p hplr]
              exact HPr.out
            have s3 : w3.cell? ⟨p, 2, none⟩ = some (.slice (some ⟨b, 0, none⟩) n cap) := (cells_row hp3).2.2
            have f3 : w3.frozen? ⟨p, 2, none⟩ = false := frozen_of_row w3 p 2 _ 62 hp3
            have HP3 : Hid (w3.heap[p]? = some (.cells #[.int .i64 A, .int .i64 B, .slice (some ⟨b, 0, none⟩) n cap] 62 (0, 0))) := ⟨hp3⟩
            have HF3 : Hid (RowOf w3 g' L'.length cap' C' L') := ⟨hF3⟩
            have hpg : p ≠ g' := by
              rcases hd3 with h | h
              · omega
              · have := HBs.out.size; omega
            have hbg : base ≤ g' := by
              rcases hd3 with h | h
              · omega
              · have := HBs.out.size; have := HBr.out.size; omega
            have HD3 : Hid (g' = b ∨ w.heap.size ≤ g') := ⟨by
              rcases hd3 with h | h
              · exact .inl h
              · have := HBs.out.size; have := HBr.out.size; exact .inr (by omega)⟩
            have HK3 : Hid (∀ k, k < w.heap.size → k ≠ b → w3.heap[k]? = w.heap[k]?) := ⟨fun k hk hkb => ((hg3.block k (by have := HBs.out.size; have := HBr.out.size; omega) (by simpa using hkb)).trans (HBs.out.block k (Nat.lt_of_lt_of_le hk HBr.out.size))).trans (HBr.out.block k hk)⟩
            have hB3 : Hid (Below base w w3) := ⟨below_of_grown ((HBr.out.trans (HBs.out.mono HBr.out.size)).mono hbs) hg3 hbb hbs⟩
            refine hK _ _ ?_
            clear hK hp3 hF3 hg3 hcon2
            refine wpAny_take (i := 10) (v := .pointer (some ⟨p, 0, none⟩)) rfl (by kernel_rfl) (by kernel_rfl) (by kernel_rfl) (fun _ _ _ h => h) (Or.inl ⟨by kernel_rfl, fun wx => by go_simp⟩) ?_
            refine wpAny_take (i := 11) (v := .pointer (some ⟨p, 2, none⟩)) rfl (by kernel_rfl) (by kernel_rfl) (by kernel_rfl) (fun _ _ _ h => h) (Or.inl ⟨by kernel_rfl, fun wx => by go_simp⟩) ?_
            refine wpAny_ready (rs := [12]) (by kernel_rfl) (by simp) (AllReady.cons rfl (fun K hK => ?_) AllReady.nil)
            go_simp
            refine hK _ _ ?_
            clear hK
            refine wpAny_done (by kernel_rfl) ?_ _
            go_wp2
            go_returns
            refine ⟨rfl, ⟨g', cap', ⟨cells_set3 HP3.out, ?_, HF3.out.n5, HM.out.pb, hpg⟩, HD3.out⟩, hB3.out.setCell HM.out.pb _, fun k hk hkp hkb => (heap_setCell_other w3 ⟨p, 2, none⟩ k _ hkp).trans (HK3.out k hk hkb)⟩
            have hF4 : RowOf (w3.setCell ⟨p, 2, none⟩ (.slice (some ⟨g', 0, none⟩) L'.length cap')) g' L'.length cap' C' L' := ⟨(heap_setCell_other w3 ⟨p, 2, none⟩ g' _ (Ne.symm hpg)).trans HF3.out.row, HF3.out.size, HF3.out.take, HF3.out.len, HF3.out.room, HF3.out.big, HF3.out.n5⟩
            exact hF4.own hbg
          · go_simp
            refine hK _ _ ?_
            clear hK
            refine wpAny_ready (rs := [4]) (by kernel_rfl) (by simp) (AllReady.cons rfl (fun K hK => ?_) AllReady.nil)
            go_simp
            refine hK _ _ ?_
            clear hK
            refine wpAny_ready (rs := [9]) (by kernel_rfl) (by simp) (AllReady.cons rfl (fun K hK => ?_) AllReady.nil)
            go_simp
            refine hcon2.mono ?_
            rintro e w3 ⟨g', cap', C', rfl, hF3, hg3, hd3⟩
            have hp3 : w3.heap[p]? = some (.cells #[.int .i64 A, .int .i64 B, .slice (some ⟨b, 0, none⟩) n cap] 62 (0, 0)) := by
              have e1 := hg3.block p (Nat.lt_of_lt_of_le hplr HBs.out.size) (by simp; omega)
              rw [e1, HBs.out.block p hplr]
              exact HPr.out
            have s3 : w3.cell? ⟨p, 2, none⟩ = some (.slice (some ⟨b, 0, none⟩) n cap) := (cells_row hp3).2.2
            have f3 : w3.frozen? ⟨p, 2, none⟩ = false := frozen_of_row w3 p 2 _ 62 hp3
            have HP3 : Hid (w3.heap[p]? = some (.cells #[.int .i64 A, .int .i64 B, .slice (some ⟨b, 0, none⟩) n cap] 62 (0, 0))) := ⟨hp3⟩
            have HF3 : Hid (RowOf w3 g' L'.length cap' C' L') := ⟨hF3⟩
            have hpg : p ≠ g' := by
              rcases hd3 with h | h
              · omega
              · have := HBs.out.size; omega
            have hbg : base ≤ g' := by
              rcases hd3 with h | h
              · omega
              · have := HBs.out.size; have := HBr.out.size; omega
            have HD3 : Hid (g' = b ∨ w.heap.size ≤ g') := ⟨by
              rcases hd3 with h | h
              · exact .inl h
              · have := HBs.out.size; have := HBr.out.size; exact .inr (by omega)⟩
            have HK3 : Hid (∀ k, k < w.heap.size → k ≠ b → w3.heap[k]? = w.heap[k]?) := ⟨fun k hk hkb => ((hg3.block k (by have := HBs.out.size; have := HBr.out.size; omega) (by simpa using hkb)).trans (HBs.out.block k (Nat.lt_of_lt_of_le hk HBr.out.size))).trans (HBr.out.block k hk)⟩
            have hB3 : Hid (Below base w w3) := ⟨below_of_grown ((HBr.out.trans (HBs.out.mono HBr.out.size)).mono hbs) hg3 hbb hbs⟩
            refine hK _ _ ?_
            clear hK hp3 hF3 hg3 hcon2
            refine wpAny_take (i := 10) (v := .pointer (some ⟨p, 0, none⟩)) rfl (by kernel_rfl) (by kernel_rfl) (by kernel_rfl) (fun _ _ _ h => h) (Or.inl ⟨by kernel_rfl, fun wx => by go_simp⟩) ?_
            refine wpAny_take (i := 11) (v := .pointer (some ⟨p, 2, none⟩)) rfl (by kernel_rfl) (by kernel_rfl) (by kernel_rfl) (fun _ _ _ h => h) (Or.inl ⟨by kernel_rfl, fun wx => by go_simp⟩) ?_
            refine wpAny_ready (rs := [12]) (by kernel_rfl) (by simp) (AllReady.cons rfl (fun K hK => ?_) AllReady.nil)
            go_simp
            refine hK _ _ ?_
            clear hK
            refine wpAny_done (by kernel_rfl) ?_ _
            go_wp2
            go_returns
            refine ⟨rfl, ⟨g', cap', ⟨cells_set3 HP3.out, ?_, HF3.out.n5, HM.out.pb, hpg⟩, HD3.out⟩, hB3.out.setCell HM.out.pb _, fun k hk hkp hkb => (heap_setCell_other w3 ⟨p, 2, none⟩ k _ hkp).trans (HK3.out k hk hkb)⟩
            have hF4 : RowOf (w3.setCell ⟨p, 2, none⟩ (.slice (some ⟨g', 0, none⟩) L'.length cap')) g' L'.length cap' C' L' := ⟨(heap_setCell_other w3 ⟨p, 2, none⟩ g' _ (Ne.symm hpg)).trans HF3.out.row, HF3.out.size, HF3.out.take, HF3.out.len, HF3.out.room, HF3.out.big, HF3.out.n5⟩
            exact hF4.own hbg
    · have hdl : decide ((T : Int) < (n : Int)) = false := by simp; omega
      go_wp2
      go_quiet (fail)
      go_wp2
      have HBr : Hid (Below w.heap.size w (wq.drewN nq)) := ⟨⟨HBq.out.os, HBq.out.tape, HBq.out.output, HBq.out.size, HBq.out.block⟩⟩
      have HXr : Hid (Row (wq.drewN nq) bx #[.int .i64 sa, .int .i64 sb]) := ⟨HXq.out⟩
      generalize wq.drewN nq = wr at HBr HXr ⊢
      clear HBq HXq d2 x0 x1
      have HLf : l.take F ++ [(sa, sb)] ++ l.drop T = L' := by
        have hst := jgo_stop l F kk (sa, sb) (.inl (by omega))
        have hj := HJ.out
        rw [hst] at hj
        simp only [Nat.add_zero] at hj
        rw [HL'.out, joined, show jfrom l (s1, s2').1 = F from HF.out.symm, ← hj.1, ← hj.2, hT]
      have hTn : T ≤ n := by omega
      have hplr : p < wr.heap.size := Nat.lt_of_lt_of_le hpl HBr.out.size
      have HPr : Hid (wr.heap[p]? = some (.cells #[.int .i64 A, .int .i64 B, .slice (some ⟨b, 0, none⟩) n cap] 62 (0, 0))) := ⟨by rw [HBr.out.block p hpl]; exact HPw.out⟩
      have hs2 : wr.cell? ⟨p, 2, none⟩ = some (.slice (some ⟨b, 0, none⟩) n cap) := (cells_row HPr.out).2.2
      have hx0 : wr.cell? ⟨bx, 0, none⟩ = some (.int .i64 sa) := HXr.out.cell 0
      have hx1 : wr.cell? ⟨bx, 1, none⟩ = some (.int .i64 sb) := HXr.out.cell 1
      have hbxl : bx < wr.heap.size := HXr.out.lt
      have npr : p ≠ wr.heap.size := by omega
      have nbx : bx ≠ wr.heap.size := by omega
      have HBs : Hid (Below wr.heap.size wr (wr.drew.alloc (.cells #[.int .i64 sa, .int .i64 sb] 57))) := ⟨((Below.refl _ wr).drew).alloc (Nat.le_refl _) _⟩
      have hRr : RowOf (wr.drew.alloc (.cells #[.int .i64 sa, .int .i64 sb] 57)) b n cap C l := (HR.out.below HBr.out).below HBs.out
      have hnew : Row (wr.drew.alloc (.cells #[.int .i64 sa, .int .i64 sb] 57)) wr.heap.size #[.int .i64 sa, .int .i64 sb] := heap_alloc_new wr.drew _
      have hspn : SpAt (wr.drew.alloc (.cells #[.int .i64 sa, .int .i64 sb] 57)) wr.heap.size 1 [(sa, sb)] := ⟨by simp, by simp, hnew.lt, fun j hj => by
        obtain rfl : j = 0 := by simp at hj; omega
        exact ⟨hnew.cell 0, hnew.cell 1⟩⟩
      have hcon2 := replace_any b n cap wr.heap.size 1 F T C l [(sa, sb)] _ hRr _ hspn hnew (by simp) (by have := hRr.row.lt; have := (HR.out.below HBr.out).row.lt; omega) hFT hTn (.inr (by simp)) (by simp; omega)
      rw [show l.take F ++ [(sa, sb)] ++ l.drop T = L' from HLf] at hcon2
      clear hRr hspn hnew
      refine wp_region_any (by kernel_rfl) ?_
      change wpAny _ _ _ _ _ _ _ (World.drew _)
      refine wpAny_take (i := 0) (v := .pointer (some ⟨p, 0, none⟩)) rfl (by kernel_rfl) (by kernel_rfl) (by kernel_rfl) (fun _ _ _ h => h) (Or.inl ⟨by kernel_rfl, fun _ => by kernel_rfl⟩) ?_
      refine wpAny_take (i := 1) (v := .pointer (some ⟨p, 0, none⟩)) rfl (by kernel_rfl) (by kernel_rfl) (by kernel_rfl) (fun _ _ _ h => h) (Or.inl ⟨by kernel_rfl, fun _ => by kernel_rfl⟩) ?_
      refine wpAny_take (i := 2) (v := .pointer (some ⟨p, 0, none⟩)) rfl (by kernel_rfl) (by kernel_rfl) (by kernel_rfl) (fun _ _ _ h => h) (Or.inl ⟨by kernel_rfl, fun wx => by go_simp⟩) ?_
      refine wpAny_take (i := 3) (v := .pointer (some ⟨p, 2, none⟩)) rfl (by kernel_rfl) (by kernel_rfl) (by kernel_rfl) (fun _ _ _ h => h) (Or.inl ⟨by kernel_rfl, fun wx => by go_simp⟩) ?_
      refine wpAny_take (i := 5) (v := .int .i64 (F : Int)) rfl (by kernel_rfl) (by kernel_rfl) (by kernel_rfl) (fun _ _ _ h => h) (Or.inl ⟨by kernel_rfl, fun _ => by kernel_rfl⟩) ?_
      refine wpAny_take (i := 6) (v := .int .i64 (T : Int)) rfl (by kernel_rfl) (by kernel_rfl) (by kernel_rfl) (fun _ _ _ h => h) (Or.inl ⟨by kernel_rfl, fun _ => by kernel_rfl⟩) ?_
      refine wpAny_ready (rs := [4, 7]) (by kernel_rfl) (by simp) (AllReady.cons rfl (fun K hK => ?_) (AllReady.cons rfl (fun K hK => ?_) AllReady.nil))
      · go_simp
        refine hK _ _ ?_
        clear hK
        refine wpAny_ready (rs := [7]) (by kernel_rfl) (by simp) (AllReady.cons rfl (fun K hK => ?_) AllReady.nil)
        go_simp
        refine hK _ _ ?_
        clear hK
        refine wpAny_ready (rs := [8]) (by kernel_rfl) (by simp) (AllReady.cons rfl (fun K hK => ?_) AllReady.nil)
        go_simp
        refine hK _ _ ?_
        clear hK
        refine wpAny_ready (rs := [9]) (by kernel_rfl) (by simp) (AllReady.cons rfl (fun K hK => ?_) AllReady.nil)
        go_simp
        refine hcon2.mono ?_
        rintro e w3 ⟨g', cap', C', rfl, hF3, hg3, hd3⟩
        have hp3 : w3.heap[p]? = some (.cells #[.int .i64 A, .int .i64 B, .slice (some ⟨b, 0, none⟩) n cap] 62 (0, 0)) := by
          have e1 := hg3.block p (Nat.lt_of_lt_of_le hplr HBs.out.size) (by simp; omega)
          rw [e1, HBs.out.block p hplr]
          exact HPr.out
        have s3 : w3.cell? ⟨p, 2, none⟩ = some (.slice (some ⟨b, 0, none⟩) n cap) := (cells_row hp3).2.2
        have f3 : w3.frozen? ⟨p, 2, none⟩ = false := frozen_of_row w3 p 2 _ 62 hp3
        have HP3 : Hid (w3.heap[p]? = some (.cells #[.int .i64 A, .int .i64 B, .slice (some ⟨b, 0, none⟩) n cap] 62 (0, 0))) := ⟨hp3⟩
        have HF3 : Hid (RowOf w3 g' L'.length cap' C' L') := ⟨hF3⟩
        have hpg : p ≠ g' := by
          rcases hd3 with h | h
          · omega
          · have := HBs.out.size; omega
        have hbg : base ≤ g' := by
          rcases hd3 with h | h
          · omega
          · have := HBs.out.size; have := HBr.out.size; omega
        have HD3 : Hid (g' = b ∨ w.heap.size ≤ g') := ⟨by
          rcases hd3 with h | h
          · exact .inl h
          · have := HBs.out.size; have := HBr.out.size; exact .inr (by omega)⟩
        have HK3 : Hid (∀ k, k < w.heap.size → k ≠ b → w3.heap[k]? = w.heap[k]?) := ⟨fun k hk hkb => ((hg3.block k (by have := HBs.out.size; have := HBr.out.size; omega) (by simpa using hkb)).trans (HBs.out.block k (Nat.lt_of_lt_of_le hk HBr.out.size))).trans (HBr.out.block k hk)⟩
        have hB3 : Hid (Below base w w3) := ⟨below_of_grown ((HBr.out.trans (HBs.out.mono HBr.out.size)).mono hbs) hg3 hbb hbs⟩
        refine hK _ _ ?_
        clear hK hp3 hF3 hg3 hcon2
        refine wpAny_take (i := 10) (v := .pointer (some ⟨p, 0, none⟩)) rfl (by kernel_rfl) (by kernel_rfl) (by kernel_rfl) (fun _ _ _ h => h) (Or.inl ⟨by kernel_rfl, fun wx => by go_simp⟩) ?_
        refine wpAny_take (i := 11) (v := .pointer (some ⟨p, 2, none⟩)) rfl (by kernel_rfl) (by kernel_rfl) (by kernel_rfl) (fun _ _ _ h => h) (Or.inl ⟨by kernel_rfl, fun wx => by go_simp⟩) ?_
        refine wpAny_ready (rs := [12]) (by kernel_rfl) (by simp) (AllReady.cons rfl (fun K hK => ?_) AllReady.nil)
        go_simp
        refine hK _ _ ?_
        clear hK
        refine wpAny_done (by kernel_rfl) ?_ _
        go_wp2
        go_returns
        refine ⟨rfl, ⟨g', cap', ⟨cells_set3 HP3.out, ?_, HF3.out.n5, HM.out.pb, hpg⟩, HD3.out⟩, hB3.out.setCell HM.out.pb _, fun k hk hkp hkb => (heap_setCell_other w3 ⟨p, 2, none⟩ k _ hkp).trans (HK3.out k hk hkb)⟩
        have hF4 : RowOf (w3.setCell ⟨p, 2, none⟩ (.slice (some ⟨g', 0, none⟩) L'.length cap')) g' L'.length cap' C' L' := ⟨(heap_setCell_other w3 ⟨p, 2, none⟩ g' _ (Ne.symm hpg)).trans HF3.out.row, HF3.out.size, HF3.out.take, HF3.out.len, HF3.out.room, HF3.out.big, HF3.out.n5⟩
        exact hF4.own hbg
      · go_simp
        refine hK _ _ ?_
        clear hK
        refine wpAny_ready (rs := [4, 8]) (by kernel_rfl) (by simp) (AllReady.cons rfl (fun K hK => ?_) (AllReady.cons rfl (fun K hK => ?_) AllReady.nil))
        · go_simp
          refine hK _ _ ?_
          clear hK
          refine wpAny_ready (rs := [8]) (by kernel_rfl) (by simp) (AllReady.cons rfl (fun K hK => ?_) AllReady.nil)
          go_simp
          refine hK _ _ ?_
          clear hK
          refine wpAny_ready (rs := [9]) (by kernel_rfl) (by simp) (AllReady.cons rfl (fun K hK => ?_) AllReady.nil)
          go_simp
          refine hcon2.mono ?_
          rintro e w3 ⟨g', cap', C', rfl, hF3, hg3, hd3⟩
          have hp3 : w3.heap[p]? = some (.cells #[.int .i64 A, .int .i64 B, .slice (some ⟨b, 0, none⟩) n cap] 62 (0, 0)) := by
            have e1 := hg3.block p (Nat.lt_of_lt_of_le hplr HBs.out.size) (by simp; omega)
            rw [e1, HBs.out.block p hplr]
            exact HPr.out
          have s3 : w3.cell? ⟨p, 2, none⟩ = some (.slice (some ⟨b, 0, none⟩) n cap) := (cells_row hp3).2.2
          have f3 : w3.frozen? ⟨p, 2, none⟩ = false := frozen_of_row w3 p 2 _ 62 hp3
          have HP3 : Hid (w3.heap[p]? = some (.cells #[.int .i64 A, .int .i64 B, .slice (some ⟨b, 0, none⟩) n cap] 62 (0, 0))) := ⟨hp3⟩
          have HF3 : Hid (RowOf w3 g' L'.length cap' C' L') := ⟨hF3⟩
          have hpg : p ≠ g' := by
            rcases hd3 with h | h
            · omega
            · have := HBs.out.size; omega
          have hbg : base ≤ g' := by
            rcases hd3 with h | h
            · omega
            · have := HBs.out.size; have := HBr.out.size; omega
          have HD3 : Hid (g' = b ∨ w.heap.size ≤ g') := ⟨by
            rcases hd3 with h | h
            · exact .inl h
            · have := HBs.out.size; have := HBr.out.size; exact .inr (by omega)⟩
          have HK3 : Hid (∀ k, k < w.heap.size → k ≠ b → w3.heap[k]? = w.heap[k]?) := ⟨fun k hk hkb => ((hg3.block k (by have := HBs.out.size; have := HBr.out.size; omega) (by simpa using hkb)).trans (HBs.out.block k (Nat.lt_of_lt_of_le hk HBr.out.size))).trans (HBr.out.block k hk)⟩
          have hB3 : Hid (Below base w w3) := ⟨below_of_grown ((HBr.out.trans (HBs.out.mono HBr.out.size)).mono hbs) hg3 hbb hbs⟩
          refine hK _ _ ?_
          clear hK hp3 hF3 hg3 hcon2
          refine wpAny_take (i := 10) (v := .pointer (some ⟨p, 0, none⟩)) rfl (by kernel_rfl) (by kernel_rfl) (by kernel_rfl) (fun _ _ _ h => h) (Or.inl ⟨by kernel_rfl, fun wx => by go_simp⟩) ?_
          refine wpAny_take (i := 11) (v := .pointer (some ⟨p, 2, none⟩)) rfl (by kernel_rfl) (by kernel_rfl) (by kernel_rfl) (fun _ _ _ h => h) (Or.inl ⟨by kernel_rfl, fun wx => by go_simp⟩) ?_
          refine wpAny_ready (rs := [12]) (by kernel_rfl) (by simp) (AllReady.cons rfl (fun K hK => ?_) AllReady.nil)
          go_simp
          refine hK _ _ ?_
          clear hK
          refine wpAny_done (by kernel_rfl) ?_ _
          go_wp2
          go_returns
          refine ⟨rfl, ⟨g', cap', ⟨cells_set3 HP3.out, ?_, HF3.out.n5, HM.out.pb, hpg⟩, HD3.out⟩, hB3.out.setCell HM.out.pb _, fun k hk hkp hkb => (heap_setCell_other w3 ⟨p, 2, none⟩ k _ hkp).trans (HK3.out k hk hkb)⟩
          have hF4 : RowOf (w3.setCell ⟨p, 2, none⟩ (.slice (some ⟨g', 0, none⟩) L'.length cap')) g' L'.length cap' C' L' := ⟨(heap_setCell_other w3 ⟨p, 2, none⟩ g' _ (Ne.symm hpg)).trans HF3.out.row, HF3.out.size, HF3.out.take, HF3.out.len, HF3.out.room, HF3.out.big, HF3.out.n5⟩
          exact hF4.own hbg
        · go_simp
          refine hK _ _ ?_
          clear hK
          refine wpAny_ready (rs := [4]) (by kernel_rfl) (by simp) (AllReady.cons rfl (fun K hK => ?_) AllReady.nil)
          go_simp
          refine hK _ _ ?_
          clear hK
          refine wpAny_ready (rs := [9]) (by kernel_rfl) (by simp) (AllReady.cons rfl (fun K hK => ?_) AllReady.nil)
          go_simp
          refine hcon2.mono ?_
          rintro e w3 ⟨g', cap', C', rfl, hF3, hg3, hd3⟩
          have hp3 : w3.heap[p]? = some (.cells #[.int .i64 A, .int .i64 B, .slice (some ⟨b, 0, none⟩) n cap] 62 (0, 0)) := by
            have e1 := hg3.block p (Nat.lt_of_lt_of_le hplr HBs.out.size) (by simp; omega)
            rw [e1, HBs.out.block p hplr]
            exact HPr.out
          have s3 : w3.cell? ⟨p, 2, none⟩ = some (.slice (some ⟨b, 0, none⟩) n cap) := (cells_row hp3).2.2
          have f3 : w3.frozen? ⟨p, 2, none⟩ = false := frozen_of_row w3 p 2 _ 62 hp3
          have HP3 : Hid (w3.heap[p]? = some (.cells #[.int .i64 A, .int .i64 B, .slice (some ⟨b, 0, none⟩) n cap] 62 (0, 0))) := ⟨hp3⟩
          have HF3 : Hid (RowOf w3 g' L'.length cap' C' L') := ⟨hF3⟩
          have hpg : p ≠ g' := by
            rcases hd3 with h | h
            · omega
            · have := HBs.out.size; omega
          have hbg : base ≤ g' := by
            rcases hd3 with h | h
            · omega
            · have := HBs.out.size; have := HBr.out.size; omega
          have HD3 : Hid (g' = b ∨ w.heap.size ≤ g') := ⟨by
            rcases hd3 with h | h
            · exact .inl h
            · have := HBs.out.size; have := HBr.out.size; exact .inr (by omega)⟩
          have HK3 : Hid (∀ k, k < w.heap.size → k ≠ b → w3.heap[k]? = w.heap[k]?) := ⟨fun k hk hkb => ((hg3.block k (by have := HBs.out.size; have := HBr.out.size; omega) (by simpa using hkb)).trans (HBs.out.block k (Nat.lt_of_lt_of_le hk HBr.out.size))).trans (HBr.out.block k hk)⟩
          have hB3 : Hid (Below base w w3) := ⟨below_of_grown ((HBr.out.trans (HBs.out.mono HBr.out.size)).mono hbs) hg3 hbb hbs⟩
          refine hK _ _ ?_
          clear hK hp3 hF3 hg3 hcon2
          refine wpAny_take (i := 10) (v := .pointer (some ⟨p, 0, none⟩)) rfl (by kernel_rfl) (by kernel_rfl) (by kernel_rfl) (fun _ _ _ h => h) (Or.inl ⟨by kernel_rfl, fun wx => by go_simp⟩) ?_
          refine wpAny_take (i := 11) (v := .pointer (some ⟨p, 2, none⟩)) rfl (by kernel_rfl) (by kernel_rfl) (by kernel_rfl) (fun _ _ _ h => h) (Or.inl ⟨by kernel_rfl, fun wx => by go_simp⟩) ?_
          refine wpAny_ready (rs := [12]) (by kernel_rfl) (by simp) (AllReady.cons rfl (fun K hK => ?_) AllReady.nil)
          go_simp
          refine hK _ _ ?_
          clear hK
          refine wpAny_done (by kernel_rfl) ?_ _
          go_wp2
          go_returns
          refine ⟨rfl, ⟨g', cap', ⟨cells_set3 HP3.out, ?_, HF3.out.n5, HM.out.pb, hpg⟩, HD3.out⟩, hB3.out.setCell HM.out.pb _, fun k hk hkp hkb => (heap_setCell_other w3 ⟨p, 2, none⟩ k _ hkp).trans (HK3.out k hk hkb)⟩
          have hF4 : RowOf (w3.setCell ⟨p, 2, none⟩ (.slice (some ⟨g', 0, none⟩) L'.length cap')) g' L'.length cap' C' L' := ⟨(heap_setCell_other w3 ⟨p, 2, none⟩ g' _ (Ne.symm hpg)).trans HF3.out.row, HF3.out.size, HF3.out.take, HF3.out.len, HF3.out.room, HF3.out.big, HF3.out.n5⟩
          exact hF4.own hbg
end Go.Proofs.Ytcmibcmndiplbab
