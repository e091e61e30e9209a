/- The law's do. By ga2.py. -/
import Derived.Test.YtmcikhdfpmkpnaaA1
namespace Go.Proofs.Ytmcikhdfpmkpnaa
open Go.RowKit Go.Maps Go.Sort Go.Shelf

def DoneAt (p g bm q base : Nat) (D : Dk) (ao : Option Addr) (n : Nat) (w wz : World) : Prop := Pair wz p g bm q base D ∧ Mine wz (w.heap.size + 1) ao n ∧ Chg [p, g, bm, q] w wz
theorem Mine.byte {w : World} {B k i n : Nat} {ao : Option Addr} (h : Mine w B ao n) (z : Int) : Mine (w.setCell ⟨k, i, none⟩ (.int .u8 z)) B ao n := by
  intro j hj
  obtain ⟨k', cur, y, rfl, hB, hh, hc⟩ := h j hj
  by_cases e : k' = k
  · subst e
    exact h.put z j hj
  · exact ⟨k', cur, y, rfl, hB, (heap_setCell_other w ⟨k, i, none⟩ k' _ e).trans hh, hc⟩
theorem Mine.lower {w : World} {B B' n : Nat} {ao : Option Addr} (h : Mine w B ao n) (hB : B' ≤ B) : Mine w B' ao n := by
  intro j hj
  obtain ⟨k, cur, y, e, h1, r⟩ := h j hj
  exact ⟨k, cur, y, e, Nat.le_trans hB h1, r⟩
theorem rdB_byt {w : World} {p g bm base : Nat} {d : Dk} (h : At w p g bm base d) (i : Int) : Byt (rdB d i) ∧ (rdB d i).length ≤ 128 := by
  obtain ⟨_, _, _, _, h⟩ := h
  unfold rdB
  split
  · exact ⟨fun x hx => by simp at hx, by simp⟩
  · split
    · have := ok_sec h.ok i.toNat
      unfold now
      cases hs : (sec d.S i.toNat).2 with
      | none => exact ⟨this.1.2, Nat.le_of_eq this.1.1⟩
      | some l => exact ⟨(this.2 l hs).2, Nat.le_of_eq (this.2 l hs).1⟩
    · exact ⟨fun x hx => by simp at hx, by simp⟩
theorem DoneAt.byte {p g bm q base : Nat} {D : Dk} {k n i : Nat} {ao : Option Addr} {w wz : World} {cs : Array Value} (h : DoneAt p g bm q base D ao n w wz) (hk : wz.heap[k]? = some (.cells cs 5 (0, 0))) (hB : w.heap.size + 1 ≤ k) (y : Int) : DoneAt p g bm q base D ao n w (wz.setCell ⟨k, i, none⟩ (.int .u8 y)) :=
  ⟨h.1.byte hk _, h.2.1.byte _, h.2.2.setCell (.inr (show w.heap.size ≤ k by omega)) _⟩

set_option maxRecDepth 8000 in
set_option maxHeartbeats 8000000 in
theorem do_any {w : World} {p g bm q base : Nat} {d : Dk} (h : Pair w p g bm q base d) (hbs : base ≤ w.heap.size) (bv kv : Value) (x : Dd) (hv : DdV w base bv kv x) :
    Calls Try.prog 25 #[.pointer (some ⟨p, 0, none⟩), .pointer (some ⟨q, 0, none⟩), ddV bv kv x] w fun e w' => e = .returned (.bool true) ∧ Pair w' p g bm q base (doD d x) ∧ Chg [p, g, bm, q] w w' := by
  have hB1 : Below w.heap.size w ((w.alloc (.cells #[.int .i64 x.Do, .int .i64 x.N, bv, kv, .int .i64 x.torn, .int .i64 x.at'] 42)).alloc (.cells #[] 5)) := ((Below.refl _ w).alloc (Nat.le_refl _) _).alloc (by simp) _
  have HPa : Hid (Pair w p g bm q base d) := ⟨h⟩
  have HVa : Hid (DdV w base bv kv x) := ⟨hv⟩
  have hbs' := hv.bs.below hB1
  have hown : OwnB ((w.alloc (.cells #[.int .i64 x.Do, .int .i64 x.N, bv, kv, .int .i64 x.torn, .int .i64 x.at'] 42)).alloc (.cells #[] 5)) (w.heap.size + 1) (.slice (some ⟨w.heap.size + 1, 0, none⟩) 0 0) [] := by
    have := ownb_none (w.alloc (.cells #[.int .i64 x.Do, .int .i64 x.N, bv, kv, .int .i64 x.torn, .int .i64 x.at'] 42))
    rwa [size_alloc] at this
  have hlen := hv.len
  have hsz : w.heap.size + 1 ≤ ((w.alloc (.cells #[.int .i64 x.Do, .int .i64 x.N, bv, kv, .int .i64 x.torn, .int .i64 x.at'] 42)).alloc (.cells #[] 5)).heap.size := by simp
  have hbx : ((w.alloc (.cells #[.int .i64 x.Do, .int .i64 x.N, bv, kv, .int .i64 x.torn, .int .i64 x.at'] 42)).alloc (.cells #[] 5)).heap[w.heap.size]? = some (.cells #[.int .i64 x.Do, .int .i64 x.N, bv, kv, .int .i64 x.torn, .int .i64 x.at'] 42 (0, 0)) := by
    rw [heap_alloc_old _ _ _ (by simp)]; exact heap_alloc_new w _
  have hby : Byt x.b := by obtain ⟨_, _, _, _, _, _, _, hy⟩ := hv.bs; exact hy
  have hbp := h.a.bp
  obtain ⟨l1, l2, l3, l4⟩ := h.lt
  have hfar : 0 < x.b.length → ∀ k, bv.ownBlock = some k → k ∉ [p, g, bm] := fun h0 k hk => by have := hv.fb h0 k hk; simp; omega
  have hfark : 0 < x.ks.length → ∀ k, kv.ownBlock = some k → k ∉ [p, g, bm] := fun h0 k hk => by have := hv.fk h0 k hk; simp; omega
  have hfk : 0 < x.ks.length → ∀ k, kv.ownBlock = some k → k ≠ g ∧ k ≠ bm := fun h0 k hk => by have := hv.fk h0 k hk; omega
  have hnot : w.heap.size ∉ [p, g, bm] := by simp; omega
  have hnotq : w.heap.size ∉ [q] := by simp; omega
  clear h hv
  unfold ddV
  go_enter Try.func25, Try.ntmps25
  go_upto_block 0 with (at_builtin; refine wp_appS (v := .slice (some ⟨w.heap.size + 1, 0, none⟩) 0 0) (u := bv) rfl (.tmp 15) (.tmp 17) rfl (by kernel_rfl) hown (by kernel_rfl) hbs' (by simpa using hlen) hsz ?_; intro ov w1 hov hb1; rw [List.nil_append] at hov; have hge := own_ge hov; have HO0 : Hid (Bs w1 ov x.b) := ⟨hov.bs hby⟩; obtain ⟨ao, cp, rfl, hM0⟩ := hov.mine; have hrow := (hb1.block w.heap.size (by omega)).trans hbx; have hB2 := hB1.trans (hb1.mono (by omega)); have hlt0 : w.heap.size < w1.heap.size := (Array.getElem?_eq_some_iff.1 hrow).1; have b0 : w1.cell? ⟨w.heap.size, 0, none⟩ = some (.int .i64 x.Do) := cell_of_row w1 w.heap.size 0 _ 42 _ hrow; have b1 : w1.cell? ⟨w.heap.size, 1, none⟩ = some (.int .i64 x.N) := cell_of_row w1 w.heap.size 1 _ 42 _ hrow; have b2 : w1.cell? ⟨w.heap.size, 2, none⟩ = some bv := cell_of_row w1 w.heap.size 2 _ 42 _ hrow; have b3 : w1.cell? ⟨w.heap.size, 3, none⟩ = some kv := cell_of_row w1 w.heap.size 3 _ 42 _ hrow; have b4 : w1.cell? ⟨w.heap.size, 4, none⟩ = some (.int .i64 x.torn) := cell_of_row w1 w.heap.size 4 _ 42 _ hrow; have b5 : w1.cell? ⟨w.heap.size, 5, none⟩ = some (.int .i64 x.at') := cell_of_row w1 w.heap.size 5 _ 42 _ hrow; have HP0 : Hid (Pair w1 p g bm q base d) := ⟨HPa.out.below hB2⟩; have HV0 : Hid (DdV w1 base bv kv x) := ⟨HVa.out.below hB2⟩; have HM0 : Hid (Mine w1 (w.heap.size + 1) ao x.b.length) := ⟨hM0⟩; have HW0 : Hid (Chg [p, g, bm, q] w w1) := ⟨Chg.ofBelow hB2⟩; have hm : ∀ k, ao = some ⟨k, 0, none⟩ → k ∉ [p, g, bm, q] := (fun k e => by subst e; have := hge k rfl; simp; omega); clear hov hb1 hM0 hrow hB2 hge hown hbs' hsz hbx hB1)
  have hbs0 : base ≤ w1.heap.size := Nat.le_trans hbs (Nat.le_of_lt hlt0)
  go_cut [2, 8] from 9 to 143 (fun _ s8 wx => s8 = .bool true ∧ Hid (DoneAt p g bm q base (doD d x) ao x.b.length w wx))
  case first =>
    have hlt1 : w.heap.size < w1.drew.heap.size := hlt0
    have hbs1 : base ≤ w1.drew.heap.size := hbs0
    have HP1 : Hid (Pair w1.drew p g bm q base d) := ⟨HP0.out.below (Below.refl _ w1).drew⟩
    have HV1 : Hid (DdV w1.drew base bv kv x) := ⟨HV0.out.below (Below.refl _ w1).drew⟩
    have HO1 : Hid (Bs w1.drew (.slice ao x.b.length cp) x.b) := ⟨HO0.out.below (Below.refl _ w1).drew⟩
    have HM1 : Hid (Mine w1.drew (w.heap.size + 1) ao x.b.length) := ⟨HM0.out⟩
    have HW1 : Hid (Chg [p, g, bm, q] w w1.drew) := ⟨HW0.out.drew⟩
    by_cases h0 : x.Do = 0
    · have HD : Hid (doD d x = wrD d x.N x.b) := ⟨by unfold doD; rw [if_pos h0]⟩
      go_wp2_with fail
      refine wp_region_held_drew (S := (fun w' => w'.cell? ⟨w.heap.size, 1, none⟩ = some (.int .i64 x.N) ∧ w'.cell? ⟨w.heap.size, 2, none⟩ = some bv)) (by kernel_rfl) ⟨b1, b2⟩ (fun hS => ?_)
      refine wpAnyH_take (i := 0) (v := (.pointer (some ⟨p, 0, none⟩))) rfl (by kernel_rfl) (by kernel_rfl) (by kernel_rfl) (fun _ _ _ h => h) (Or.inl ⟨by kernel_rfl, fun wx hx => by kernel_rfl⟩) hS ?_
      refine wpAnyH_take (i := 1) (v := (.pointer (some ⟨w.heap.size, 1, none⟩))) rfl (by kernel_rfl) (by kernel_rfl) (by kernel_rfl) (fun _ _ _ h => h) (Or.inl ⟨by kernel_rfl, fun wx hx => by go_simp⟩) hS ?_
      refine wpAnyH_take (i := 2) (v := (.int .i64 x.N)) rfl (by kernel_rfl) (by kernel_rfl) (by kernel_rfl) (fun _ _ _ h => h) (Or.inl ⟨by kernel_rfl, fun wx hx => by obtain ⟨hx1, hx2⟩ := hx; go_simp⟩) hS ?_
      refine wpAnyH_take (i := 3) (v := (.slice ao x.b.length cp)) rfl (by kernel_rfl) (by kernel_rfl) (by kernel_rfl) (fun _ _ _ h => h) (Or.inl ⟨by kernel_rfl, fun wx hx => by kernel_rfl⟩) hS ?_
      refine wpAnyH_take (i := 5) (v := (.pointer (some ⟨q, 0, none⟩))) rfl (by kernel_rfl) (by kernel_rfl) (by kernel_rfl) (fun _ _ _ h => h) (Or.inl ⟨by kernel_rfl, fun wx hx => by kernel_rfl⟩) hS ?_
      refine wpAnyH_take (i := 6) (v := (.pointer (some ⟨w.heap.size, 1, none⟩))) rfl (by kernel_rfl) (by kernel_rfl) (by kernel_rfl) (fun _ _ _ h => h) (Or.inl ⟨by kernel_rfl, fun wx hx => by go_simp⟩) hS ?_
      refine wpAnyH_take (i := 7) (v := (.int .i64 x.N)) rfl (by kernel_rfl) (by kernel_rfl) (by kernel_rfl) (fun _ _ _ h => h) (Or.inl ⟨by kernel_rfl, fun wx hx => by obtain ⟨hx1, hx2⟩ := hx; go_simp⟩) hS ?_
      refine wpAnyH_take (i := 8) (v := (.pointer (some ⟨w.heap.size, 2, none⟩))) rfl (by kernel_rfl) (by kernel_rfl) (by kernel_rfl) (fun _ _ _ h => h) (Or.inl ⟨by kernel_rfl, fun wx hx => by go_simp⟩) hS ?_
      refine wpAnyH_take (i := 9) (v := bv) rfl (by kernel_rfl) (by kernel_rfl) (by kernel_rfl) (fun _ _ _ h => h) (Or.inl ⟨by kernel_rfl, fun wx hx => by obtain ⟨hx1, hx2⟩ := hx; go_simp⟩) hS ?_
      refine wpAnyH_ready (rs := [4]) (by kernel_rfl) (by simp) (AllReadyH.cons rfl (fun Kc hK => ?_) AllReadyH.nil)
      go_simp
      refine (write_any HP1.out.a x.N (.slice ao x.b.length cp) x.b HO1.out).mono ?_
      rintro e w2 ⟨rfl, hA2, hc2⟩
      have HC2 : Hid (Chg [p, g, bm] w1.drew w2) := ⟨hc2.mono (by simp)⟩
      have HA2 : Hid (At w2 p g bm base (doD d x)) := ⟨by rw [HD.out]; exact hA2⟩
      have HR2 : Hid (Rf w2 q base d) := ⟨HP1.out.r.chgA HP1.out.a HC2.out⟩
      have HB2 : Hid (Bs w2 bv x.b) := ⟨HV1.out.bs.far HC2.out hfar⟩
      have s2 : w2.cell? ⟨w.heap.size, 1, none⟩ = some (.int .i64 x.N) ∧ w2.cell? ⟨w.heap.size, 2, none⟩ = some bv := ⟨(HC2.out.cell (a := ⟨w.heap.size, 1, none⟩) hlt1 hnot).trans b1, (HC2.out.cell (a := ⟨w.heap.size, 2, none⟩) hlt1 hnot).trans b2⟩
      have hs2 : base ≤ w2.heap.size := Nat.le_trans hbs1 HC2.out.size
      have hl2 : w.heap.size < w2.heap.size := Nat.lt_of_lt_of_le hlt1 HC2.out.size
      clear hA2 hc2
      refine hK.out _ _ s2 (fun hS => ?_)
      clear hK
      refine wpAnyH_ready (rs := [10]) (by kernel_rfl) (by simp) (AllReadyH.cons rfl (fun Kc hK => ?_) AllReadyH.nil)
      go_simp
      refine (rwrite_any HR2.out hs2 x.N bv x.b HB2.out).mono ?_
      rintro e w3 ⟨rfl, hR3, hc3⟩
      have s3 : w3.cell? ⟨w.heap.size, 1, none⟩ = some (.int .i64 x.N) ∧ w3.cell? ⟨w.heap.size, 2, none⟩ = some bv := ⟨(hc3.cell (a := ⟨w.heap.size, 1, none⟩) hl2 hnotq).trans s2.1, (hc3.cell (a := ⟨w.heap.size, 2, none⟩) hl2 hnotq).trans s2.2⟩
      have HE := HP1.out.both HA2.out HC2.out (by rw [HD.out]; exact hR3) hc3
      have HZ : Hid (DoneAt p g bm q base (doD d x) ao x.b.length w w3) := ⟨HE.1, HM1.out.chg HE.2 hm, HW1.out.trans HE.2⟩
      clear HE hR3 hc3 s2
      refine hK.out _ _ s3 (fun hS => ?_)
      clear hK
      refine wpAnyH_take (i := 11) (v := (.bool true)) rfl (by kernel_rfl) (by kernel_rfl) (by kernel_rfl) (fun _ _ _ h => h) (Or.inl ⟨by kernel_rfl, fun wx hx => by go_simp⟩) hS ?_
      refine wpAnyH_take (i := 12) (v := (.bool true)) rfl (by kernel_rfl) (by kernel_rfl) (by kernel_rfl) (fun _ _ _ h => h) (Or.inl ⟨by kernel_rfl, fun wx hx => by kernel_rfl⟩) hS ?_
      refine wpAnyH_done (by kernel_rfl) ?_ _
      clear hS s3
      go_simp
      go_wp2_with fail
      go_meet
      exact ⟨rfl, HZ⟩
    · by_cases h1 : x.Do = 1
      · have HD : Hid (doD d x = d) := ⟨by unfold doD; rw [if_neg h0, if_pos h1]⟩
        have t1 := read_any HP0.out.a x.N
        obtain ⟨hyt, hyl⟩ := rdB_byt HP0.out.a x.N
        obtain ⟨rb, Hrb⟩ : ∃ rb, Hid (rdB d x.N = rb) := ⟨_, ⟨rfl⟩⟩
        rw [Hrb.out] at t1 hyt hyl
        obtain ⟨re, Hre⟩ : ∃ re, Hid (rdE d x.N = re) := ⟨_, ⟨rfl⟩⟩
        rw [Hre.out] at t1
        go_upto_block 1 with (first | (go_at_call 21; refine t1.mono ?_; rintro e w2 ⟨rv, rfl, hO2, hc2⟩; clear t1; have t2 := rread_any (HP0.out.r.below hc2) x.N; unfold RRead at t2; rw [Hrb.out, Hre.out] at t2; have c1 : w2.cell? ⟨w.heap.size, 1, none⟩ = some (.int .i64 x.N) := (hc2.cell (p := ⟨w.heap.size, 1, none⟩) hlt0).trans b1; have HB2 : Hid (Bs w2 rv rb) := ⟨hO2.bs hyt⟩; obtain ⟨rao, rcp, rfl, hM2⟩ := hO2.mine; have HM2 : Hid (Mine w2 w1.heap.size rao rb.length) := ⟨hM2⟩; clear b1 hO2 hM2; have HC2 : Hid (Below w1.heap.size w1 w2) := ⟨hc2⟩; clear hc2) | (go_at_call 31; refine t2.mono ?_; rintro e w3 ⟨rv2, rfl, hcv, hc3⟩; clear t2 c1; have hcv1 := run_str (HB2.out.below hc3); generalize strOfNums rb = sb at hcv hcv1; have hc13 := HC2.out.trans (hc3.mono HC2.out.size); have HM3 : Hid (Mine w3 (w.heap.size + 1) rao rb.length) := ⟨(HM2.out.lower hlt0).chg (Chg.ofBelow (X := []) hc3) (by simp)⟩; have HZ : Hid (DoneAt p g bm q base (doD d x) ao x.b.length w w3) := ⟨by rw [HD.out]; exact HP0.out.below hc13, HM0.out.chg (Chg.ofBelow (X := []) hc13) (by simp), HW0.out.trans (Chg.ofBelow hc13)⟩; clear hc3 hc13 HM2 HC2 HB2))
        clear hcv hcv1
        obtain ⟨m, Hm⟩ : ∃ m, Hid (rb.length = m) := ⟨_, ⟨rfl⟩⟩
        rw [Hm.out] at HM3 hyl ⊢
        go_wp2_with fail
        go_loopg [13] m (fun gg s wr => ∃ kk : Nat, kk ≤ m ∧ m - kk ≤ gg ∧ s = .int .i64 (kk : Int) ∧ Hid (DoneAt p g bm q base (doD d x) ao x.b.length w wr ∧ Mine wr (w.heap.size + 1) rao m))
        case atStart => exact ⟨0, Nat.zero_le _, by omega, rfl, ⟨HZ.out, HM3.out⟩⟩
        case round =>
          clear HZ HM3
          obtain ⟨kk, hkk, hgg, rfl, HZ⟩ := hrel
          by_cases hlt : kk < m
          · have hltz : (kk : Int) < (m : Int) := by omega
            obtain ⟨k, cur, z, rfl, hB, hh, hz⟩ := HZ.out.2 kk hlt
            have hcell : wr.cell? ⟨k, kk, none⟩ = some (.int .u8 z) := (cell_of_row wr k kk cur 5 _ hh).trans hz
            have hfrz : wr.frozen? ⟨k, kk, none⟩ = false := frozen_of_row wr k kk cur 5 hh
            have HN : ∀ y, Hid (DoneAt p g bm q base (doD d x) ao x.b.length w (wr.setCell ⟨k, kk, none⟩ (.int .u8 y)) ∧ Mine (wr.setCell ⟨k, kk, none⟩ (.int .u8 y)) (w.heap.size + 1) (some ⟨k, 0, none⟩) m) := fun y => ⟨HZ.out.1.byte hh hB y, HZ.out.2.byte y⟩
            clear hh hz HZ
            go_wp2_with fail
            go_roundg (m - (kk + 1))
            case measure => omega
            case rel => exact ⟨kk + 1, by omega, by omega, by go_num, HN _⟩
          · have hltz : ¬ (kk : Int) < (m : Int) := by omega
            go_wp2_with fail
            go_meet
            exact ⟨rfl, ⟨HZ.out.1⟩⟩
      · by_cases h2 : x.Do = 2
        · have HD : Hid (doD d x = fluD d) := ⟨by unfold doD; rw [if_neg h0, if_neg h1, if_pos h2]⟩
          have t1 := flush_any HP0.out.a
          rw [← HD.out] at t1
          go_wp2_with (first | (go_at_call 20; refine t1.mono ?_; rintro e w2 ⟨rfl, hA2, hc2⟩; clear t1; have t2 := rflush_any (HP0.out.r.chgA HP0.out.a hc2) (Nat.le_trans hbs0 hc2.size); rw [← HD.out] at t2) | (go_at_call 43; refine t2.mono ?_; rintro e w3 ⟨rfl, hR3, hc3⟩; clear t2; have HE := HP0.out.both hA2 hc2 hR3 hc3; have HZ : Hid (DoneAt p g bm q base (doD d x) ao x.b.length w w3) := ⟨HE.1, HM0.out.chg HE.2 hm, HW0.out.trans HE.2⟩; clear HE hR3 hc3 hA2 hc2))
          go_meet
          exact ⟨rfl, HZ⟩
        · by_cases h3 : x.Do = 3
          · have HD : Hid (doD d x = trpD d x.N) := ⟨by unfold doD; rw [if_neg h0, if_neg h1, if_neg h2, if_pos h3]⟩
            go_wp2_with fail
            refine wp_region_held_drew (S := (fun w' => w'.cell? ⟨w.heap.size, 1, none⟩ = some (.int .i64 x.N) ∧ w'.cell? ⟨w.heap.size, 2, none⟩ = some bv)) (by kernel_rfl) ⟨b1, b2⟩ (fun hS => ?_)
            refine wpAnyH_take (i := 0) (v := (.pointer (some ⟨p, 0, none⟩))) rfl (by kernel_rfl) (by kernel_rfl) (by kernel_rfl) (fun _ _ _ h => h) (Or.inl ⟨by kernel_rfl, fun wx hx => by kernel_rfl⟩) hS ?_
            refine wpAnyH_take (i := 1) (v := (.pointer (some ⟨w.heap.size, 1, none⟩))) rfl (by kernel_rfl) (by kernel_rfl) (by kernel_rfl) (fun _ _ _ h => h) (Or.inl ⟨by kernel_rfl, fun wx hx => by go_simp⟩) hS ?_
            refine wpAnyH_take (i := 2) (v := (.int .i64 x.N)) rfl (by kernel_rfl) (by kernel_rfl) (by kernel_rfl) (fun _ _ _ h => h) (Or.inl ⟨by kernel_rfl, fun wx hx => by obtain ⟨hx1, hx2⟩ := hx; go_simp⟩) hS ?_
            refine wpAnyH_take (i := 4) (v := (.pointer (some ⟨q, 0, none⟩))) rfl (by kernel_rfl) (by kernel_rfl) (by kernel_rfl) (fun _ _ _ h => h) (Or.inl ⟨by kernel_rfl, fun wx hx => by kernel_rfl⟩) hS ?_
            refine wpAnyH_take (i := 5) (v := (.pointer (some ⟨w.heap.size, 1, none⟩))) rfl (by kernel_rfl) (by kernel_rfl) (by kernel_rfl) (fun _ _ _ h => h) (Or.inl ⟨by kernel_rfl, fun wx hx => by go_simp⟩) hS ?_
            refine wpAnyH_take (i := 6) (v := (.int .i64 x.N)) rfl (by kernel_rfl) (by kernel_rfl) (by kernel_rfl) (fun _ _ _ h => h) (Or.inl ⟨by kernel_rfl, fun wx hx => by obtain ⟨hx1, hx2⟩ := hx; go_simp⟩) hS ?_
            refine wpAnyH_ready (rs := [3]) (by kernel_rfl) (by simp) (AllReadyH.cons rfl (fun Kc hK => ?_) AllReadyH.nil)
            go_simp
            refine (trip_any HP1.out.a x.N HV1.out.n).mono ?_
            rintro e w2 ⟨rfl, hA2, hc2⟩
            have HC2 : Hid (Chg [p, g, bm] w1.drew w2) := ⟨hc2.mono (by simp)⟩
            have HA2 : Hid (At w2 p g bm base (doD d x)) := ⟨by rw [HD.out]; exact hA2⟩
            have HR2 : Hid (Rf w2 q base d) := ⟨HP1.out.r.chgA HP1.out.a HC2.out⟩
            have HB2 : Hid (Bs w2 bv x.b) := ⟨HV1.out.bs.far HC2.out hfar⟩
            have s2 : w2.cell? ⟨w.heap.size, 1, none⟩ = some (.int .i64 x.N) ∧ w2.cell? ⟨w.heap.size, 2, none⟩ = some bv := ⟨(HC2.out.cell (a := ⟨w.heap.size, 1, none⟩) hlt1 hnot).trans b1, (HC2.out.cell (a := ⟨w.heap.size, 2, none⟩) hlt1 hnot).trans b2⟩
            have hs2 : base ≤ w2.heap.size := Nat.le_trans hbs1 HC2.out.size
            have hl2 : w.heap.size < w2.heap.size := Nat.lt_of_lt_of_le hlt1 HC2.out.size
            clear hA2 hc2
            refine hK.out _ _ s2 (fun hS => ?_)
            clear hK
            refine wpAnyH_ready (rs := [7]) (by kernel_rfl) (by simp) (AllReadyH.cons rfl (fun Kc hK => ?_) AllReadyH.nil)
            go_simp
            refine (rtrip_any HR2.out x.N HV1.out.n).mono ?_
            rintro e w3 ⟨rfl, hR3, hc3⟩
            have s3 : w3.cell? ⟨w.heap.size, 1, none⟩ = some (.int .i64 x.N) ∧ w3.cell? ⟨w.heap.size, 2, none⟩ = some bv := ⟨(hc3.cell (a := ⟨w.heap.size, 1, none⟩) hl2 hnotq).trans s2.1, (hc3.cell (a := ⟨w.heap.size, 2, none⟩) hl2 hnotq).trans s2.2⟩
            have HE := HP1.out.both HA2.out HC2.out (by rw [HD.out]; exact hR3) hc3
            have HZ : Hid (DoneAt p g bm q base (doD d x) ao x.b.length w w3) := ⟨HE.1, HM1.out.chg HE.2 hm, HW1.out.trans HE.2⟩
            clear HE hR3 hc3 s2
            refine hK.out _ _ s3 (fun hS => ?_)
            clear hK
            refine wpAnyH_take (i := 8) (v := (.bool true)) rfl (by kernel_rfl) (by kernel_rfl) (by kernel_rfl) (fun _ _ _ h => h) (Or.inl ⟨by kernel_rfl, fun wx hx => by go_simp⟩) hS ?_
            refine wpAnyH_take (i := 9) (v := (.bool true)) rfl (by kernel_rfl) (by kernel_rfl) (by kernel_rfl) (fun _ _ _ h => h) (Or.inl ⟨by kernel_rfl, fun wx hx => by kernel_rfl⟩) hS ?_
            refine wpAnyH_done (by kernel_rfl) ?_ _
            clear hS s3
            go_simp
            go_wp2_with fail
            go_meet
            exact ⟨rfl, HZ⟩
          · by_cases h4 : x.Do = 4
            · have HD : Hid (doD d x = crD d ⟨x.ks, x.torn, x.at'⟩) := ⟨by unfold doD; rw [if_neg h0, if_neg h1, if_neg h2, if_neg h3, if_pos h4]⟩
              have t1 := crash_gen HP0.out.a kv x.ks x.torn x.at' HV0.out.ks hfk
              rw [← HD.out] at t1
              go_wp2_with (first | (go_at_call 17; refine t1.mono ?_; rintro e w2 ⟨rfl, hA2, hc2⟩; clear t1; have t2 := rcrash_any (HP0.out.r.chgA HP0.out.a hc2) (Nat.le_trans hbs0 hc2.size) kv x.ks x.torn x.at' (HV0.out.ks.far hc2 hfark); rw [← HD.out] at t2; have c3 : w2.cell? ⟨w.heap.size, 3, none⟩ = some kv := (hc2.cell (a := ⟨w.heap.size, 3, none⟩) hlt0 hnot).trans b3; have c4 : w2.cell? ⟨w.heap.size, 4, none⟩ = some (.int .i64 x.torn) := (hc2.cell (a := ⟨w.heap.size, 4, none⟩) hlt0 hnot).trans b4; have c5 : w2.cell? ⟨w.heap.size, 5, none⟩ = some (.int .i64 x.at') := (hc2.cell (a := ⟨w.heap.size, 5, none⟩) hlt0 hnot).trans b5; clear b3 b4 b5) | (go_at_call 45; refine t2.mono ?_; rintro e w3 ⟨rfl, hR3, hc3⟩; clear t2; have HE := HP0.out.both hA2 hc2 hR3 hc3; have HZ : Hid (DoneAt p g bm q base (doD d x) ao x.b.length w w3) := ⟨HE.1, HM0.out.chg HE.2 hm, HW0.out.trans HE.2⟩; clear HE hR3 hc3 hA2 hc2 c3 c4 c5))
              go_meet
              exact ⟨rfl, HZ⟩
            · have HD : Hid (doD d x = rotD d x.N x.b) := ⟨by unfold doD; rw [if_neg h0, if_neg h1, if_neg h2, if_neg h3, if_neg h4]⟩
              go_wp2_with fail
              refine wp_region_held_drew (S := (fun w' => w'.cell? ⟨w.heap.size, 1, none⟩ = some (.int .i64 x.N) ∧ w'.cell? ⟨w.heap.size, 2, none⟩ = some bv)) (by kernel_rfl) ⟨b1, b2⟩ (fun hS => ?_)
              refine wpAnyH_take (i := 0) (v := (.pointer (some ⟨p, 0, none⟩))) rfl (by kernel_rfl) (by kernel_rfl) (by kernel_rfl) (fun _ _ _ h => h) (Or.inl ⟨by kernel_rfl, fun wx hx => by kernel_rfl⟩) hS ?_
              refine wpAnyH_take (i := 1) (v := (.pointer (some ⟨w.heap.size, 1, none⟩))) rfl (by kernel_rfl) (by kernel_rfl) (by kernel_rfl) (fun _ _ _ h => h) (Or.inl ⟨by kernel_rfl, fun wx hx => by go_simp⟩) hS ?_
              refine wpAnyH_take (i := 2) (v := (.int .i64 x.N)) rfl (by kernel_rfl) (by kernel_rfl) (by kernel_rfl) (fun _ _ _ h => h) (Or.inl ⟨by kernel_rfl, fun wx hx => by obtain ⟨hx1, hx2⟩ := hx; go_simp⟩) hS ?_
              refine wpAnyH_take (i := 3) (v := (.slice ao x.b.length cp)) rfl (by kernel_rfl) (by kernel_rfl) (by kernel_rfl) (fun _ _ _ h => h) (Or.inl ⟨by kernel_rfl, fun wx hx => by kernel_rfl⟩) hS ?_
              refine wpAnyH_take (i := 5) (v := (.pointer (some ⟨q, 0, none⟩))) rfl (by kernel_rfl) (by kernel_rfl) (by kernel_rfl) (fun _ _ _ h => h) (Or.inl ⟨by kernel_rfl, fun wx hx => by kernel_rfl⟩) hS ?_
              refine wpAnyH_take (i := 6) (v := (.pointer (some ⟨w.heap.size, 1, none⟩))) rfl (by kernel_rfl) (by kernel_rfl) (by kernel_rfl) (fun _ _ _ h => h) (Or.inl ⟨by kernel_rfl, fun wx hx => by go_simp⟩) hS ?_
              refine wpAnyH_take (i := 7) (v := (.int .i64 x.N)) rfl (by kernel_rfl) (by kernel_rfl) (by kernel_rfl) (fun _ _ _ h => h) (Or.inl ⟨by kernel_rfl, fun wx hx => by obtain ⟨hx1, hx2⟩ := hx; go_simp⟩) hS ?_
              refine wpAnyH_take (i := 8) (v := (.pointer (some ⟨w.heap.size, 2, none⟩))) rfl (by kernel_rfl) (by kernel_rfl) (by kernel_rfl) (fun _ _ _ h => h) (Or.inl ⟨by kernel_rfl, fun wx hx => by go_simp⟩) hS ?_
              refine wpAnyH_take (i := 9) (v := bv) rfl (by kernel_rfl) (by kernel_rfl) (by kernel_rfl) (fun _ _ _ h => h) (Or.inl ⟨by kernel_rfl, fun wx hx => by obtain ⟨hx1, hx2⟩ := hx; go_simp⟩) hS ?_
              refine wpAnyH_ready (rs := [4]) (by kernel_rfl) (by simp) (AllReadyH.cons rfl (fun Kc hK => ?_) AllReadyH.nil)
              go_simp
              refine (rot_any HP1.out.a x.N (.slice ao x.b.length cp) x.b HO1.out).mono ?_
              rintro e w2 ⟨rfl, hA2, hc2⟩
              have HC2 : Hid (Chg [p, g, bm] w1.drew w2) := ⟨hc2.mono (by simp)⟩
              have HA2 : Hid (At w2 p g bm base (doD d x)) := ⟨by rw [HD.out]; exact hA2⟩
              have HR2 : Hid (Rf w2 q base d) := ⟨HP1.out.r.chgA HP1.out.a HC2.out⟩
              have HB2 : Hid (Bs w2 bv x.b) := ⟨HV1.out.bs.far HC2.out hfar⟩
              have s2 : w2.cell? ⟨w.heap.size, 1, none⟩ = some (.int .i64 x.N) ∧ w2.cell? ⟨w.heap.size, 2, none⟩ = some bv := ⟨(HC2.out.cell (a := ⟨w.heap.size, 1, none⟩) hlt1 hnot).trans b1, (HC2.out.cell (a := ⟨w.heap.size, 2, none⟩) hlt1 hnot).trans b2⟩
              have hs2 : base ≤ w2.heap.size := Nat.le_trans hbs1 HC2.out.size
              have hl2 : w.heap.size < w2.heap.size := Nat.lt_of_lt_of_le hlt1 HC2.out.size
              clear hA2 hc2
              refine hK.out _ _ s2 (fun hS => ?_)
              clear hK
              refine wpAnyH_ready (rs := [10]) (by kernel_rfl) (by simp) (AllReadyH.cons rfl (fun Kc hK => ?_) AllReadyH.nil)
              go_simp
              refine (rrot_any HR2.out hs2 x.N bv x.b HB2.out).mono ?_
              rintro e w3 ⟨rfl, hR3, hc3⟩
              have s3 : w3.cell? ⟨w.heap.size, 1, none⟩ = some (.int .i64 x.N) ∧ w3.cell? ⟨w.heap.size, 2, none⟩ = some bv := ⟨(hc3.cell (a := ⟨w.heap.size, 1, none⟩) hl2 hnotq).trans s2.1, (hc3.cell (a := ⟨w.heap.size, 2, none⟩) hl2 hnotq).trans s2.2⟩
              have HE := HP1.out.both HA2.out HC2.out (by rw [HD.out]; exact hR3) hc3
              have HZ : Hid (DoneAt p g bm q base (doD d x) ao x.b.length w w3) := ⟨HE.1, HM1.out.chg HE.2 hm, HW1.out.trans HE.2⟩
              clear HE hR3 hc3 s2
              refine hK.out _ _ s3 (fun hS => ?_)
              clear hK
              refine wpAnyH_take (i := 11) (v := (.bool true)) rfl (by kernel_rfl) (by kernel_rfl) (by kernel_rfl) (fun _ _ _ h => h) (Or.inl ⟨by kernel_rfl, fun wx hx => by go_simp⟩) hS ?_
              refine wpAnyH_take (i := 12) (v := (.bool true)) rfl (by kernel_rfl) (by kernel_rfl) (by kernel_rfl) (fun _ _ _ h => h) (Or.inl ⟨by kernel_rfl, fun wx hx => by kernel_rfl⟩) hS ?_
              refine wpAnyH_done (by kernel_rfl) ?_ _
              clear hS s3
              go_simp
              go_wp2_with fail
              go_meet
              exact ⟨rfl, HZ⟩
  case rest =>
    obtain ⟨rfl, HZ⟩ := hcut
    clear b0 b1 b2 b3 b4 b5 HP0 HV0 HO0 HM0 HW0 hfar hfark hfk hnot hnotq
    go_wp2_with fail
    go_loopg [14] x.b.length (fun gg s wr => ∃ kk : Nat, kk ≤ x.b.length ∧ x.b.length - kk ≤ gg ∧ s = .int .i64 (kk : Int) ∧ Hid (DoneAt p g bm q base (doD d x) ao x.b.length w wr))
    case atStart => exact ⟨0, Nat.zero_le _, by omega, rfl, HZ⟩
    case round =>
      clear HZ
      obtain ⟨kk, hkk, hgg, rfl, HZ⟩ := hrel
      by_cases hlt : kk < x.b.length
      · have hltz : (kk : Int) < (x.b.length : Int) := by omega
        obtain ⟨k, cur, z, rfl, hB, hh, hz⟩ := HZ.out.2.1 kk hlt
        have hcell : wr.cell? ⟨k, kk, none⟩ = some (.int .u8 z) := (cell_of_row wr k kk cur 5 _ hh).trans hz
        have hfrz : wr.frozen? ⟨k, kk, none⟩ = false := frozen_of_row wr k kk cur 5 hh
        have HN : ∀ y, Hid (DoneAt p g bm q base (doD d x) (some ⟨k, 0, none⟩) x.b.length w (wr.setCell ⟨k, kk, none⟩ (.int .u8 y))) := fun y => ⟨HZ.out.byte hh hB y⟩
        clear hh hz HZ
        go_wp2_with fail
        go_roundg (x.b.length - (kk + 1))
        case measure => omega
        case rel => exact ⟨kk + 1, by omega, by omega, by go_num, HN _⟩
      · have hltz : ¬ (kk : Int) < (x.b.length : Int) := by omega
        go_wp2_with fail
        obtain ⟨hPz, _, hCz⟩ := HZ.out
        clear HZ
        obtain ⟨D, hD⟩ : ∃ D, doD d x = D := ⟨_, rfl⟩
        rw [hD] at hPz
        have HF : Hid (Pair wr p g bm q base (doD d x) ∧ Chg [p, g, bm, q] w wr) := ⟨by rw [hD]; exact hPz, hCz⟩
        clear hD hCz
        have tdn := down_any (hPz.a.below (Below.refl _ wr).drew)
        have tlf := life_any (hPz.a.below (Below.refl _ wr).drew)
        obtain ⟨vq, arq, hRq⟩ := hPz.r
        obtain ⟨_, _, e2, e3⟩ := hRq.cells
        clear hRq hPz
        have hS9 : wr.drew.cell? ⟨q, 2, none⟩ = some (.bool D.down) ∧ wr.drew.cell? ⟨q, 3, none⟩ = some (.int .i64 D.life) := ⟨e2, e3⟩
        refine wp_region_held_drew (S := (fun w' => w'.cell? ⟨q, 2, none⟩ = some (.bool D.down) ∧ w'.cell? ⟨q, 3, none⟩ = some (.int .i64 D.life))) (by kernel_rfl) hS9 (fun hS => ?_)
        refine wpAnyH_take (i := 0) (v := (.bool true)) rfl (by kernel_rfl) (by kernel_rfl) (by kernel_rfl) (fun _ _ _ h => h) (Or.inl ⟨by kernel_rfl, fun wx hx => by kernel_rfl⟩) hS ?_
        refine wpAnyH_take (i := 1) (v := (.bool true)) rfl (by kernel_rfl) (by kernel_rfl) (by kernel_rfl) (fun _ _ _ h => h) (Or.inl ⟨by kernel_rfl, fun wx hx => by kernel_rfl⟩) hS ?_
        refine wpAnyH_take (i := 2) (v := (.pointer (some ⟨p, 0, none⟩))) rfl (by kernel_rfl) (by kernel_rfl) (by kernel_rfl) (fun _ _ _ h => h) (Or.inl ⟨by kernel_rfl, fun wx hx => by kernel_rfl⟩) hS ?_
        refine wpAnyH_take (i := 4) (v := (.pointer (some ⟨q, 0, none⟩))) rfl (by kernel_rfl) (by kernel_rfl) (by kernel_rfl) (fun _ _ _ h => h) (Or.inl ⟨by kernel_rfl, fun wx hx => by kernel_rfl⟩) hS ?_
        refine wpAnyH_take (i := 5) (v := (.pointer (some ⟨q, 0, none⟩))) rfl (by kernel_rfl) (by kernel_rfl) (by kernel_rfl) (fun _ _ _ h => h) (Or.inl ⟨by kernel_rfl, fun wx hx => by go_simp⟩) hS ?_
        refine wpAnyH_take (i := 6) (v := (.pointer (some ⟨q, 2, none⟩))) rfl (by kernel_rfl) (by kernel_rfl) (by kernel_rfl) (fun _ _ _ h => h) (Or.inl ⟨by kernel_rfl, fun wx hx => by go_simp⟩) hS ?_
        refine wpAnyH_take (i := 7) (v := (.bool D.down)) rfl (by kernel_rfl) (by kernel_rfl) (by kernel_rfl) (fun _ _ _ h => h) (Or.inl ⟨by kernel_rfl, fun wx hx => by obtain ⟨hx1, hx2⟩ := hx; go_simp⟩) hS ?_
        refine wpAnyH_ready (rs := [3]) (by kernel_rfl) (by simp) (AllReadyH.cons rfl (fun Kc hK => ?_) AllReadyH.nil)
        go_simp
        refine tdn.mono ?_
        rintro e w9 ⟨rfl, rfl⟩
        refine hK.out _ _ hS9 (fun hS => ?_)
        clear hK
        refine wpAnyH_take (i := 8) (v := (.bool true)) rfl (by kernel_rfl) (by kernel_rfl) (by kernel_rfl) (fun _ _ _ h => h) (Or.inl ⟨by kernel_rfl, fun wx hx => by go_simp⟩) hS ?_
        refine wpAnyH_take (i := 9) (v := (.bool true)) rfl (by kernel_rfl) (by kernel_rfl) (by kernel_rfl) (fun _ _ _ h => h) (Or.inl ⟨by kernel_rfl, fun wx hx => by go_simp⟩) hS ?_
        refine wpAnyH_take (i := 10) (v := (.bool true)) rfl (by kernel_rfl) (by kernel_rfl) (by kernel_rfl) (fun _ _ _ h => h) (Or.inl ⟨by kernel_rfl, fun wx hx => by kernel_rfl⟩) hS ?_
        refine wpAnyH_take (i := 11) (v := (.pointer (some ⟨p, 0, none⟩))) rfl (by kernel_rfl) (by kernel_rfl) (by kernel_rfl) (fun _ _ _ h => h) (Or.inl ⟨by kernel_rfl, fun wx hx => by kernel_rfl⟩) hS ?_
        refine wpAnyH_take (i := 13) (v := (.pointer (some ⟨q, 0, none⟩))) rfl (by kernel_rfl) (by kernel_rfl) (by kernel_rfl) (fun _ _ _ h => h) (Or.inl ⟨by kernel_rfl, fun wx hx => by kernel_rfl⟩) hS ?_
        refine wpAnyH_take (i := 14) (v := (.pointer (some ⟨q, 0, none⟩))) rfl (by kernel_rfl) (by kernel_rfl) (by kernel_rfl) (fun _ _ _ h => h) (Or.inl ⟨by kernel_rfl, fun wx hx => by go_simp⟩) hS ?_
        refine wpAnyH_take (i := 15) (v := (.pointer (some ⟨q, 3, none⟩))) rfl (by kernel_rfl) (by kernel_rfl) (by kernel_rfl) (fun _ _ _ h => h) (Or.inl ⟨by kernel_rfl, fun wx hx => by go_simp⟩) hS ?_
        refine wpAnyH_take (i := 16) (v := (.int .i64 D.life)) rfl (by kernel_rfl) (by kernel_rfl) (by kernel_rfl) (fun _ _ _ h => h) (Or.inl ⟨by kernel_rfl, fun wx hx => by obtain ⟨hx1, hx2⟩ := hx; go_simp⟩) hS ?_
        refine wpAnyH_ready (rs := [12]) (by kernel_rfl) (by simp) (AllReadyH.cons rfl (fun Kc hK => ?_) AllReadyH.nil)
        go_simp
        refine tlf.mono ?_
        rintro e w9 ⟨rfl, rfl⟩
        refine hK.out _ _ hS9 (fun hS => ?_)
        clear hK
        refine wpAnyH_take (i := 17) (v := (.bool true)) rfl (by kernel_rfl) (by kernel_rfl) (by kernel_rfl) (fun _ _ _ h => h) (Or.inl ⟨by kernel_rfl, fun wx hx => by go_simp⟩) hS ?_
        refine wpAnyH_take (i := 18) (v := (.bool true)) rfl (by kernel_rfl) (by kernel_rfl) (by kernel_rfl) (fun _ _ _ h => h) (Or.inl ⟨by kernel_rfl, fun wx hx => by go_simp⟩) hS ?_
        refine wpAnyH_take (i := 19) (v := (.bool true)) rfl (by kernel_rfl) (by kernel_rfl) (by kernel_rfl) (fun _ _ _ h => h) (Or.inl ⟨by kernel_rfl, fun wx hx => by kernel_rfl⟩) hS ?_
        refine wpAnyH_done (by kernel_rfl) ?_ _
        clear hS hS9 e2 e3 tdn tlf
        go_simp
        go_wp2_with fail
        go_ret
        exact ⟨rfl, HF.out.1.below (Below.refl _ wr).drew, HF.out.2.drew⟩
end Go.Proofs.Ytmcikhdfpmkpnaa
