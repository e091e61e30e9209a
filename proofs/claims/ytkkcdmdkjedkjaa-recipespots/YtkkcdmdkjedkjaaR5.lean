/- The program's New. -/
import Derived.Test.YtkkcdmdkjedkjaaR4
namespace Go.Proofs.Ytkkcdmdkjedkjaa
open Go.RowKit Go.Lib

theorem lens_take (L : List Rf) (k : Nat) : lens (L.take k) = (lens L).take k := by simp [lens, List.map_take]
theorem upto_take (ls : List Nat) {i k : Nat} (h : i ≤ k) : Rp.upto (ls.take k) i = Rp.upto ls i := by
  unfold Rp.upto
  rw [List.take_take, Nat.min_eq_left h]
theorem endsI_snoc (L : List Rf) {k : Nat} (h : k < L.length) : endsI (L.take (k + 1)) = endsI (L.take k) ++ [((Rp.upto (lens L) (k + 1) : Nat) : Int)] := by
  unfold endsI
  rw [List.length_take, List.length_take, Nat.min_eq_left (by omega), Nat.min_eq_left (by omega), List.range_succ, List.map_append]
  congr 1
  · apply List.map_congr_left
    intro i hi
    rw [List.mem_range] at hi
    rw [lens_take, lens_take, upto_take _ (by omega), upto_take _ (by omega)]
  · simp only [List.map_cons, List.map_nil]
    rw [lens_take, upto_take _ (Nat.le_refl _)]
theorem rdi_one (w : World) (x : Int) : RdI (w.alloc (.cells #[.int .i64 x] 3)) (.slice (some ⟨w.heap.size, 0, none⟩) 1 1) [x] := by
  refine ⟨_, _, rfl, by simp [iv], by unfold maxLen; omega, by simp, fun y hy i hi => ?_⟩
  cases hy
  simp [iv] at hi
  subst hi
  simp [Addr.add, iv]
theorem chk_zero {L : List Rf} : chk L = 0 ↔ Rt L := by
  unfold chk
  constructor
  · intro h
    by_cases h1 : 256 < L.length
    · rw [if_pos h1] at h; omega
    · rw [if_neg h1] at h
      by_cases h2 : L.all rt = true
      · exact ⟨fun r hr => List.all_eq_true.1 h2 r hr, by omega⟩
      · rw [if_neg h2] at h; omega
  · intro h
    rw [if_neg (by have := h.few; omega), if_pos (List.all_eq_true.2 h.all)]
section
variable {w : World}
set_option maxHeartbeats 4000000 in
set_option maxRecDepth 100000 in
theorem new_bad (v : Value) (L : List Rf) (h : RdR w v L) (hL : L.length ≤ 10000000000000) (hz : ¬ chk L = 0) : Calls Try.prog 9 #[v] w fun e w' => e = .returned (.tuple #[.pointer none, .int .i64 (chk L)]) ∧ Below w.heap.size w w' := by
  have t := check_any v L h hL
  obtain ⟨a, c, rfl, _⟩ := h.shape
  generalize chk L = C at t hz ⊢
  clear h
  go_enter Try.func9, Try.ntmps9
  go_wp2_with (go_at_call 11; refine t.mono ?_; rintro e w5 ⟨rfl, hb5⟩)
  go_ret2
  exact ⟨rfl, hb5⟩
set_option maxHeartbeats 8000000 in
set_option maxRecDepth 100000 in
theorem new_any (v : Value) (L : List Rf) (h : RdR w v L) (hR : Rt L) : Calls Try.prog 9 #[v] w fun e w' => ∃ p, e = .returned (.tuple #[.pointer (some ⟨p, 0, none⟩), .int .i64 0]) ∧ Rec w' p L ∧ Below w.heap.size w w' := by
  have t1 := check_any v L h (by have := hR.few; omega)
  rw [chk_zero.2 hR] at t1
  have H := Hid.mk h
  have HR := Hid.mk hR
  obtain ⟨n, Hn⟩ : ∃ n, Hid (L.length = n) := ⟨_, ⟨rfl⟩⟩
  have hn : n ≤ 256 := by rw [← Hn.out]; exact hR.few
  obtain ⟨av, cv, rfl, hcv, hcm, _⟩ := h.shape
  rw [Hn.out] at t1 hcv H ⊢
  clear h hR
  go_enter Try.func9, Try.ntmps9
  go_upto_region 4 with (go_at_call 11; refine t1.mono ?_; rintro e w1 ⟨rfl, hb1⟩)
  obtain ⟨w2, Hw2⟩ : ∃ x, Hid (w1.drew = x) := ⟨_, ⟨rfl⟩⟩
  have HB2 : Hid (Below w.heap.size w w2) := ⟨by rw [← Hw2.out]; exact ⟨hb1.os, hb1.tape, hb1.output, hb1.size, hb1.block⟩⟩
  clear hb1 t1
  refine wp_region_any (by kernel_rfl) ?_
  change wpAny _ _ _ _ _ _ _ (World.drew _)
  rw [Hw2.out]
  refine wpAny_take (i := 0) (v := .slice av n cv) rfl (by kernel_rfl) (by kernel_rfl) (by kernel_rfl) (fun _ _ _ h => h) (Or.inl ⟨by kernel_rfl, fun _ => by kernel_rfl⟩) ?_
  refine wpAny_take (i := 2) (v := .slice av n cv) rfl (by kernel_rfl) (by kernel_rfl) (by kernel_rfl) (fun _ _ _ h => h) (Or.inl ⟨by kernel_rfl, fun _ => by kernel_rfl⟩) ?_
  refine wpAny_take (i := 3) (v := .int .i64 (n : Int)) rfl (by kernel_rfl) (by kernel_rfl) (by kernel_rfl) (fun _ _ _ h => h) (Or.inl ⟨by kernel_rfl, fun wx => by go_simp⟩) ?_
  refine wpAny_ready (rs := [1, 4]) (by kernel_rfl) (by simp) (AllReady.cons rfl (fun K hK => ?_) (AllReady.cons rfl (fun K hK => ?_) AllReady.nil))
  · go_simp
    refine (clone_any (w := w2) _ L (H.out.below HB2.out) (by rw [Hn.out]; omega)).mono ?_
    rintro e w3 ⟨rv, rfl, hO3, hb3⟩
    have HO3 := Hid.mk hO3
    have HB3 := Hid.mk hb3
    obtain ⟨ar, cr, e3, _⟩ := (hO3.rd r0).shape
    subst e3
    rw [Hn.out] at HO3 ⊢
    clear hO3 hb3
    refine hK _ _ ?_
    clear hK
    refine wpAny_ready (rs := [4]) (by kernel_rfl) (by simp) (AllReady.cons rfl (fun K hK => ?_) AllReady.nil)
    refine rdy_of (by kernel_rfl) ?_
    refine op_makeI (.const (.int .i64 0)) (.tmp 16) rfl n rfl (by kernel_rfl) (by omega) ?_
    intro w4 hO4 hb4 hs4
    have HE4 : Hid (OwnI w4 w.heap.size (.slice (some ⟨w3.heap.size, 0, none⟩) 0 n) []) := ⟨own_base hO4 (fun g hg => Nat.le_trans (Nat.le_trans HB2.out.size HB3.out.size) (hO4.lt g hg).1)⟩
    have HO4 : Hid (OwnE rc 35 56 w4 w.heap.size (.slice ar n cr) L) := ⟨(HO3.out.far (Chg.ofBelow (X := []) hb4) (by simp)).base HB2.out.size⟩
    have HB4 : Hid (Below w.heap.size w w4) := ⟨HB2.out.trans ((HB3.out.mono HB2.out.size).trans (hb4.mono (Nat.le_trans HB2.out.size HB3.out.size)))⟩
    refine hK _ _ ?_
    clear hK hO4 hb4 hs4 HO3 HB3
    generalize w3.heap.size = ge at HE4 ⊢
    clear w3
    refine wpAny_take (i := 5) (v := .agg #[.slice ar n cr, .slice (some ⟨ge, 0, none⟩) 0 n]) rfl (by kernel_rfl) (by kernel_rfl) (by kernel_rfl) (fun _ _ _ h => h) (Or.inl ⟨by kernel_rfl, fun wx => by go_simp⟩) ?_
    refine wpAny_ready (rs := [6]) (by kernel_rfl) (by simp) (AllReady.cons rfl (fun K hK => ?_) AllReady.nil)
    go_simp
    refine hK _ _ ?_
    clear hK
    refine wpAny_take (i := 7) (v := .pointer (some ⟨w4.heap.size, 0, none⟩)) rfl (by kernel_rfl) (by kernel_rfl) (by kernel_rfl) (fun _ _ _ h => h) (Or.inl ⟨by kernel_rfl, fun wx => by kernel_rfl⟩) ?_
    refine wpAny_done (by kernel_rfl) ?_ _
    obtain ⟨p, Hp⟩ : ∃ p, Hid (w4.heap.size = p) := ⟨_, ⟨rfl⟩⟩
    obtain ⟨w5, Hw5⟩ : ∃ x, Hid (w4.alloc (.cells #[.slice ar n cr, .slice (some ⟨ge, 0, none⟩) 0 n] 70) = x) := ⟨_, ⟨rfl⟩⟩
    have HC5 : Hid (Below w4.heap.size w4 w5) := ⟨by rw [← Hw5.out]; exact (Below.refl _ w4).alloc (Nat.le_refl _) _⟩
    have HP5 : Hid (w5.heap[p]? = some (.cells #[.slice ar n cr, .slice (some ⟨ge, 0, none⟩) 0 n] 70 (0, 0))) := ⟨by rw [← Hw5.out, ← Hp.out]; exact heap_alloc_new w4 _⟩
    have HO5 : Hid (OwnE rc 35 56 w5 w.heap.size (.slice ar n cr) L) := ⟨HO4.out.far (Chg.ofBelow (X := []) HC5.out) (by simp)⟩
    have HE5 : Hid (OwnI w5 w.heap.size (.slice (some ⟨ge, 0, none⟩) 0 n) (endsI (L.take 0))) := ⟨own_far HE4.out (Chg.ofBelow (X := []) HC5.out) (by simp)⟩
    have HB5 : Hid (Below w.heap.size w w5) := ⟨HB4.out.trans (HC5.out.mono HB4.out.size)⟩
    have HPw : Hid (w.heap.size ≤ p) := ⟨by rw [← Hp.out]; exact HB4.out.size⟩
    rw [Hw5.out, Hp.out]
    go_simp
    go_wp2_with fail
    go_loopg [7, 22] n (fun gg _ s22 wr => ∃ (kk : Nat) (ae : Option Addr) (ne ce : Nat), kk ≤ n ∧ n - kk ≤ gg ∧ s22 = .int .i64 (kk : Int) ∧ Hid (OwnE rc 35 56 wr w.heap.size (.slice ar n cr) L) ∧ Hid (OwnI wr w.heap.size (.slice ae ne ce) (endsI (L.take kk))) ∧ Hid (wr.heap[p]? = some (.cells #[.slice ar n cr, .slice ae ne ce] 70 (0, 0))) ∧ Hid (Below w.heap.size w wr))
    case atStart => exact ⟨0, _, _, _, Nat.zero_le _, by omega, rfl, HO5, HE5, HP5, HB5⟩
    case round =>
      clear HO5 HE5 HP5 HB5 HC5 Hw5 Hp HO4 HE4 HB4
      obtain ⟨kk, ae, ne, ce, hkk, hgg, rfl, HO, HE, HP, HB⟩ := hrel
      by_cases hlt : kk < n
      · have hltz : (kk : Int) < (n : Int) := by omega
        have hkL : kk < L.length := by rw [Hn.out]; exact hlt
        have hRd : RdR wr (.slice av n cv) L := H.out.below HB.out
        obtain ⟨b, off, cap, e, hc⟩ := hRd.ref hkL
        have hsm := hRd.sum hkL
        have hlr := lens_at HR.out hkL
        rw [Hn.out] at e
        simp at e
        obtain ⟨rfl, rfl⟩ := e
        have HSn := Hid.mk (endsI_snoc L hkL)
        have HSu := Hid.mk (Rp.upto_succ (lens L) kk (by rw [lens_len]; exact hkL))
        have HSs : Hid ((lens (L.take kk)).sum = Rp.upto (lens L) kk) := ⟨by rw [lens_take]; rfl⟩
        have hub := Nat.le_trans (Rp.upto_le (lens L) kk) (lens_sum HR.out)
        generalize L.getD kk r0 = r at hc hsm hlr
        generalize (lens L).getD kk 0 = l at hlr HSu
        generalize Rp.upto (lens L) kk = u at HSu HSs hub
        have Hc := Hid.mk hc
        have Hi : Hid ((Try.prog.info? 56).map (·.size) = some (rc r).length) := ⟨by rw [rc_len r hsm]; exact info28⟩
        have Hsm := Hid.mk hsm
        have Hlr : Hid (r.l = (l : Int)) := ⟨hlr.1⟩
        have hwu : IntKind.i64.wrap ((u : Int) + l) = (u : Int) + l := IntWalk.i64_in _ ⟨by omega, by have := hlr.2.2; omega⟩
        have hl512 := hlr.2
        clear hc hsm hRd hlr
        go_upto_region 8 with (first
          | (refine wp_loadA rfl 56 (.tmp 24) rfl b (off + kk * 35) rfl (rc r) _ Hc.out Try.underlying56 rfl Hi.out ?_)
          | (refine wp_storeR rfl (.tmp 7) (.tmp 25) rfl wr.heap.size r Hsm.out rfl rfl _ (heap_alloc_new wr _) rfl ?_; intro w6 hA3 hG3; have HA3 := Hid.mk hA3; have HB3 : Hid (Below wr.heap.size wr w6) := ⟨((Chg.ofBelow (X := []) ((Below.refl _ wr).alloc (Nat.le_refl _) _)).thenNew hG3 (by simp)).below (Nat.le_refl _) (by simp)⟩; clear hA3 hG3))
        obtain ⟨q, Hq⟩ : ∃ q, Hid (wr.heap.size = q) := ⟨_, ⟨rfl⟩⟩
        rw [Hq.out] at HA3 HB3 ⊢
        clear Hc
        obtain ⟨w7, Hw7⟩ : ∃ x, Hid (w6.drew = x) := ⟨_, ⟨rfl⟩⟩
        have HC7 : Hid (Below wr.heap.size wr w7) := ⟨by rw [← Hw7.out, Hq.out]; exact ⟨HB3.out.os, HB3.out.tape, HB3.out.output, HB3.out.size, HB3.out.block⟩⟩
        have HA7 : Hid (RefAt w7 q r) := ⟨by rw [← Hw7.out]; exact ⟨HA3.out.row, HA3.out.sm⟩⟩
        have HO7 : Hid (OwnE rc 35 56 w7 w.heap.size (.slice ar n cr) L) := ⟨HO.out.far (Chg.ofBelow (X := []) HC7.out) (by simp)⟩
        have HE7 : Hid (OwnI w7 w.heap.size (.slice ae ne ce) (endsI (L.take kk))) := ⟨own_far HE.out (Chg.ofBelow (X := []) HC7.out) (by simp)⟩
        have HP7 : Hid (w7.heap[p]? = some (.cells #[.slice ar n cr, .slice ae ne ce] 70 (0, 0))) := ⟨(HC7.out.block p (Ty.lt ⟨_, HP.out⟩)).trans HP.out⟩
        have HB7 : Hid (Below w.heap.size w w7) := ⟨HB.out.trans (HC7.out.mono HB.out.size)⟩
        have hc7 : w7.cell? ⟨p, 1, none⟩ = some (.slice ae ne ce) := by rw [cell_of_row _ _ _ _ _ _ HP7.out]; rfl
        have hS7 : (fun w' => w'.cell? ⟨q, 32, none⟩ = some (.int .i64 (l : Int))) w6.drew := by
          rw [Hw7.out]
          have := (HA7.out.cell 32).trans (rc_num r Hsm.out).1
          rw [Hlr.out] at this
          exact this
        have t6 := size_e (w := w7) hc7 (OwnI.rd HE7.out) (by rw [List.length_take]; omega)
        rw [HSs.out] at t6
        clear HB3 HC7 HA3 HO HE HP HB
        refine wp_region_held_drew (S := (fun w' => w'.cell? ⟨q, 32, none⟩ = some (.int .i64 (l : Int)))) (by kernel_rfl) hS7 (fun hS => ?_)
        rw [Hw7.out] at hS ⊢
        clear hS7
        refine wpAnyH_take (i := 0) (v := .pointer (some ⟨p, 0, none⟩)) rfl (by kernel_rfl) (by kernel_rfl) (by kernel_rfl) (fun _ _ _ h => h) (Or.inl ⟨by kernel_rfl, fun _ _ => by kernel_rfl⟩) hS ?_
        refine wpAnyH_take (i := 1) (v := .pointer (some ⟨p, 0, none⟩)) rfl (by kernel_rfl) (by kernel_rfl) (by kernel_rfl) (fun _ _ _ h => h) (Or.inl ⟨by kernel_rfl, fun _ _ => by kernel_rfl⟩) hS ?_
        refine wpAnyH_take (i := 2) (v := .pointer (some ⟨p, 0, none⟩)) rfl (by kernel_rfl) (by kernel_rfl) (by kernel_rfl) (fun _ _ _ h => h) (Or.inl ⟨by kernel_rfl, fun wx hx => by go_simp⟩) hS ?_
        refine wpAnyH_take (i := 3) (v := .pointer (some ⟨p, 1, none⟩)) rfl (by kernel_rfl) (by kernel_rfl) (by kernel_rfl) (fun _ _ _ h => h) (Or.inl ⟨by kernel_rfl, fun wx hx => by go_simp⟩) hS ?_
        refine wpAnyH_take (i := 5) (v := .pointer (some ⟨p, 0, none⟩)) rfl (by kernel_rfl) (by kernel_rfl) (by kernel_rfl) (fun _ _ _ h => h) (Or.inl ⟨by kernel_rfl, fun _ _ => by kernel_rfl⟩) hS ?_
        refine wpAnyH_take (i := 7) (v := .pointer (some ⟨q, 32, none⟩)) rfl (by kernel_rfl) (by kernel_rfl) (by kernel_rfl) (fun _ _ _ h => h) (Or.inl ⟨by kernel_rfl, fun wx hx => by go_simp⟩) hS ?_
        refine wpAnyH_take (i := 8) (v := .int .i64 (l : Int)) rfl (by kernel_rfl) (by kernel_rfl) (by kernel_rfl) (fun _ _ _ h => h) (Or.inl ⟨by kernel_rfl, fun wx hx => by have hx1 := hx; go_simp⟩) hS ?_
        refine wpAnyH_ready (rs := [4, 6]) (by kernel_rfl) (by simp) (AllReadyH.cons rfl (fun Kc hK => ?_) (AllReadyH.cons rfl (fun Kc hK => ?_) (AllReadyH.nil)))
        · go_simp
          refine hK.out _ _ hS (fun hS => ?_)
          clear hK
          refine wpAnyH_ready (rs := [6]) (by kernel_rfl) (by simp) (AllReadyH.cons rfl (fun Kc hK => ?_) (AllReadyH.nil))
          go_simp

          refine t6.mono ?_
          rintro e w8 ⟨rfl, nq, ew8⟩
          have HC8 : Hid (Below w7.heap.size w7 w8) := ⟨by rw [ew8]; exact below_drewN (Below.refl _ _) nq⟩
          have hc8 : w8.cell? ⟨p, 1, none⟩ = some (.slice ae ne ce) := (HC8.out.cell (p := ⟨p, 1, none⟩) (Ty.lt ⟨_, HP7.out⟩)).trans hc7
          have hS8 : (fun w' => w'.cell? ⟨q, 32, none⟩ = some (.int .i64 (l : Int))) w8 := (HC8.out.cell (p := ⟨q, 32, none⟩) HA7.out.lt).trans hS
          have HA8 : Hid (RefAt w8 q r) := ⟨HA7.out.far (Chg.ofBelow (X := []) HC8.out) (by simp)⟩
          have HP8 : Hid (w8.heap[p]? = some (.cells #[.slice ar n cr, .slice ae ne ce] 70 (0, 0))) := ⟨(HC8.out.block p (Ty.lt ⟨_, HP7.out⟩)).trans HP7.out⟩
          have HB8 : Hid (Below w.heap.size w w8) := ⟨HB7.out.trans (HC8.out.mono HB7.out.size)⟩
          have HE8 : Hid (OwnI w8 w.heap.size (.slice ae ne ce) (endsI (L.take kk))) := ⟨own_far HE7.out (Chg.ofBelow (X := []) HC8.out) (by simp)⟩
          have HO8 : Hid (OwnE rc 35 56 w8 w.heap.size (.slice ar n cr) L) := ⟨HO7.out.far (Chg.ofBelow (X := []) HC8.out) (by simp)⟩
          clear ew8
          refine hK.out _ _ hS8 (fun hS => ?_)
          clear hK
          refine wpAnyH_take (i := 9) (v := .int .i64 ((u : Int) + l)) rfl (by kernel_rfl) (by kernel_rfl) (by kernel_rfl) (fun _ _ _ h => h) (Or.inl ⟨by kernel_rfl, fun wx hx => by go_simp⟩) hS ?_
          refine wpAnyH_ready (rs := [10]) (by kernel_rfl) (by simp) (AllReadyH.cons rfl (fun Kc hK => ?_) (AllReadyH.nil))
          go_simp

          obtain ⟨w9, Hw9⟩ : ∃ x, Hid (w8.alloc (.cells #[.int .i64 ((u : Int) + l)] 3) = x) := ⟨_, ⟨rfl⟩⟩
          rw [Hw9.out]
          have HC9 : Hid (Below w8.heap.size w8 w9) := ⟨by rw [← Hw9.out]; exact (Below.refl _ w8).alloc (Nat.le_refl _) _⟩
          have hc9 : w9.cell? ⟨p, 1, none⟩ = some (.slice ae ne ce) := (HC9.out.cell (p := ⟨p, 1, none⟩) (Ty.lt ⟨_, HP8.out⟩)).trans hc8
          have hS9 : (fun w' => w'.cell? ⟨q, 32, none⟩ = some (.int .i64 (l : Int))) w9 := (HC9.out.cell (p := ⟨q, 32, none⟩) HA8.out.lt).trans hS
          have HA9 : Hid (RefAt w9 q r) := ⟨HA8.out.far (Chg.ofBelow (X := []) HC9.out) (by simp)⟩
          have HP9 : Hid (w9.heap[p]? = some (.cells #[.slice ar n cr, .slice ae ne ce] 70 (0, 0))) := ⟨(HC9.out.block p (Ty.lt ⟨_, HP8.out⟩)).trans HP8.out⟩
          have HB9 : Hid (Below w.heap.size w w9) := ⟨HB8.out.trans (HC9.out.mono HB8.out.size)⟩
          have HE9 : Hid (OwnI w9 w.heap.size (.slice ae ne ce) (endsI (L.take kk))) := ⟨own_far HE8.out (Chg.ofBelow (X := []) HC9.out) (by simp)⟩
          have HO9 : Hid (OwnE rc 35 56 w9 w.heap.size (.slice ar n cr) L) := ⟨HO8.out.far (Chg.ofBelow (X := []) HC9.out) (by simp)⟩
          have HR9 : Hid (RdI w9 (.slice (some ⟨w8.heap.size, 0, none⟩) 1 1) [(u : Int) + l]) := ⟨by rw [← Hw9.out]; exact rdi_one w8 _⟩
          have hb9 : w.heap.size ≤ w9.heap.size := HB9.out.size
          have hl9 : (endsI (L.take kk)).length + [(u : Int) + l].length ≤ 1000000000000 := by rw [endsI_len, List.length_take]; simp; omega
          refine hK.out _ _ hS9 (fun hS => ?_)
          clear hK

          refine wpAnyH_ready (rs := [11]) (by kernel_rfl) (by simp) (AllReadyH.cons rfl (fun Kc hK => ?_) AllReadyH.nil)
          refine rdy_of (by kernel_rfl) ?_
          refine op_appI (.tmp 30) (.tmp 36) rfl (by kernel_rfl) HE9.out (by kernel_rfl) HR9.out hl9 hb9 ?_
          intro v10 w10 hO10 hG10 hV10
          obtain ⟨ax, cx, e10, _⟩ := hO10.shape
          subst e10
          obtain ⟨nx, Hnx⟩ : ∃ m, Hid ((endsI (L.take kk) ++ [(u : Int) + l]).length = m) := ⟨_, ⟨rfl⟩⟩
          rw [Hnx.out] at hO10 hV10 ⊢
          have HE10 := Hid.mk hO10
          have HO10 : Hid (OwnE rc 35 56 w10 w.heap.size (.slice ar n cr) L) := ⟨HO9.out.far hG10 (fun g hg hm => (HO9.out.ty g hg).ne (own_ty HE9.out (mem_ob.1 hm)) (by decide) rfl)⟩
          have HP10 : Hid (w10.heap[p]? = some (.cells #[.slice ar n cr, .slice ae ne ce] 70 (0, 0))) := ⟨(hG10.block p (Ty.lt ⟨_, HP9.out⟩) (fun hm => (Ty.ne ⟨_, HP9.out⟩ (own_ty HE9.out (mem_ob.1 hm)) (by decide) rfl))).trans HP9.out⟩
          have HB10 : Hid (Below w.heap.size w w10) := ⟨HB9.out.trans (hG10.below hb9 (fun x hx => (HE9.out.lt x (mem_ob.1 hx)).1))⟩
          have hq10 : (fun w' => w'.cell? ⟨q, 32, none⟩ = some (.int .i64 (l : Int))) w10 := (hG10.cell (a := ⟨q, 32, none⟩) HA9.out.lt (fun hm => (Ty.ne ⟨_, HA9.out.row⟩ (own_ty HE9.out (mem_ob.1 hm)) (by decide) rfl))).trans hS
          have Hqp : Hid (q ≠ p) := ⟨Ty.ne (w := w9) ⟨_, HA9.out.row⟩ ⟨_, HP9.out⟩ (by decide)⟩
          have hpc : w10.cell? ⟨p, 1, none⟩ = some (.slice ae ne ce) := by rw [cell_of_row _ _ _ _ _ _ HP10.out]; rfl
          have hpf : w10.frozen? ⟨p, 1, none⟩ = false := frozen_of_row w10 p 1 _ 70 HP10.out
          have hq11 : (fun w' => w'.cell? ⟨q, 32, none⟩ = some (.int .i64 (l : Int))) (w10.setCell ⟨p, 1, none⟩ (.slice ax nx cx)) := (((Chg.refl [p] w10).setCell (.inl (by simp)) _).cell (a := ⟨q, 32, none⟩) (World.block_lt_of_cell? _ _ hq10) (by simp; exact Hqp.out)).trans hq10
          clear hO10 hG10 hV10
          refine hK.out _ _ hq10 (fun hS => ?_)
          clear hK
          refine wpAnyH_take (i := 12) (v := .pointer (some ⟨p, 0, none⟩)) rfl (by kernel_rfl) (by kernel_rfl) (by kernel_rfl) (fun _ _ _ h => h) (Or.inl ⟨by kernel_rfl, fun wx hx => by go_simp⟩) hS ?_
          refine wpAnyH_take (i := 13) (v := .pointer (some ⟨p, 1, none⟩)) rfl (by kernel_rfl) (by kernel_rfl) (by kernel_rfl) (fun _ _ _ h => h) (Or.inl ⟨by kernel_rfl, fun wx hx => by go_simp⟩) hS ?_
          refine wpAnyH_ready (rs := [14]) (by kernel_rfl) (by simp) (AllReadyH.cons rfl (fun Kc hK => ?_) AllReadyH.nil)
          go_simp
          refine hK.out _ _ hq11 (fun hS => ?_)
          clear hK
          refine wpAnyH_done (by kernel_rfl) ?_ _
          clear hS hq10 hq11
          go_simp
          go_wp2_with fail
          go_roundg (n - (kk + 1))
          case measure => omega
          case rel =>
            refine ⟨kk + 1, ax, nx, cx, by omega, by omega, by go_num, ⟨HO10.out.far ((Chg.refl [p] w10).setCell (.inl (by simp)) _) (fun g hg hm => by simp at hm; subst hm; exact (HO10.out.ty g hg).ne ⟨_, HP10.out⟩ (by decide) rfl)⟩, ⟨?_⟩, ⟨?_⟩, ⟨HB10.out.setCell (p := ⟨p, 1, none⟩) HPw.out _⟩⟩
            · have e : endsI (L.take (kk + 1)) = endsI (L.take kk) ++ [(u : Int) + l] := by rw [HSn.out, HSu.out]; simp
              rw [e]
              exact own_far HE10.out ((Chg.refl [p] w10).setCell (.inl (by simp)) _) (fun g hg hm => by simp at hm; subst hm; exact (own_ty HE10.out hg).ne ⟨_, HP10.out⟩ (by decide) rfl)
            · have := heap_setCell_same w10 p 1 _ 70 (.slice ax nx cx) HP10.out
              simpa using this
        · go_simp

          refine t6.mono ?_
          rintro e w8 ⟨rfl, nq, ew8⟩
          have HC8 : Hid (Below w7.heap.size w7 w8) := ⟨by rw [ew8]; exact below_drewN (Below.refl _ _) nq⟩
          have hc8 : w8.cell? ⟨p, 1, none⟩ = some (.slice ae ne ce) := (HC8.out.cell (p := ⟨p, 1, none⟩) (Ty.lt ⟨_, HP7.out⟩)).trans hc7
          have hS8 : (fun w' => w'.cell? ⟨q, 32, none⟩ = some (.int .i64 (l : Int))) w8 := (HC8.out.cell (p := ⟨q, 32, none⟩) HA7.out.lt).trans hS
          have HA8 : Hid (RefAt w8 q r) := ⟨HA7.out.far (Chg.ofBelow (X := []) HC8.out) (by simp)⟩
          have HP8 : Hid (w8.heap[p]? = some (.cells #[.slice ar n cr, .slice ae ne ce] 70 (0, 0))) := ⟨(HC8.out.block p (Ty.lt ⟨_, HP7.out⟩)).trans HP7.out⟩
          have HB8 : Hid (Below w.heap.size w w8) := ⟨HB7.out.trans (HC8.out.mono HB7.out.size)⟩
          have HE8 : Hid (OwnI w8 w.heap.size (.slice ae ne ce) (endsI (L.take kk))) := ⟨own_far HE7.out (Chg.ofBelow (X := []) HC8.out) (by simp)⟩
          have HO8 : Hid (OwnE rc 35 56 w8 w.heap.size (.slice ar n cr) L) := ⟨HO7.out.far (Chg.ofBelow (X := []) HC8.out) (by simp)⟩
          clear ew8
          refine hK.out _ _ hS8 (fun hS => ?_)
          clear hK
          refine wpAnyH_take (i := 9) (v := .int .i64 ((u : Int) + l)) rfl (by kernel_rfl) (by kernel_rfl) (by kernel_rfl) (fun _ _ _ h => h) (Or.inl ⟨by kernel_rfl, fun wx hx => by go_simp⟩) hS ?_
          refine wpAnyH_ready (rs := [4, 10]) (by kernel_rfl) (by simp) (AllReadyH.cons rfl (fun Kc hK => ?_) (AllReadyH.cons rfl (fun Kc hK => ?_) (AllReadyH.nil)))
          · go_simp
            refine hK.out _ _ hS (fun hS => ?_)
            clear hK
            refine wpAnyH_ready (rs := [10]) (by kernel_rfl) (by simp) (AllReadyH.cons rfl (fun Kc hK => ?_) (AllReadyH.nil))
            go_simp

            obtain ⟨w9, Hw9⟩ : ∃ x, Hid (w8.alloc (.cells #[.int .i64 ((u : Int) + l)] 3) = x) := ⟨_, ⟨rfl⟩⟩
            rw [Hw9.out]
            have HC9 : Hid (Below w8.heap.size w8 w9) := ⟨by rw [← Hw9.out]; exact (Below.refl _ w8).alloc (Nat.le_refl _) _⟩
            have hc9 : w9.cell? ⟨p, 1, none⟩ = some (.slice ae ne ce) := (HC9.out.cell (p := ⟨p, 1, none⟩) (Ty.lt ⟨_, HP8.out⟩)).trans hc8
            have hS9 : (fun w' => w'.cell? ⟨q, 32, none⟩ = some (.int .i64 (l : Int))) w9 := (HC9.out.cell (p := ⟨q, 32, none⟩) HA8.out.lt).trans hS
            have HA9 : Hid (RefAt w9 q r) := ⟨HA8.out.far (Chg.ofBelow (X := []) HC9.out) (by simp)⟩
            have HP9 : Hid (w9.heap[p]? = some (.cells #[.slice ar n cr, .slice ae ne ce] 70 (0, 0))) := ⟨(HC9.out.block p (Ty.lt ⟨_, HP8.out⟩)).trans HP8.out⟩
            have HB9 : Hid (Below w.heap.size w w9) := ⟨HB8.out.trans (HC9.out.mono HB8.out.size)⟩
            have HE9 : Hid (OwnI w9 w.heap.size (.slice ae ne ce) (endsI (L.take kk))) := ⟨own_far HE8.out (Chg.ofBelow (X := []) HC9.out) (by simp)⟩
            have HO9 : Hid (OwnE rc 35 56 w9 w.heap.size (.slice ar n cr) L) := ⟨HO8.out.far (Chg.ofBelow (X := []) HC9.out) (by simp)⟩
            have HR9 : Hid (RdI w9 (.slice (some ⟨w8.heap.size, 0, none⟩) 1 1) [(u : Int) + l]) := ⟨by rw [← Hw9.out]; exact rdi_one w8 _⟩
            have hb9 : w.heap.size ≤ w9.heap.size := HB9.out.size
            have hl9 : (endsI (L.take kk)).length + [(u : Int) + l].length ≤ 1000000000000 := by rw [endsI_len, List.length_take]; simp; omega
            refine hK.out _ _ hS9 (fun hS => ?_)
            clear hK

            refine wpAnyH_ready (rs := [11]) (by kernel_rfl) (by simp) (AllReadyH.cons rfl (fun Kc hK => ?_) AllReadyH.nil)
            refine rdy_of (by kernel_rfl) ?_
            refine op_appI (.tmp 30) (.tmp 36) rfl (by kernel_rfl) HE9.out (by kernel_rfl) HR9.out hl9 hb9 ?_
            intro v10 w10 hO10 hG10 hV10
            obtain ⟨ax, cx, e10, _⟩ := hO10.shape
            subst e10
            obtain ⟨nx, Hnx⟩ : ∃ m, Hid ((endsI (L.take kk) ++ [(u : Int) + l]).length = m) := ⟨_, ⟨rfl⟩⟩
            rw [Hnx.out] at hO10 hV10 ⊢
            have HE10 := Hid.mk hO10
            have HO10 : Hid (OwnE rc 35 56 w10 w.heap.size (.slice ar n cr) L) := ⟨HO9.out.far hG10 (fun g hg hm => (HO9.out.ty g hg).ne (own_ty HE9.out (mem_ob.1 hm)) (by decide) rfl)⟩
            have HP10 : Hid (w10.heap[p]? = some (.cells #[.slice ar n cr, .slice ae ne ce] 70 (0, 0))) := ⟨(hG10.block p (Ty.lt ⟨_, HP9.out⟩) (fun hm => (Ty.ne ⟨_, HP9.out⟩ (own_ty HE9.out (mem_ob.1 hm)) (by decide) rfl))).trans HP9.out⟩
            have HB10 : Hid (Below w.heap.size w w10) := ⟨HB9.out.trans (hG10.below hb9 (fun x hx => (HE9.out.lt x (mem_ob.1 hx)).1))⟩
            have hq10 : (fun w' => w'.cell? ⟨q, 32, none⟩ = some (.int .i64 (l : Int))) w10 := (hG10.cell (a := ⟨q, 32, none⟩) HA9.out.lt (fun hm => (Ty.ne ⟨_, HA9.out.row⟩ (own_ty HE9.out (mem_ob.1 hm)) (by decide) rfl))).trans hS
            have Hqp : Hid (q ≠ p) := ⟨Ty.ne (w := w9) ⟨_, HA9.out.row⟩ ⟨_, HP9.out⟩ (by decide)⟩
            have hpc : w10.cell? ⟨p, 1, none⟩ = some (.slice ae ne ce) := by rw [cell_of_row _ _ _ _ _ _ HP10.out]; rfl
            have hpf : w10.frozen? ⟨p, 1, none⟩ = false := frozen_of_row w10 p 1 _ 70 HP10.out
            have hq11 : (fun w' => w'.cell? ⟨q, 32, none⟩ = some (.int .i64 (l : Int))) (w10.setCell ⟨p, 1, none⟩ (.slice ax nx cx)) := (((Chg.refl [p] w10).setCell (.inl (by simp)) _).cell (a := ⟨q, 32, none⟩) (World.block_lt_of_cell? _ _ hq10) (by simp; exact Hqp.out)).trans hq10
            clear hO10 hG10 hV10
            refine hK.out _ _ hq10 (fun hS => ?_)
            clear hK
            refine wpAnyH_take (i := 12) (v := .pointer (some ⟨p, 0, none⟩)) rfl (by kernel_rfl) (by kernel_rfl) (by kernel_rfl) (fun _ _ _ h => h) (Or.inl ⟨by kernel_rfl, fun wx hx => by go_simp⟩) hS ?_
            refine wpAnyH_take (i := 13) (v := .pointer (some ⟨p, 1, none⟩)) rfl (by kernel_rfl) (by kernel_rfl) (by kernel_rfl) (fun _ _ _ h => h) (Or.inl ⟨by kernel_rfl, fun wx hx => by go_simp⟩) hS ?_
            refine wpAnyH_ready (rs := [14]) (by kernel_rfl) (by simp) (AllReadyH.cons rfl (fun Kc hK => ?_) AllReadyH.nil)
            go_simp
            refine hK.out _ _ hq11 (fun hS => ?_)
            clear hK
            refine wpAnyH_done (by kernel_rfl) ?_ _
            clear hS hq10 hq11
            go_simp
            go_wp2_with fail
            go_roundg (n - (kk + 1))
            case measure => omega
            case rel =>
              refine ⟨kk + 1, ax, nx, cx, by omega, by omega, by go_num, ⟨HO10.out.far ((Chg.refl [p] w10).setCell (.inl (by simp)) _) (fun g hg hm => by simp at hm; subst hm; exact (HO10.out.ty g hg).ne ⟨_, HP10.out⟩ (by decide) rfl)⟩, ⟨?_⟩, ⟨?_⟩, ⟨HB10.out.setCell (p := ⟨p, 1, none⟩) HPw.out _⟩⟩
              · have e : endsI (L.take (kk + 1)) = endsI (L.take kk) ++ [(u : Int) + l] := by rw [HSn.out, HSu.out]; simp
                rw [e]
                exact own_far HE10.out ((Chg.refl [p] w10).setCell (.inl (by simp)) _) (fun g hg hm => by simp at hm; subst hm; exact (own_ty HE10.out hg).ne ⟨_, HP10.out⟩ (by decide) rfl)
              · have := heap_setCell_same w10 p 1 _ 70 (.slice ax nx cx) HP10.out
                simpa using this
          · go_simp

            obtain ⟨w9, Hw9⟩ : ∃ x, Hid (w8.alloc (.cells #[.int .i64 ((u : Int) + l)] 3) = x) := ⟨_, ⟨rfl⟩⟩
            rw [Hw9.out]
            have HC9 : Hid (Below w8.heap.size w8 w9) := ⟨by rw [← Hw9.out]; exact (Below.refl _ w8).alloc (Nat.le_refl _) _⟩
            have hc9 : w9.cell? ⟨p, 1, none⟩ = some (.slice ae ne ce) := (HC9.out.cell (p := ⟨p, 1, none⟩) (Ty.lt ⟨_, HP8.out⟩)).trans hc8
            have hS9 : (fun w' => w'.cell? ⟨q, 32, none⟩ = some (.int .i64 (l : Int))) w9 := (HC9.out.cell (p := ⟨q, 32, none⟩) HA8.out.lt).trans hS
            have HA9 : Hid (RefAt w9 q r) := ⟨HA8.out.far (Chg.ofBelow (X := []) HC9.out) (by simp)⟩
            have HP9 : Hid (w9.heap[p]? = some (.cells #[.slice ar n cr, .slice ae ne ce] 70 (0, 0))) := ⟨(HC9.out.block p (Ty.lt ⟨_, HP8.out⟩)).trans HP8.out⟩
            have HB9 : Hid (Below w.heap.size w w9) := ⟨HB8.out.trans (HC9.out.mono HB8.out.size)⟩
            have HE9 : Hid (OwnI w9 w.heap.size (.slice ae ne ce) (endsI (L.take kk))) := ⟨own_far HE8.out (Chg.ofBelow (X := []) HC9.out) (by simp)⟩
            have HO9 : Hid (OwnE rc 35 56 w9 w.heap.size (.slice ar n cr) L) := ⟨HO8.out.far (Chg.ofBelow (X := []) HC9.out) (by simp)⟩
            have HR9 : Hid (RdI w9 (.slice (some ⟨w8.heap.size, 0, none⟩) 1 1) [(u : Int) + l]) := ⟨by rw [← Hw9.out]; exact rdi_one w8 _⟩
            have hb9 : w.heap.size ≤ w9.heap.size := HB9.out.size
            have hl9 : (endsI (L.take kk)).length + [(u : Int) + l].length ≤ 1000000000000 := by rw [endsI_len, List.length_take]; simp; omega
            refine hK.out _ _ hS9 (fun hS => ?_)
            clear hK
            refine wpAnyH_ready (rs := [4]) (by kernel_rfl) (by simp) (AllReadyH.cons rfl (fun Kc hK => ?_) (AllReadyH.nil))
            go_simp
            refine hK.out _ _ hS (fun hS => ?_)
            clear hK

            refine wpAnyH_ready (rs := [11]) (by kernel_rfl) (by simp) (AllReadyH.cons rfl (fun Kc hK => ?_) AllReadyH.nil)
            refine rdy_of (by kernel_rfl) ?_
            refine op_appI (.tmp 30) (.tmp 36) rfl (by kernel_rfl) HE9.out (by kernel_rfl) HR9.out hl9 hb9 ?_
            intro v10 w10 hO10 hG10 hV10
            obtain ⟨ax, cx, e10, _⟩ := hO10.shape
            subst e10
            obtain ⟨nx, Hnx⟩ : ∃ m, Hid ((endsI (L.take kk) ++ [(u : Int) + l]).length = m) := ⟨_, ⟨rfl⟩⟩
            rw [Hnx.out] at hO10 hV10 ⊢
            have HE10 := Hid.mk hO10
            have HO10 : Hid (OwnE rc 35 56 w10 w.heap.size (.slice ar n cr) L) := ⟨HO9.out.far hG10 (fun g hg hm => (HO9.out.ty g hg).ne (own_ty HE9.out (mem_ob.1 hm)) (by decide) rfl)⟩
            have HP10 : Hid (w10.heap[p]? = some (.cells #[.slice ar n cr, .slice ae ne ce] 70 (0, 0))) := ⟨(hG10.block p (Ty.lt ⟨_, HP9.out⟩) (fun hm => (Ty.ne ⟨_, HP9.out⟩ (own_ty HE9.out (mem_ob.1 hm)) (by decide) rfl))).trans HP9.out⟩
            have HB10 : Hid (Below w.heap.size w w10) := ⟨HB9.out.trans (hG10.below hb9 (fun x hx => (HE9.out.lt x (mem_ob.1 hx)).1))⟩
            have hq10 : (fun w' => w'.cell? ⟨q, 32, none⟩ = some (.int .i64 (l : Int))) w10 := (hG10.cell (a := ⟨q, 32, none⟩) HA9.out.lt (fun hm => (Ty.ne ⟨_, HA9.out.row⟩ (own_ty HE9.out (mem_ob.1 hm)) (by decide) rfl))).trans hS
            have Hqp : Hid (q ≠ p) := ⟨Ty.ne (w := w9) ⟨_, HA9.out.row⟩ ⟨_, HP9.out⟩ (by decide)⟩
            have hpc : w10.cell? ⟨p, 1, none⟩ = some (.slice ae ne ce) := by rw [cell_of_row _ _ _ _ _ _ HP10.out]; rfl
            have hpf : w10.frozen? ⟨p, 1, none⟩ = false := frozen_of_row w10 p 1 _ 70 HP10.out
            have hq11 : (fun w' => w'.cell? ⟨q, 32, none⟩ = some (.int .i64 (l : Int))) (w10.setCell ⟨p, 1, none⟩ (.slice ax nx cx)) := (((Chg.refl [p] w10).setCell (.inl (by simp)) _).cell (a := ⟨q, 32, none⟩) (World.block_lt_of_cell? _ _ hq10) (by simp; exact Hqp.out)).trans hq10
            clear hO10 hG10 hV10
            refine hK.out _ _ hq10 (fun hS => ?_)
            clear hK
            refine wpAnyH_take (i := 12) (v := .pointer (some ⟨p, 0, none⟩)) rfl (by kernel_rfl) (by kernel_rfl) (by kernel_rfl) (fun _ _ _ h => h) (Or.inl ⟨by kernel_rfl, fun wx hx => by go_simp⟩) hS ?_
            refine wpAnyH_take (i := 13) (v := .pointer (some ⟨p, 1, none⟩)) rfl (by kernel_rfl) (by kernel_rfl) (by kernel_rfl) (fun _ _ _ h => h) (Or.inl ⟨by kernel_rfl, fun wx hx => by go_simp⟩) hS ?_
            refine wpAnyH_ready (rs := [14]) (by kernel_rfl) (by simp) (AllReadyH.cons rfl (fun Kc hK => ?_) AllReadyH.nil)
            go_simp
            refine hK.out _ _ hq11 (fun hS => ?_)
            clear hK
            refine wpAnyH_done (by kernel_rfl) ?_ _
            clear hS hq10 hq11
            go_simp
            go_wp2_with fail
            go_roundg (n - (kk + 1))
            case measure => omega
            case rel =>
              refine ⟨kk + 1, ax, nx, cx, by omega, by omega, by go_num, ⟨HO10.out.far ((Chg.refl [p] w10).setCell (.inl (by simp)) _) (fun g hg hm => by simp at hm; subst hm; exact (HO10.out.ty g hg).ne ⟨_, HP10.out⟩ (by decide) rfl)⟩, ⟨?_⟩, ⟨?_⟩, ⟨HB10.out.setCell (p := ⟨p, 1, none⟩) HPw.out _⟩⟩
              · have e : endsI (L.take (kk + 1)) = endsI (L.take kk) ++ [(u : Int) + l] := by rw [HSn.out, HSu.out]; simp
                rw [e]
                exact own_far HE10.out ((Chg.refl [p] w10).setCell (.inl (by simp)) _) (fun g hg hm => by simp at hm; subst hm; exact (own_ty HE10.out hg).ne ⟨_, HP10.out⟩ (by decide) rfl)
              · have := heap_setCell_same w10 p 1 _ 70 (.slice ax nx cx) HP10.out
                simpa using this

      · obtain rfl : n = kk := by omega
        have HTt : Hid (L.take n = L) := ⟨List.take_of_length_le (by rw [Hn.out]; exact Nat.le_refl _)⟩
        rw [HTt.out] at HE
        go_wp2_with fail
        go_ret2
        exact ⟨p, rfl, ⟨_, _, HP.out, (HO.out.rd r0).toR H.out.sums, OwnI.rd HE.out⟩, HB.out⟩
  · refine rdy_of (by kernel_rfl) ?_
    refine op_makeI (.const (.int .i64 0)) (.tmp 16) rfl n rfl (by kernel_rfl) (by omega) ?_
    intro w3 hO3 hb3 hs3
    have HE3 : Hid (OwnI w3 w.heap.size (.slice (some ⟨w2.heap.size, 0, none⟩) 0 n) []) := ⟨own_base hO3 (fun g hg => Nat.le_trans HB2.out.size (hO3.lt g hg).1)⟩
    have HB3 : Hid (Below w.heap.size w w3) := ⟨HB2.out.trans (hb3.mono HB2.out.size)⟩
    refine hK _ _ ?_
    clear hK hO3 hb3 hs3
    refine wpAny_ready (rs := [1]) (by kernel_rfl) (by simp) (AllReady.cons rfl (fun K hK => ?_) AllReady.nil)
    go_simp
    refine (clone_any (w := w3) _ L (H.out.below HB3.out) (by rw [Hn.out]; omega)).mono ?_
    rintro e w4 ⟨rv, rfl, hO4, hb4⟩
    have HO4 : Hid (OwnE rc 35 56 w4 w.heap.size rv L) := ⟨hO4.base HB3.out.size⟩
    have HE4 : Hid (OwnI w4 w.heap.size (.slice (some ⟨w2.heap.size, 0, none⟩) 0 n) []) := ⟨own_far HE3.out (Chg.ofBelow (X := []) hb4) (by simp)⟩
    have HB4 : Hid (Below w.heap.size w w4) := ⟨HB3.out.trans (hb4.mono HB3.out.size)⟩
    obtain ⟨ar, cr, e3, _⟩ := (hO4.rd r0).shape
    subst e3
    rw [Hn.out] at HO4 ⊢
    refine hK _ _ ?_
    clear hK hO4 hb4 HE3 HB3
    clear w3
    generalize w2.heap.size = ge at HE4 ⊢
    refine wpAny_take (i := 5) (v := .agg #[.slice ar n cr, .slice (some ⟨ge, 0, none⟩) 0 n]) rfl (by kernel_rfl) (by kernel_rfl) (by kernel_rfl) (fun _ _ _ h => h) (Or.inl ⟨by kernel_rfl, fun wx => by go_simp⟩) ?_
    refine wpAny_ready (rs := [6]) (by kernel_rfl) (by simp) (AllReady.cons rfl (fun K hK => ?_) AllReady.nil)
    go_simp
    refine hK _ _ ?_
    clear hK
    refine wpAny_take (i := 7) (v := .pointer (some ⟨w4.heap.size, 0, none⟩)) rfl (by kernel_rfl) (by kernel_rfl) (by kernel_rfl) (fun _ _ _ h => h) (Or.inl ⟨by kernel_rfl, fun wx => by kernel_rfl⟩) ?_
    refine wpAny_done (by kernel_rfl) ?_ _
    obtain ⟨p, Hp⟩ : ∃ p, Hid (w4.heap.size = p) := ⟨_, ⟨rfl⟩⟩
    obtain ⟨w5, Hw5⟩ : ∃ x, Hid (w4.alloc (.cells #[.slice ar n cr, .slice (some ⟨ge, 0, none⟩) 0 n] 70) = x) := ⟨_, ⟨rfl⟩⟩
    have HC5 : Hid (Below w4.heap.size w4 w5) := ⟨by rw [← Hw5.out]; exact (Below.refl _ w4).alloc (Nat.le_refl _) _⟩
    have HP5 : Hid (w5.heap[p]? = some (.cells #[.slice ar n cr, .slice (some ⟨ge, 0, none⟩) 0 n] 70 (0, 0))) := ⟨by rw [← Hw5.out, ← Hp.out]; exact heap_alloc_new w4 _⟩
    have HO5 : Hid (OwnE rc 35 56 w5 w.heap.size (.slice ar n cr) L) := ⟨HO4.out.far (Chg.ofBelow (X := []) HC5.out) (by simp)⟩
    have HE5 : Hid (OwnI w5 w.heap.size (.slice (some ⟨ge, 0, none⟩) 0 n) (endsI (L.take 0))) := ⟨own_far HE4.out (Chg.ofBelow (X := []) HC5.out) (by simp)⟩
    have HB5 : Hid (Below w.heap.size w w5) := ⟨HB4.out.trans (HC5.out.mono HB4.out.size)⟩
    have HPw : Hid (w.heap.size ≤ p) := ⟨by rw [← Hp.out]; exact HB4.out.size⟩
    rw [Hw5.out, Hp.out]
    go_simp
    go_wp2_with fail
    go_loopg [7, 22] n (fun gg _ s22 wr => ∃ (kk : Nat) (ae : Option Addr) (ne ce : Nat), kk ≤ n ∧ n - kk ≤ gg ∧ s22 = .int .i64 (kk : Int) ∧ Hid (OwnE rc 35 56 wr w.heap.size (.slice ar n cr) L) ∧ Hid (OwnI wr w.heap.size (.slice ae ne ce) (endsI (L.take kk))) ∧ Hid (wr.heap[p]? = some (.cells #[.slice ar n cr, .slice ae ne ce] 70 (0, 0))) ∧ Hid (Below w.heap.size w wr))
    case atStart => exact ⟨0, _, _, _, Nat.zero_le _, by omega, rfl, HO5, HE5, HP5, HB5⟩
    case round =>
      clear HO5 HE5 HP5 HB5 HC5 Hw5 Hp HO4 HE4 HB4
      obtain ⟨kk, ae, ne, ce, hkk, hgg, rfl, HO, HE, HP, HB⟩ := hrel
      by_cases hlt : kk < n
      · have hltz : (kk : Int) < (n : Int) := by omega
        have hkL : kk < L.length := by rw [Hn.out]; exact hlt
        have hRd : RdR wr (.slice av n cv) L := H.out.below HB.out
        obtain ⟨b, off, cap, e, hc⟩ := hRd.ref hkL
        have hsm := hRd.sum hkL
        have hlr := lens_at HR.out hkL
        rw [Hn.out] at e
        simp at e
        obtain ⟨rfl, rfl⟩ := e
        have HSn := Hid.mk (endsI_snoc L hkL)
        have HSu := Hid.mk (Rp.upto_succ (lens L) kk (by rw [lens_len]; exact hkL))
        have HSs : Hid ((lens (L.take kk)).sum = Rp.upto (lens L) kk) := ⟨by rw [lens_take]; rfl⟩
        have hub := Nat.le_trans (Rp.upto_le (lens L) kk) (lens_sum HR.out)
        generalize L.getD kk r0 = r at hc hsm hlr
        generalize (lens L).getD kk 0 = l at hlr HSu
        generalize Rp.upto (lens L) kk = u at HSu HSs hub
        have Hc := Hid.mk hc
        have Hi : Hid ((Try.prog.info? 56).map (·.size) = some (rc r).length) := ⟨by rw [rc_len r hsm]; exact info28⟩
        have Hsm := Hid.mk hsm
        have Hlr : Hid (r.l = (l : Int)) := ⟨hlr.1⟩
        have hwu : IntKind.i64.wrap ((u : Int) + l) = (u : Int) + l := IntWalk.i64_in _ ⟨by omega, by have := hlr.2.2; omega⟩
        have hl512 := hlr.2
        clear hc hsm hRd hlr
        go_upto_region 8 with (first
          | (refine wp_loadA rfl 56 (.tmp 24) rfl b (off + kk * 35) rfl (rc r) _ Hc.out Try.underlying56 rfl Hi.out ?_)
          | (refine wp_storeR rfl (.tmp 7) (.tmp 25) rfl wr.heap.size r Hsm.out rfl rfl _ (heap_alloc_new wr _) rfl ?_; intro w6 hA3 hG3; have HA3 := Hid.mk hA3; have HB3 : Hid (Below wr.heap.size wr w6) := ⟨((Chg.ofBelow (X := []) ((Below.refl _ wr).alloc (Nat.le_refl _) _)).thenNew hG3 (by simp)).below (Nat.le_refl _) (by simp)⟩; clear hA3 hG3))
        obtain ⟨q, Hq⟩ : ∃ q, Hid (wr.heap.size = q) := ⟨_, ⟨rfl⟩⟩
        rw [Hq.out] at HA3 HB3 ⊢
        clear Hc
        obtain ⟨w7, Hw7⟩ : ∃ x, Hid (w6.drew = x) := ⟨_, ⟨rfl⟩⟩
        have HC7 : Hid (Below wr.heap.size wr w7) := ⟨by rw [← Hw7.out, Hq.out]; exact ⟨HB3.out.os, HB3.out.tape, HB3.out.output, HB3.out.size, HB3.out.block⟩⟩
        have HA7 : Hid (RefAt w7 q r) := ⟨by rw [← Hw7.out]; exact ⟨HA3.out.row, HA3.out.sm⟩⟩
        have HO7 : Hid (OwnE rc 35 56 w7 w.heap.size (.slice ar n cr) L) := ⟨HO.out.far (Chg.ofBelow (X := []) HC7.out) (by simp)⟩
        have HE7 : Hid (OwnI w7 w.heap.size (.slice ae ne ce) (endsI (L.take kk))) := ⟨own_far HE.out (Chg.ofBelow (X := []) HC7.out) (by simp)⟩
        have HP7 : Hid (w7.heap[p]? = some (.cells #[.slice ar n cr, .slice ae ne ce] 70 (0, 0))) := ⟨(HC7.out.block p (Ty.lt ⟨_, HP.out⟩)).trans HP.out⟩
        have HB7 : Hid (Below w.heap.size w w7) := ⟨HB.out.trans (HC7.out.mono HB.out.size)⟩
        have hc7 : w7.cell? ⟨p, 1, none⟩ = some (.slice ae ne ce) := by rw [cell_of_row _ _ _ _ _ _ HP7.out]; rfl
        have hS7 : (fun w' => w'.cell? ⟨q, 32, none⟩ = some (.int .i64 (l : Int))) w6.drew := by
          rw [Hw7.out]
          have := (HA7.out.cell 32).trans (rc_num r Hsm.out).1
          rw [Hlr.out] at this
          exact this
        have t6 := size_e (w := w7) hc7 (OwnI.rd HE7.out) (by rw [List.length_take]; omega)
        rw [HSs.out] at t6
        clear HB3 HC7 HA3 HO HE HP HB
        refine wp_region_held_drew (S := (fun w' => w'.cell? ⟨q, 32, none⟩ = some (.int .i64 (l : Int)))) (by kernel_rfl) hS7 (fun hS => ?_)
        rw [Hw7.out] at hS ⊢
        clear hS7
        refine wpAnyH_take (i := 0) (v := .pointer (some ⟨p, 0, none⟩)) rfl (by kernel_rfl) (by kernel_rfl) (by kernel_rfl) (fun _ _ _ h => h) (Or.inl ⟨by kernel_rfl, fun _ _ => by kernel_rfl⟩) hS ?_
        refine wpAnyH_take (i := 1) (v := .pointer (some ⟨p, 0, none⟩)) rfl (by kernel_rfl) (by kernel_rfl) (by kernel_rfl) (fun _ _ _ h => h) (Or.inl ⟨by kernel_rfl, fun _ _ => by kernel_rfl⟩) hS ?_
        refine wpAnyH_take (i := 2) (v := .pointer (some ⟨p, 0, none⟩)) rfl (by kernel_rfl) (by kernel_rfl) (by kernel_rfl) (fun _ _ _ h => h) (Or.inl ⟨by kernel_rfl, fun wx hx => by go_simp⟩) hS ?_
        refine wpAnyH_take (i := 3) (v := .pointer (some ⟨p, 1, none⟩)) rfl (by kernel_rfl) (by kernel_rfl) (by kernel_rfl) (fun _ _ _ h => h) (Or.inl ⟨by kernel_rfl, fun wx hx => by go_simp⟩) hS ?_
        refine wpAnyH_take (i := 5) (v := .pointer (some ⟨p, 0, none⟩)) rfl (by kernel_rfl) (by kernel_rfl) (by kernel_rfl) (fun _ _ _ h => h) (Or.inl ⟨by kernel_rfl, fun _ _ => by kernel_rfl⟩) hS ?_
        refine wpAnyH_take (i := 7) (v := .pointer (some ⟨q, 32, none⟩)) rfl (by kernel_rfl) (by kernel_rfl) (by kernel_rfl) (fun _ _ _ h => h) (Or.inl ⟨by kernel_rfl, fun wx hx => by go_simp⟩) hS ?_
        refine wpAnyH_take (i := 8) (v := .int .i64 (l : Int)) rfl (by kernel_rfl) (by kernel_rfl) (by kernel_rfl) (fun _ _ _ h => h) (Or.inl ⟨by kernel_rfl, fun wx hx => by have hx1 := hx; go_simp⟩) hS ?_
        refine wpAnyH_ready (rs := [4, 6]) (by kernel_rfl) (by simp) (AllReadyH.cons rfl (fun Kc hK => ?_) (AllReadyH.cons rfl (fun Kc hK => ?_) (AllReadyH.nil)))
        · go_simp
          refine hK.out _ _ hS (fun hS => ?_)
          clear hK
          refine wpAnyH_ready (rs := [6]) (by kernel_rfl) (by simp) (AllReadyH.cons rfl (fun Kc hK => ?_) (AllReadyH.nil))
          go_simp

          refine t6.mono ?_
          rintro e w8 ⟨rfl, nq, ew8⟩
          have HC8 : Hid (Below w7.heap.size w7 w8) := ⟨by rw [ew8]; exact below_drewN (Below.refl _ _) nq⟩
          have hc8 : w8.cell? ⟨p, 1, none⟩ = some (.slice ae ne ce) := (HC8.out.cell (p := ⟨p, 1, none⟩) (Ty.lt ⟨_, HP7.out⟩)).trans hc7
          have hS8 : (fun w' => w'.cell? ⟨q, 32, none⟩ = some (.int .i64 (l : Int))) w8 := (HC8.out.cell (p := ⟨q, 32, none⟩) HA7.out.lt).trans hS
          have HA8 : Hid (RefAt w8 q r) := ⟨HA7.out.far (Chg.ofBelow (X := []) HC8.out) (by simp)⟩
          have HP8 : Hid (w8.heap[p]? = some (.cells #[.slice ar n cr, .slice ae ne ce] 70 (0, 0))) := ⟨(HC8.out.block p (Ty.lt ⟨_, HP7.out⟩)).trans HP7.out⟩
          have HB8 : Hid (Below w.heap.size w w8) := ⟨HB7.out.trans (HC8.out.mono HB7.out.size)⟩
          have HE8 : Hid (OwnI w8 w.heap.size (.slice ae ne ce) (endsI (L.take kk))) := ⟨own_far HE7.out (Chg.ofBelow (X := []) HC8.out) (by simp)⟩
          have HO8 : Hid (OwnE rc 35 56 w8 w.heap.size (.slice ar n cr) L) := ⟨HO7.out.far (Chg.ofBelow (X := []) HC8.out) (by simp)⟩
          clear ew8
          refine hK.out _ _ hS8 (fun hS => ?_)
          clear hK
          refine wpAnyH_take (i := 9) (v := .int .i64 ((u : Int) + l)) rfl (by kernel_rfl) (by kernel_rfl) (by kernel_rfl) (fun _ _ _ h => h) (Or.inl ⟨by kernel_rfl, fun wx hx => by go_simp⟩) hS ?_
          refine wpAnyH_ready (rs := [10]) (by kernel_rfl) (by simp) (AllReadyH.cons rfl (fun Kc hK => ?_) (AllReadyH.nil))
          go_simp

          obtain ⟨w9, Hw9⟩ : ∃ x, Hid (w8.alloc (.cells #[.int .i64 ((u : Int) + l)] 3) = x) := ⟨_, ⟨rfl⟩⟩
          rw [Hw9.out]
          have HC9 : Hid (Below w8.heap.size w8 w9) := ⟨by rw [← Hw9.out]; exact (Below.refl _ w8).alloc (Nat.le_refl _) _⟩
          have hc9 : w9.cell? ⟨p, 1, none⟩ = some (.slice ae ne ce) := (HC9.out.cell (p := ⟨p, 1, none⟩) (Ty.lt ⟨_, HP8.out⟩)).trans hc8
          have hS9 : (fun w' => w'.cell? ⟨q, 32, none⟩ = some (.int .i64 (l : Int))) w9 := (HC9.out.cell (p := ⟨q, 32, none⟩) HA8.out.lt).trans hS
          have HA9 : Hid (RefAt w9 q r) := ⟨HA8.out.far (Chg.ofBelow (X := []) HC9.out) (by simp)⟩
          have HP9 : Hid (w9.heap[p]? = some (.cells #[.slice ar n cr, .slice ae ne ce] 70 (0, 0))) := ⟨(HC9.out.block p (Ty.lt ⟨_, HP8.out⟩)).trans HP8.out⟩
          have HB9 : Hid (Below w.heap.size w w9) := ⟨HB8.out.trans (HC9.out.mono HB8.out.size)⟩
          have HE9 : Hid (OwnI w9 w.heap.size (.slice ae ne ce) (endsI (L.take kk))) := ⟨own_far HE8.out (Chg.ofBelow (X := []) HC9.out) (by simp)⟩
          have HO9 : Hid (OwnE rc 35 56 w9 w.heap.size (.slice ar n cr) L) := ⟨HO8.out.far (Chg.ofBelow (X := []) HC9.out) (by simp)⟩
          have HR9 : Hid (RdI w9 (.slice (some ⟨w8.heap.size, 0, none⟩) 1 1) [(u : Int) + l]) := ⟨by rw [← Hw9.out]; exact rdi_one w8 _⟩
          have hb9 : w.heap.size ≤ w9.heap.size := HB9.out.size
          have hl9 : (endsI (L.take kk)).length + [(u : Int) + l].length ≤ 1000000000000 := by rw [endsI_len, List.length_take]; simp; omega
          refine hK.out _ _ hS9 (fun hS => ?_)
          clear hK

          refine wpAnyH_ready (rs := [11]) (by kernel_rfl) (by simp) (AllReadyH.cons rfl (fun Kc hK => ?_) AllReadyH.nil)
          refine rdy_of (by kernel_rfl) ?_
          refine op_appI (.tmp 30) (.tmp 36) rfl (by kernel_rfl) HE9.out (by kernel_rfl) HR9.out hl9 hb9 ?_
          intro v10 w10 hO10 hG10 hV10
          obtain ⟨ax, cx, e10, _⟩ := hO10.shape
          subst e10
          obtain ⟨nx, Hnx⟩ : ∃ m, Hid ((endsI (L.take kk) ++ [(u : Int) + l]).length = m) := ⟨_, ⟨rfl⟩⟩
          rw [Hnx.out] at hO10 hV10 ⊢
          have HE10 := Hid.mk hO10
          have HO10 : Hid (OwnE rc 35 56 w10 w.heap.size (.slice ar n cr) L) := ⟨HO9.out.far hG10 (fun g hg hm => (HO9.out.ty g hg).ne (own_ty HE9.out (mem_ob.1 hm)) (by decide) rfl)⟩
          have HP10 : Hid (w10.heap[p]? = some (.cells #[.slice ar n cr, .slice ae ne ce] 70 (0, 0))) := ⟨(hG10.block p (Ty.lt ⟨_, HP9.out⟩) (fun hm => (Ty.ne ⟨_, HP9.out⟩ (own_ty HE9.out (mem_ob.1 hm)) (by decide) rfl))).trans HP9.out⟩
          have HB10 : Hid (Below w.heap.size w w10) := ⟨HB9.out.trans (hG10.below hb9 (fun x hx => (HE9.out.lt x (mem_ob.1 hx)).1))⟩
          have hq10 : (fun w' => w'.cell? ⟨q, 32, none⟩ = some (.int .i64 (l : Int))) w10 := (hG10.cell (a := ⟨q, 32, none⟩) HA9.out.lt (fun hm => (Ty.ne ⟨_, HA9.out.row⟩ (own_ty HE9.out (mem_ob.1 hm)) (by decide) rfl))).trans hS
          have Hqp : Hid (q ≠ p) := ⟨Ty.ne (w := w9) ⟨_, HA9.out.row⟩ ⟨_, HP9.out⟩ (by decide)⟩
          have hpc : w10.cell? ⟨p, 1, none⟩ = some (.slice ae ne ce) := by rw [cell_of_row _ _ _ _ _ _ HP10.out]; rfl
          have hpf : w10.frozen? ⟨p, 1, none⟩ = false := frozen_of_row w10 p 1 _ 70 HP10.out
          have hq11 : (fun w' => w'.cell? ⟨q, 32, none⟩ = some (.int .i64 (l : Int))) (w10.setCell ⟨p, 1, none⟩ (.slice ax nx cx)) := (((Chg.refl [p] w10).setCell (.inl (by simp)) _).cell (a := ⟨q, 32, none⟩) (World.block_lt_of_cell? _ _ hq10) (by simp; exact Hqp.out)).trans hq10
          clear hO10 hG10 hV10
          refine hK.out _ _ hq10 (fun hS => ?_)
          clear hK
          refine wpAnyH_take (i := 12) (v := .pointer (some ⟨p, 0, none⟩)) rfl (by kernel_rfl) (by kernel_rfl) (by kernel_rfl) (fun _ _ _ h => h) (Or.inl ⟨by kernel_rfl, fun wx hx => by go_simp⟩) hS ?_
          refine wpAnyH_take (i := 13) (v := .pointer (some ⟨p, 1, none⟩)) rfl (by kernel_rfl) (by kernel_rfl) (by kernel_rfl) (fun _ _ _ h => h) (Or.inl ⟨by kernel_rfl, fun wx hx => by go_simp⟩) hS ?_
          refine wpAnyH_ready (rs := [14]) (by kernel_rfl) (by simp) (AllReadyH.cons rfl (fun Kc hK => ?_) AllReadyH.nil)
          go_simp
          refine hK.out _ _ hq11 (fun hS => ?_)
          clear hK
          refine wpAnyH_done (by kernel_rfl) ?_ _
          clear hS hq10 hq11
          go_simp
          go_wp2_with fail
          go_roundg (n - (kk + 1))
          case measure => omega
          case rel =>
            refine ⟨kk + 1, ax, nx, cx, by omega, by omega, by go_num, ⟨HO10.out.far ((Chg.refl [p] w10).setCell (.inl (by simp)) _) (fun g hg hm => by simp at hm; subst hm; exact (HO10.out.ty g hg).ne ⟨_, HP10.out⟩ (by decide) rfl)⟩, ⟨?_⟩, ⟨?_⟩, ⟨HB10.out.setCell (p := ⟨p, 1, none⟩) HPw.out _⟩⟩
            · have e : endsI (L.take (kk + 1)) = endsI (L.take kk) ++ [(u : Int) + l] := by rw [HSn.out, HSu.out]; simp
              rw [e]
              exact own_far HE10.out ((Chg.refl [p] w10).setCell (.inl (by simp)) _) (fun g hg hm => by simp at hm; subst hm; exact (own_ty HE10.out hg).ne ⟨_, HP10.out⟩ (by decide) rfl)
            · have := heap_setCell_same w10 p 1 _ 70 (.slice ax nx cx) HP10.out
              simpa using this
        · go_simp

          refine t6.mono ?_
          rintro e w8 ⟨rfl, nq, ew8⟩
          have HC8 : Hid (Below w7.heap.size w7 w8) := ⟨by rw [ew8]; exact below_drewN (Below.refl _ _) nq⟩
          have hc8 : w8.cell? ⟨p, 1, none⟩ = some (.slice ae ne ce) := (HC8.out.cell (p := ⟨p, 1, none⟩) (Ty.lt ⟨_, HP7.out⟩)).trans hc7
          have hS8 : (fun w' => w'.cell? ⟨q, 32, none⟩ = some (.int .i64 (l : Int))) w8 := (HC8.out.cell (p := ⟨q, 32, none⟩) HA7.out.lt).trans hS
          have HA8 : Hid (RefAt w8 q r) := ⟨HA7.out.far (Chg.ofBelow (X := []) HC8.out) (by simp)⟩
          have HP8 : Hid (w8.heap[p]? = some (.cells #[.slice ar n cr, .slice ae ne ce] 70 (0, 0))) := ⟨(HC8.out.block p (Ty.lt ⟨_, HP7.out⟩)).trans HP7.out⟩
          have HB8 : Hid (Below w.heap.size w w8) := ⟨HB7.out.trans (HC8.out.mono HB7.out.size)⟩
          have HE8 : Hid (OwnI w8 w.heap.size (.slice ae ne ce) (endsI (L.take kk))) := ⟨own_far HE7.out (Chg.ofBelow (X := []) HC8.out) (by simp)⟩
          have HO8 : Hid (OwnE rc 35 56 w8 w.heap.size (.slice ar n cr) L) := ⟨HO7.out.far (Chg.ofBelow (X := []) HC8.out) (by simp)⟩
          clear ew8
          refine hK.out _ _ hS8 (fun hS => ?_)
          clear hK
          refine wpAnyH_take (i := 9) (v := .int .i64 ((u : Int) + l)) rfl (by kernel_rfl) (by kernel_rfl) (by kernel_rfl) (fun _ _ _ h => h) (Or.inl ⟨by kernel_rfl, fun wx hx => by go_simp⟩) hS ?_
          refine wpAnyH_ready (rs := [4, 10]) (by kernel_rfl) (by simp) (AllReadyH.cons rfl (fun Kc hK => ?_) (AllReadyH.cons rfl (fun Kc hK => ?_) (AllReadyH.nil)))
          · go_simp
            refine hK.out _ _ hS (fun hS => ?_)
            clear hK
            refine wpAnyH_ready (rs := [10]) (by kernel_rfl) (by simp) (AllReadyH.cons rfl (fun Kc hK => ?_) (AllReadyH.nil))
            go_simp

            obtain ⟨w9, Hw9⟩ : ∃ x, Hid (w8.alloc (.cells #[.int .i64 ((u : Int) + l)] 3) = x) := ⟨_, ⟨rfl⟩⟩
            rw [Hw9.out]
            have HC9 : Hid (Below w8.heap.size w8 w9) := ⟨by rw [← Hw9.out]; exact (Below.refl _ w8).alloc (Nat.le_refl _) _⟩
            have hc9 : w9.cell? ⟨p, 1, none⟩ = some (.slice ae ne ce) := (HC9.out.cell (p := ⟨p, 1, none⟩) (Ty.lt ⟨_, HP8.out⟩)).trans hc8
            have hS9 : (fun w' => w'.cell? ⟨q, 32, none⟩ = some (.int .i64 (l : Int))) w9 := (HC9.out.cell (p := ⟨q, 32, none⟩) HA8.out.lt).trans hS
            have HA9 : Hid (RefAt w9 q r) := ⟨HA8.out.far (Chg.ofBelow (X := []) HC9.out) (by simp)⟩
            have HP9 : Hid (w9.heap[p]? = some (.cells #[.slice ar n cr, .slice ae ne ce] 70 (0, 0))) := ⟨(HC9.out.block p (Ty.lt ⟨_, HP8.out⟩)).trans HP8.out⟩
            have HB9 : Hid (Below w.heap.size w w9) := ⟨HB8.out.trans (HC9.out.mono HB8.out.size)⟩
            have HE9 : Hid (OwnI w9 w.heap.size (.slice ae ne ce) (endsI (L.take kk))) := ⟨own_far HE8.out (Chg.ofBelow (X := []) HC9.out) (by simp)⟩
            have HO9 : Hid (OwnE rc 35 56 w9 w.heap.size (.slice ar n cr) L) := ⟨HO8.out.far (Chg.ofBelow (X := []) HC9.out) (by simp)⟩
            have HR9 : Hid (RdI w9 (.slice (some ⟨w8.heap.size, 0, none⟩) 1 1) [(u : Int) + l]) := ⟨by rw [← Hw9.out]; exact rdi_one w8 _⟩
            have hb9 : w.heap.size ≤ w9.heap.size := HB9.out.size
            have hl9 : (endsI (L.take kk)).length + [(u : Int) + l].length ≤ 1000000000000 := by rw [endsI_len, List.length_take]; simp; omega
            refine hK.out _ _ hS9 (fun hS => ?_)
            clear hK

            refine wpAnyH_ready (rs := [11]) (by kernel_rfl) (by simp) (AllReadyH.cons rfl (fun Kc hK => ?_) AllReadyH.nil)
            refine rdy_of (by kernel_rfl) ?_
            refine op_appI (.tmp 30) (.tmp 36) rfl (by kernel_rfl) HE9.out (by kernel_rfl) HR9.out hl9 hb9 ?_
            intro v10 w10 hO10 hG10 hV10
            obtain ⟨ax, cx, e10, _⟩ := hO10.shape
            subst e10
            obtain ⟨nx, Hnx⟩ : ∃ m, Hid ((endsI (L.take kk) ++ [(u : Int) + l]).length = m) := ⟨_, ⟨rfl⟩⟩
            rw [Hnx.out] at hO10 hV10 ⊢
            have HE10 := Hid.mk hO10
            have HO10 : Hid (OwnE rc 35 56 w10 w.heap.size (.slice ar n cr) L) := ⟨HO9.out.far hG10 (fun g hg hm => (HO9.out.ty g hg).ne (own_ty HE9.out (mem_ob.1 hm)) (by decide) rfl)⟩
            have HP10 : Hid (w10.heap[p]? = some (.cells #[.slice ar n cr, .slice ae ne ce] 70 (0, 0))) := ⟨(hG10.block p (Ty.lt ⟨_, HP9.out⟩) (fun hm => (Ty.ne ⟨_, HP9.out⟩ (own_ty HE9.out (mem_ob.1 hm)) (by decide) rfl))).trans HP9.out⟩
            have HB10 : Hid (Below w.heap.size w w10) := ⟨HB9.out.trans (hG10.below hb9 (fun x hx => (HE9.out.lt x (mem_ob.1 hx)).1))⟩
            have hq10 : (fun w' => w'.cell? ⟨q, 32, none⟩ = some (.int .i64 (l : Int))) w10 := (hG10.cell (a := ⟨q, 32, none⟩) HA9.out.lt (fun hm => (Ty.ne ⟨_, HA9.out.row⟩ (own_ty HE9.out (mem_ob.1 hm)) (by decide) rfl))).trans hS
            have Hqp : Hid (q ≠ p) := ⟨Ty.ne (w := w9) ⟨_, HA9.out.row⟩ ⟨_, HP9.out⟩ (by decide)⟩
            have hpc : w10.cell? ⟨p, 1, none⟩ = some (.slice ae ne ce) := by rw [cell_of_row _ _ _ _ _ _ HP10.out]; rfl
            have hpf : w10.frozen? ⟨p, 1, none⟩ = false := frozen_of_row w10 p 1 _ 70 HP10.out
            have hq11 : (fun w' => w'.cell? ⟨q, 32, none⟩ = some (.int .i64 (l : Int))) (w10.setCell ⟨p, 1, none⟩ (.slice ax nx cx)) := (((Chg.refl [p] w10).setCell (.inl (by simp)) _).cell (a := ⟨q, 32, none⟩) (World.block_lt_of_cell? _ _ hq10) (by simp; exact Hqp.out)).trans hq10
            clear hO10 hG10 hV10
            refine hK.out _ _ hq10 (fun hS => ?_)
            clear hK
            refine wpAnyH_take (i := 12) (v := .pointer (some ⟨p, 0, none⟩)) rfl (by kernel_rfl) (by kernel_rfl) (by kernel_rfl) (fun _ _ _ h => h) (Or.inl ⟨by kernel_rfl, fun wx hx => by go_simp⟩) hS ?_
            refine wpAnyH_take (i := 13) (v := .pointer (some ⟨p, 1, none⟩)) rfl (by kernel_rfl) (by kernel_rfl) (by kernel_rfl) (fun _ _ _ h => h) (Or.inl ⟨by kernel_rfl, fun wx hx => by go_simp⟩) hS ?_
            refine wpAnyH_ready (rs := [14]) (by kernel_rfl) (by simp) (AllReadyH.cons rfl (fun Kc hK => ?_) AllReadyH.nil)
            go_simp
            refine hK.out _ _ hq11 (fun hS => ?_)
            clear hK
            refine wpAnyH_done (by kernel_rfl) ?_ _
            clear hS hq10 hq11
            go_simp
            go_wp2_with fail
            go_roundg (n - (kk + 1))
            case measure => omega
            case rel =>
              refine ⟨kk + 1, ax, nx, cx, by omega, by omega, by go_num, ⟨HO10.out.far ((Chg.refl [p] w10).setCell (.inl (by simp)) _) (fun g hg hm => by simp at hm; subst hm; exact (HO10.out.ty g hg).ne ⟨_, HP10.out⟩ (by decide) rfl)⟩, ⟨?_⟩, ⟨?_⟩, ⟨HB10.out.setCell (p := ⟨p, 1, none⟩) HPw.out _⟩⟩
              · have e : endsI (L.take (kk + 1)) = endsI (L.take kk) ++ [(u : Int) + l] := by rw [HSn.out, HSu.out]; simp
                rw [e]
                exact own_far HE10.out ((Chg.refl [p] w10).setCell (.inl (by simp)) _) (fun g hg hm => by simp at hm; subst hm; exact (own_ty HE10.out hg).ne ⟨_, HP10.out⟩ (by decide) rfl)
              · have := heap_setCell_same w10 p 1 _ 70 (.slice ax nx cx) HP10.out
                simpa using this
          · go_simp

            obtain ⟨w9, Hw9⟩ : ∃ x, Hid (w8.alloc (.cells #[.int .i64 ((u : Int) + l)] 3) = x) := ⟨_, ⟨rfl⟩⟩
            rw [Hw9.out]
            have HC9 : Hid (Below w8.heap.size w8 w9) := ⟨by rw [← Hw9.out]; exact (Below.refl _ w8).alloc (Nat.le_refl _) _⟩
            have hc9 : w9.cell? ⟨p, 1, none⟩ = some (.slice ae ne ce) := (HC9.out.cell (p := ⟨p, 1, none⟩) (Ty.lt ⟨_, HP8.out⟩)).trans hc8
            have hS9 : (fun w' => w'.cell? ⟨q, 32, none⟩ = some (.int .i64 (l : Int))) w9 := (HC9.out.cell (p := ⟨q, 32, none⟩) HA8.out.lt).trans hS
            have HA9 : Hid (RefAt w9 q r) := ⟨HA8.out.far (Chg.ofBelow (X := []) HC9.out) (by simp)⟩
            have HP9 : Hid (w9.heap[p]? = some (.cells #[.slice ar n cr, .slice ae ne ce] 70 (0, 0))) := ⟨(HC9.out.block p (Ty.lt ⟨_, HP8.out⟩)).trans HP8.out⟩
            have HB9 : Hid (Below w.heap.size w w9) := ⟨HB8.out.trans (HC9.out.mono HB8.out.size)⟩
            have HE9 : Hid (OwnI w9 w.heap.size (.slice ae ne ce) (endsI (L.take kk))) := ⟨own_far HE8.out (Chg.ofBelow (X := []) HC9.out) (by simp)⟩
            have HO9 : Hid (OwnE rc 35 56 w9 w.heap.size (.slice ar n cr) L) := ⟨HO8.out.far (Chg.ofBelow (X := []) HC9.out) (by simp)⟩
            have HR9 : Hid (RdI w9 (.slice (some ⟨w8.heap.size, 0, none⟩) 1 1) [(u : Int) + l]) := ⟨by rw [← Hw9.out]; exact rdi_one w8 _⟩
            have hb9 : w.heap.size ≤ w9.heap.size := HB9.out.size
            have hl9 : (endsI (L.take kk)).length + [(u : Int) + l].length ≤ 1000000000000 := by rw [endsI_len, List.length_take]; simp; omega
            refine hK.out _ _ hS9 (fun hS => ?_)
            clear hK
            refine wpAnyH_ready (rs := [4]) (by kernel_rfl) (by simp) (AllReadyH.cons rfl (fun Kc hK => ?_) (AllReadyH.nil))
            go_simp
            refine hK.out _ _ hS (fun hS => ?_)
            clear hK

            refine wpAnyH_ready (rs := [11]) (by kernel_rfl) (by simp) (AllReadyH.cons rfl (fun Kc hK => ?_) AllReadyH.nil)
            refine rdy_of (by kernel_rfl) ?_
            refine op_appI (.tmp 30) (.tmp 36) rfl (by kernel_rfl) HE9.out (by kernel_rfl) HR9.out hl9 hb9 ?_
            intro v10 w10 hO10 hG10 hV10
            obtain ⟨ax, cx, e10, _⟩ := hO10.shape
            subst e10
            obtain ⟨nx, Hnx⟩ : ∃ m, Hid ((endsI (L.take kk) ++ [(u : Int) + l]).length = m) := ⟨_, ⟨rfl⟩⟩
            rw [Hnx.out] at hO10 hV10 ⊢
            have HE10 := Hid.mk hO10
            have HO10 : Hid (OwnE rc 35 56 w10 w.heap.size (.slice ar n cr) L) := ⟨HO9.out.far hG10 (fun g hg hm => (HO9.out.ty g hg).ne (own_ty HE9.out (mem_ob.1 hm)) (by decide) rfl)⟩
            have HP10 : Hid (w10.heap[p]? = some (.cells #[.slice ar n cr, .slice ae ne ce] 70 (0, 0))) := ⟨(hG10.block p (Ty.lt ⟨_, HP9.out⟩) (fun hm => (Ty.ne ⟨_, HP9.out⟩ (own_ty HE9.out (mem_ob.1 hm)) (by decide) rfl))).trans HP9.out⟩
            have HB10 : Hid (Below w.heap.size w w10) := ⟨HB9.out.trans (hG10.below hb9 (fun x hx => (HE9.out.lt x (mem_ob.1 hx)).1))⟩
            have hq10 : (fun w' => w'.cell? ⟨q, 32, none⟩ = some (.int .i64 (l : Int))) w10 := (hG10.cell (a := ⟨q, 32, none⟩) HA9.out.lt (fun hm => (Ty.ne ⟨_, HA9.out.row⟩ (own_ty HE9.out (mem_ob.1 hm)) (by decide) rfl))).trans hS
            have Hqp : Hid (q ≠ p) := ⟨Ty.ne (w := w9) ⟨_, HA9.out.row⟩ ⟨_, HP9.out⟩ (by decide)⟩
            have hpc : w10.cell? ⟨p, 1, none⟩ = some (.slice ae ne ce) := by rw [cell_of_row _ _ _ _ _ _ HP10.out]; rfl
            have hpf : w10.frozen? ⟨p, 1, none⟩ = false := frozen_of_row w10 p 1 _ 70 HP10.out
            have hq11 : (fun w' => w'.cell? ⟨q, 32, none⟩ = some (.int .i64 (l : Int))) (w10.setCell ⟨p, 1, none⟩ (.slice ax nx cx)) := (((Chg.refl [p] w10).setCell (.inl (by simp)) _).cell (a := ⟨q, 32, none⟩) (World.block_lt_of_cell? _ _ hq10) (by simp; exact Hqp.out)).trans hq10
            clear hO10 hG10 hV10
            refine hK.out _ _ hq10 (fun hS => ?_)
            clear hK
            refine wpAnyH_take (i := 12) (v := .pointer (some ⟨p, 0, none⟩)) rfl (by kernel_rfl) (by kernel_rfl) (by kernel_rfl) (fun _ _ _ h => h) (Or.inl ⟨by kernel_rfl, fun wx hx => by go_simp⟩) hS ?_
            refine wpAnyH_take (i := 13) (v := .pointer (some ⟨p, 1, none⟩)) rfl (by kernel_rfl) (by kernel_rfl) (by kernel_rfl) (fun _ _ _ h => h) (Or.inl ⟨by kernel_rfl, fun wx hx => by go_simp⟩) hS ?_
            refine wpAnyH_ready (rs := [14]) (by kernel_rfl) (by simp) (AllReadyH.cons rfl (fun Kc hK => ?_) AllReadyH.nil)
            go_simp
            refine hK.out _ _ hq11 (fun hS => ?_)
            clear hK
            refine wpAnyH_done (by kernel_rfl) ?_ _
            clear hS hq10 hq11
            go_simp
            go_wp2_with fail
            go_roundg (n - (kk + 1))
            case measure => omega
            case rel =>
              refine ⟨kk + 1, ax, nx, cx, by omega, by omega, by go_num, ⟨HO10.out.far ((Chg.refl [p] w10).setCell (.inl (by simp)) _) (fun g hg hm => by simp at hm; subst hm; exact (HO10.out.ty g hg).ne ⟨_, HP10.out⟩ (by decide) rfl)⟩, ⟨?_⟩, ⟨?_⟩, ⟨HB10.out.setCell (p := ⟨p, 1, none⟩) HPw.out _⟩⟩
              · have e : endsI (L.take (kk + 1)) = endsI (L.take kk) ++ [(u : Int) + l] := by rw [HSn.out, HSu.out]; simp
                rw [e]
                exact own_far HE10.out ((Chg.refl [p] w10).setCell (.inl (by simp)) _) (fun g hg hm => by simp at hm; subst hm; exact (own_ty HE10.out hg).ne ⟨_, HP10.out⟩ (by decide) rfl)
              · have := heap_setCell_same w10 p 1 _ 70 (.slice ax nx cx) HP10.out
                simpa using this

      · obtain rfl : n = kk := by omega
        have HTt : Hid (L.take n = L) := ⟨List.take_of_length_le (by rw [Hn.out]; exact Nat.le_refl _)⟩
        rw [HTt.out] at HE
        go_wp2_with fail
        go_ret2
        exact ⟨p, rfl, ⟨_, _, HP.out, (HO.out.rd r0).toR H.out.sums, OwnI.rd HE.out⟩, HB.out⟩
end
end Go.Proofs.Ytkkcdmdkjedkjaa
