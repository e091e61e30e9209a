/- The document's Write. -/
import Derived.Test.YtmcikhdfpmkpnaaR4
namespace Go.Proofs.Ytmcikhdfpmkpnaa
open Go.RowKit Go.Maps Go.Sort Go.Shelf

theorem Chg.refl' (q : Nat) (w : World) : Chg [q] w w.drew := (Chg.refl [q] w).drew

set_option maxHeartbeats 2000000 in
set_option maxRecDepth 100000 in
theorem rwrite_any {w : World} {q base : Nat} {d : Dk} (h : Rf w q base d) (hbs : base ≤ w.heap.size) (i : Int) (v : Value) (b : List Int) (hv : Bs w v b) :
    Calls Try.prog 42 #[.pointer (some ⟨q, 0, none⟩), .int .i64 i, v] w fun e w' => e = .returned (.int .i64 (wrE d i b.length)) ∧ Rf w' q base (wrD d i b) ∧ Chg [q] w w' := by
  have HV : Hid (Bs w v b) := ⟨hv⟩
  have HA : Hid (Rf w q base d) := ⟨h⟩
  have ty := fun hd ht => trips_yes h hd ht
  have tn := fun hd ht => trips_no h hd ht
  obtain ⟨v0, ar, h0⟩ := h
  obtain ⟨c0, _, c2, _⟩ := h0.cells
  obtain ⟨ao, cap, rfl, _⟩ := h0.own.shape
  obtain ⟨av, cv, rfl, _, _, _, _, hby⟩ := hv
  obtain ⟨N, HN⟩ : ∃ N, Hid (d.S.length = N) := ⟨_, ⟨rfl⟩⟩
  unfold wrE wrD fitE
  rw [HN.out] at c0 ⊢
  clear h0
  cases hd : d.down with
  | true =>
    rw [hd] at c2
    clear ty tn
    go_enter Try.func42, Try.ntmps42
    go_wp2
    go_ret
    exact ⟨rfl, HA.out, Chg.refl _ _⟩
  | false =>
  rw [hd] at c2
  simp only [Bool.false_eq_true, if_false]
  by_cases hi : 0 ≤ i ∧ i < (N : Int)
  · obtain ⟨hi0, hi1⟩ := hi
    have hin : ¬ i < 0 := by omega
    have hge : ¬ (N : Int) ≤ i := by omega
    by_cases hb : 128 < b.length
    · have hbz : (128 : Int) < (b.length : Int) := by omega
      simp only [hi0, hi1, and_self, if_true, hb, ne_eq, show ¬ (6 : Int) = 0 by omega, not_false_eq_true]
      clear ty tn
      go_enter Try.func42, Try.ntmps42
      go_wp2
      go_ret
      exact ⟨rfl, HA.out, Chg.refl _ _⟩
    · have hbz : ¬ (128 : Int) < (b.length : Int) := by omega
      simp only [hi0, hi1, and_self, if_true, hb, if_false, ne_eq, not_true]
      obtain ⟨j, rfl⟩ : ∃ j : Nat, i = j := ⟨i.toNat, by omega⟩
      have hj : j < d.S.length := by have := HN.out; omega
      have e1 : (j : Int).toNat = j := rfl
      rw [e1]
      by_cases ht : d.trip = 1
      · simp only [ht, if_true]
        have t1 := ty hd ht
        rw [ht] at t1
        clear ty tn
        go_enter Try.func42, Try.ntmps42
        go_wp2_with (go_at_call 52; refine t1.mono ?_; rintro e w1 ⟨rfl, hR, hc⟩; clear t1)
        go_ret
        exact ⟨rfl, hR, hc⟩
      · simp only [ht, if_false]
        have t0 := tn hd ht
        clear ty tn
        have hPg : Pg (fil b) := pg_fil hby (by omega)
        have hcast : ((128 - b.length : Nat) : Int) = 128 - (b.length : Int) := by omega
        have hw : wrap64 (128 - (b.length : Int)) = 128 - (b.length : Int) := IntWalk.wrap64_in _ ⟨by omega, by omega⟩
        have HADD : Hid (¬ 9223372036854775807 < (strOfNums b).size + (strOfNums (List.replicate (128 - b.length) 0)).size ∧ strOfNums b ++ strOfNums (List.replicate (128 - b.length) 0) = strOfNums (fil b)) := ⟨by rw [strOfNums_size, strOfNums_size]; simp; omega, fil_str b⟩
        have T1 : Hid (∀ W, Calls Try.prog 50 #[.int .i64 (128 - (b.length : Int))] W fun e w' => e = .returned (.string (strOfNums (List.replicate (128 - b.length) 0))) ∧ W = w') := ⟨fun W => by have t := zeros_any (128 - b.length) W (by omega); rwa [hcast] at t⟩
        have NX : Hid (∀ w1, Rf w1 q base { d with trip := dec d.trip } → Chg [q] w w1 → ∃ ao' cap' g', w1.drew.cell? ⟨q, 0, none⟩ = some (.slice (some ⟨g', 0, none⟩) N cap') ∧ ao' = g' ∧ (w1.drew.cell? ⟨g', j * 3, none⟩ = some (.string (strOfNums (sec d.S j).1)) ∧ (convert 37 9 (.slice av b.length cv)).run Try.prog w1.drew = .ok (.string (strOfNums b)) w1.drew) ∧
            Calls Try.prog 53 #[.pointer (some ⟨q, 0, none⟩), .int .i64 (j : Int), .agg #[.string (strOfNums (sec d.S j).1), .string (strOfNums (fil b)), .bool true]] w1.drew fun e w' => e = .returned (.tuple #[]) ∧ (w'.cell? ⟨g', j * 3, none⟩ = some (.string (strOfNums (sec d.S j).1)) ∧ (convert 37 9 (.slice av b.length cv)).run Try.prog w' = .ok (.string (strOfNums b)) w') ∧ Hid (Rf w' q base (setWr { d with trip := dec d.trip } j (fil b)) ∧ Chg [q] w w')) := ⟨fun w1 hR hc => by
          have hRd : Rf w1.drew q base { d with trip := dec d.trip } := hR.below (Below.refl _ w1).drew
          have hB1 : Bs w1.drew (.slice av b.length cv) b := HV.out.rf HA.out hc.drew
          obtain ⟨v1, ar1, hX⟩ := hRd
          obtain ⟨ao1, cap1, rfl, hcell⟩ := hX.own.shape
          obtain ⟨g', e, k0, _⟩ := hcell j hj
          subst e
          have hcv := run_str hB1
          have hgq : g' ≠ q := hX.vne rfl
          refine ⟨g', cap1, g', by have := hX.cells.1; simp only at this; rw [HN.out] at this; exact this, rfl, ⟨k0, hcv⟩, ?_⟩
          have t := set_any (s := ((sec d.S j).1, some (fil b))) hX.rf (Nat.le_trans hbs hc.size) hj ⟨(ok_sec hX.ok j).1, fun l hl => by simp at hl; subst hl; exact hPg⟩
          refine t.mono ?_
          rintro e w' ⟨rfl, hR2, hc2⟩
          refine ⟨rfl, ⟨(hc2.cell (World.block_lt_of_cell? _ _ k0) (by simp; exact hgq)).trans k0, run_str (hB1.rf hX.rf hc2)⟩, ⟨hR2, (hc.drew).trans hc2⟩⟩⟩
        generalize strOfNums (List.replicate (128 - b.length) 0) = zz at T1 HADD
        generalize strOfNums (fil b) = ff at NX HADD
        generalize strOfNums b = sb at NX HADD
        generalize strOfNums (sec d.S j).1 = ss at NX
        rw [hd] at NX t0
        generalize hD2 : (setWr { S := d.S, trip := dec d.trip, down := false, life := d.life } j (fil b)) = D2 at NX
        clear hcast HA HV
        generalize b.length = bl at *
        go_enter Try.func42, Try.ntmps42
        go_wp2_with (go_at_call 52; refine t0.mono ?_; rintro e w1 ⟨rfl, hR, hc⟩; clear t0; obtain ⟨_, cap', g', k0, _, kS, t2⟩ := NX.out w1 hR hc; clear NX hR hc)
        refine wp_region_held_drew (S := fun w' => w'.cell? ⟨g', j * 3, none⟩ = some (.string ss) ∧ (convert 37 9 (.slice av bl cv)).run Try.prog w' = .ok (.string sb) w') (by kernel_rfl) kS (fun hS => ?_)
        refine wpAnyH_take (i := 0) (v := .pointer (some ⟨q, 0, none⟩)) rfl (by kernel_rfl) (by kernel_rfl) (by kernel_rfl) (fun _ _ _ h => h) (Or.inl ⟨by kernel_rfl, fun _ _ => by kernel_rfl⟩) hS ?_
        refine wpAnyH_take (i := 1) (v := .int .i64 (j : Int)) rfl (by kernel_rfl) (by kernel_rfl) (by kernel_rfl) (fun _ _ _ h => h) (Or.inl ⟨by kernel_rfl, fun _ _ => by kernel_rfl⟩) hS ?_
        refine wpAnyH_take (i := 2) (v := .pointer (some ⟨q, 0, none⟩)) rfl (by kernel_rfl) (by kernel_rfl) (by kernel_rfl) (fun _ _ _ h => h) (Or.inl ⟨by kernel_rfl, fun _ _ => by kernel_rfl⟩) hS ?_
        refine wpAnyH_take (i := 3) (v := .pointer (some ⟨q, 0, none⟩)) rfl (by kernel_rfl) (by kernel_rfl) (by kernel_rfl) (fun _ _ _ h => h) (Or.inl ⟨by kernel_rfl, fun wx _ => by go_simp⟩) hS ?_
        refine wpAnyH_take (i := 4) (v := .pointer (some ⟨q, 0, none⟩)) rfl (by kernel_rfl) (by kernel_rfl) (by kernel_rfl) (fun _ _ _ h => h) (Or.inl ⟨by kernel_rfl, fun wx _ => by go_simp⟩) hS ?_
        refine wpAnyH_take (i := 6) (v := .int .i64 (j : Int)) rfl (by kernel_rfl) (by kernel_rfl) (by kernel_rfl) (fun _ _ _ h => h) (Or.inl ⟨by kernel_rfl, fun _ _ => by kernel_rfl⟩) hS ?_
        refine wpAnyH_take (i := 10) (v := .slice av bl cv) rfl (by kernel_rfl) (by kernel_rfl) (by kernel_rfl) (fun _ _ _ h => h) (Or.inl ⟨by kernel_rfl, fun _ _ => by kernel_rfl⟩) hS ?_
        refine wpAnyH_take (i := 11) (v := .string sb) rfl (by kernel_rfl) (by kernel_rfl) (by kernel_rfl) (fun _ _ _ h => h) (Or.inl ⟨by kernel_rfl, fun wx hx => by obtain ⟨hx0, hx1⟩ := hx; go_simp⟩) hS ?_
        refine wpAnyH_take (i := 12) (v := .slice av bl cv) rfl (by kernel_rfl) (by kernel_rfl) (by kernel_rfl) (fun _ _ _ h => h) (Or.inl ⟨by kernel_rfl, fun _ _ => by kernel_rfl⟩) hS ?_
        refine wpAnyH_take (i := 13) (v := .int .i64 (bl : Int)) rfl (by kernel_rfl) (by kernel_rfl) (by kernel_rfl) (fun _ _ _ h => h) (Or.inl ⟨by kernel_rfl, fun wx _ => by go_simp⟩) hS ?_
        refine wpAnyH_take (i := 14) (v := .int .i64 (128 - (bl : Int))) rfl (by kernel_rfl) (by kernel_rfl) (by kernel_rfl) (fun _ _ _ h => h) (Or.inl ⟨by kernel_rfl, fun wx _ => by go_simp; rw [IntKind.wrap_i64]; omega⟩) hS ?_
        refine wpAnyH_ready (rs := [5, 15]) (by kernel_rfl) (by simp) (AllReadyH.cons rfl (fun Kc hK => ?_) (AllReadyH.cons rfl (fun Kc hK => ?_) AllReadyH.nil))
        · go_simp
          refine hK.out _ _ kS (fun hS => ?_)
          clear hK
          refine wpAnyH_take (i := 7) (v := .pointer (some ⟨g', j * 3, none⟩)) rfl (by kernel_rfl) (by kernel_rfl) (by kernel_rfl) (fun _ _ _ h => h) (Or.inl ⟨by kernel_rfl, fun wx _ => by go_simp⟩) hS ?_
          refine wpAnyH_take (i := 8) (v := .pointer (some ⟨g', j * 3, none⟩)) rfl (by kernel_rfl) (by kernel_rfl) (by kernel_rfl) (fun _ _ _ h => h) (Or.inl ⟨by kernel_rfl, fun wx _ => by go_simp⟩) hS ?_
          refine wpAnyH_take (i := 9) (v := .string ss) rfl (by kernel_rfl) (by kernel_rfl) (by kernel_rfl) (fun _ _ _ h => h) (Or.inl ⟨by kernel_rfl, fun wx hx => by obtain ⟨hx0, hx1⟩ := hx; go_simp⟩) hS ?_
          refine wpAnyH_ready (rs := [15]) (by kernel_rfl) (by simp) (AllReadyH.cons rfl (fun Kc hK => ?_) AllReadyH.nil)
          go_simp
          refine (T1.out _).mono ?_
          rintro e w2 ⟨rfl, rfl⟩
          refine hK.out _ _ kS (fun hS => ?_)
          clear hK
          refine wpAnyH_take (i := 16) (v := .string ff) rfl (by kernel_rfl) (by kernel_rfl) (by kernel_rfl) (fun _ _ _ h => h) (Or.inl ⟨by kernel_rfl, fun wx _ => by obtain ⟨hq1, hq2⟩ := HADD.out; go_simp⟩) hS ?_
          refine wpAnyH_take (i := 17) (v := .agg #[.string ss, .string ff, .bool true]) rfl (by kernel_rfl) (by kernel_rfl) (by kernel_rfl) (fun _ _ _ h => h) (Or.inl ⟨by kernel_rfl, fun wx _ => by go_simp⟩) hS ?_
          refine wpAnyH_ready (rs := [18]) (by kernel_rfl) (by simp) (AllReadyH.cons rfl (fun Kc hK => ?_) AllReadyH.nil)
          go_simp
          refine t2.mono ?_
          rintro e w2 ⟨rfl, kS2, HR⟩
          refine hK.out _ _ kS2 (fun hS => ?_)
          clear hK t2 hS
          refine wpAnyH_done (by kernel_rfl) ?_ _
          go_wp2
          go_ret
          exact ⟨rfl, HR.out⟩
        · go_simp
          refine (T1.out _).mono ?_
          rintro e w2 ⟨rfl, rfl⟩
          refine hK.out _ _ kS (fun hS => ?_)
          clear hK
          refine wpAnyH_take (i := 16) (v := .string ff) rfl (by kernel_rfl) (by kernel_rfl) (by kernel_rfl) (fun _ _ _ h => h) (Or.inl ⟨by kernel_rfl, fun wx _ => by obtain ⟨hq1, hq2⟩ := HADD.out; go_simp⟩) hS ?_
          refine wpAnyH_ready (rs := [5]) (by kernel_rfl) (by simp) (AllReadyH.cons rfl (fun Kc hK => ?_) AllReadyH.nil)
          go_simp
          refine hK.out _ _ kS (fun hS => ?_)
          clear hK
          refine wpAnyH_take (i := 7) (v := .pointer (some ⟨g', j * 3, none⟩)) rfl (by kernel_rfl) (by kernel_rfl) (by kernel_rfl) (fun _ _ _ h => h) (Or.inl ⟨by kernel_rfl, fun wx _ => by go_simp⟩) hS ?_
          refine wpAnyH_take (i := 8) (v := .pointer (some ⟨g', j * 3, none⟩)) rfl (by kernel_rfl) (by kernel_rfl) (by kernel_rfl) (fun _ _ _ h => h) (Or.inl ⟨by kernel_rfl, fun wx _ => by go_simp⟩) hS ?_
          refine wpAnyH_take (i := 9) (v := .string ss) rfl (by kernel_rfl) (by kernel_rfl) (by kernel_rfl) (fun _ _ _ h => h) (Or.inl ⟨by kernel_rfl, fun wx hx => by obtain ⟨hx0, hx1⟩ := hx; go_simp⟩) hS ?_
          refine wpAnyH_take (i := 17) (v := .agg #[.string ss, .string ff, .bool true]) rfl (by kernel_rfl) (by kernel_rfl) (by kernel_rfl) (fun _ _ _ h => h) (Or.inl ⟨by kernel_rfl, fun wx _ => by go_simp⟩) hS ?_
          refine wpAnyH_ready (rs := [18]) (by kernel_rfl) (by simp) (AllReadyH.cons rfl (fun Kc hK => ?_) AllReadyH.nil)
          go_simp
          refine t2.mono ?_
          rintro e w2 ⟨rfl, kS2, HR⟩
          refine hK.out _ _ kS2 (fun hS => ?_)
          clear hK t2 hS
          refine wpAnyH_done (by kernel_rfl) ?_ _
          go_wp2
          go_ret
          exact ⟨rfl, HR.out⟩
  · simp only [hi, if_false, ne_eq, show ¬ (2 : Int) = 0 by omega, not_false_eq_true, if_true]
    clear ty tn
    by_cases h1 : i < 0
    · go_enter Try.func42, Try.ntmps42
      go_wp2
      go_ret
      exact ⟨rfl, HA.out, Chg.refl _ _⟩
    · have h2 : (N : Int) ≤ i := by omega
      go_enter Try.func42, Try.ntmps42
      go_wp2
      go_ret
      exact ⟨rfl, HA.out, Chg.refl _ _⟩
end Go.Proofs.Ytmcikhdfpmkpnaa
