/- The document's Places. -/
import Derived.Test.YtiloclekhddkfabDoorB1
import Derived.Test.YtiloclekhddkfabDoorIntsE
namespace Go.Proofs.YtiloclekhddkfabDoor
open Go.RowKit

/-- A place of a sum. -/
def plc1 (s : List Int) (bits : Int) (i : Nat) : Int := ((n6 s 0 + i * n6 s 6 : Nat) : Int) % bits
/-- The first places of a sum. -/
def pre (s : List Int) (bits : Int) (k : Nat) : List Int := (List.range k).map (plc1 s bits)
/-- A sum's places. -/
def plc (s : List Int) (bits ways : Int) : List Int := if ft bits ways then pre s bits ways.toNat else []
theorem pre_snoc (s : List Int) (bits : Int) (k : Nat) : pre s bits (k + 1) = pre s bits k ++ [plc1 s bits k] := by
  unfold pre
  rw [List.range_succ, List.map_append]
  rfl
theorem pre_len (s : List Int) (bits : Int) (k : Nat) : (pre s bits k).length = k := by simp [pre]
section
variable {w : World}
set_option maxHeartbeats 4000000 in
set_option maxRecDepth 100000 in
theorem rplaces_any (s : List Int) (hs : Sum32 s) (bits ways : Int) : Calls Tryd.prog 11 #[.agg (sc s).toArray, .int .i64 bits, .int .i64 ways] w fun e w' => ∃ v, e = .returned v ∧ OwnI w' w.heap.size v (plc s bits ways) ∧ Below w.heap.size w w' := by
  have hbox := run_boxS
  have HP : Hid (plc s bits ways = if ft bits ways then pre s bits ways.toNat else []) := ⟨rfl⟩
  have Hs := Hid.mk hs
  have tA := fun (wx : World) => number_any (w := wx) s hs 0 (by decide)
  have tB := fun (wx : World) => number_any (w := wx) s hs 6 (by decide)
  have hlA := n6_lt hs 0
  have hlB := n6_lt hs 6
  have HD : Hid (∀ k, plc1 s bits k = ((n6 s 0 + k * n6 s 6 : Nat) : Int) % bits) := ⟨fun _ => rfl⟩
  obtain ⟨PL, HPL⟩ : ∃ l, Hid (plc s bits ways = l) := ⟨_, ⟨rfl⟩⟩
  rw [HPL.out] at HP ⊢
  generalize n6 s 0 = A at tA hlA HD
  generalize n6 s 6 = B at tB hlB HD
  obtain ⟨cs, Hcs⟩ : ∃ cs, Hid ((sc s).toArray = cs) := ⟨_, ⟨rfl⟩⟩
  simp only [Hcs.out] at tA tB ⊢
  obtain ⟨w2, Hw2⟩ : ∃ w2, Hid ((w.alloc (.cells cs 22)).alloc (.cells #[] 3) = w2) := ⟨_, ⟨rfl⟩⟩
  have HB2 : Hid (Below w.heap.size w w2) := ⟨by rw [← Hw2.out]; exact ((Below.refl _ w).alloc (Nat.le_refl _) _).alloc (by simp) _⟩
  have Hat : Hid (At w2 w.heap.size 0 (sc s)) := ⟨At.row (fr := (0, 0)) (t := 22) (by rw [← Hw2.out, Hcs.out, Below.heap_alloc _ _ _ (by simp)]; exact heap_alloc_new w _)⟩
  have HO2 : Hid (OwnI w2 w.heap.size (.slice (some ⟨w.heap.size + 1, 0, none⟩) 0 0) []) := ⟨by
    rw [← Hw2.out]
    have := owni_none (w.alloc (.cells cs 22))
    have h2 : OwnI ((w.alloc (.cells cs 22)).alloc (.cells #[] 3)) (w.heap.size + 1) (.slice (some ⟨w.heap.size + 1, 0, none⟩) 0 0) [] := by simpa using this
    exact own_base h2 (fun g hg => by simp [Value.ownBlock] at hg; omega)⟩
  obtain ⟨q, Hq⟩ : ∃ q, Hid (w.heap.size = q) := ⟨_, ⟨rfl⟩⟩
  clear hs
  go_enter Tryd.func11, Tryd.ntmps11
  go_upto_region 2 with fail
  rw [Hw2.out]
  by_cases hf : ft bits ways = true
  · have hfb : 1 ≤ bits ∧ bits ≤ 65536 ∧ 1 ≤ ways ∧ ways ≤ 8 := of_decide_eq_true hf
    rw [if_pos hf] at HP
    obtain ⟨nw, rfl⟩ := Int.eq_ofNat_of_zero_le (show 0 ≤ ways by omega)
    have hnw : nw ≤ 8 := by omega
    have e := HP.out
    simp only [Int.toNat_natCast] at e
    subst e
    have h1 : ¬ bits < 1 := by omega
    have h2 : ¬ 65536 < bits := by omega
    have h3 : ¬ (nw : Int) < 1 := by omega
    have h4 : ¬ 8 < (nw : Int) := by omega
    have h0 : ¬ bits = 0 := by omega
    obtain ⟨o1, Ho1⟩ : ∃ o, Hid (w.heap.size + 1 = o) := ⟨_, ⟨rfl⟩⟩
    rw [Ho1.out] at HO2 ⊢
    rw [Hq.out] at Hat ⊢
    have Hqo : Hid (q ≠ o1 ∧ q < o1) := ⟨by rw [← Ho1.out, ← Hq.out]; omega⟩
    obtain ⟨W, eW⟩ : ∃ x, x = w2 := ⟨_, rfl⟩
    subst eW
    have HSS : Hid (∀ w', Chg [o1] W w' → (loadVar 22 ⟨q, 0, none⟩).run Tryd.prog w' = .ok (.agg cs) w') := ⟨fun w' hc => by
      have z := run_loadS (Hat.out.far hc (by simp; exact Hqo.out.1)) Hs.out
      rw [Hcs.out] at z
      exact z⟩
    have HBW := HB2
    go_wp2_with fail
    go_loopg [7, 8] nw (fun gg s7 s8 wr => ∃ k : Nat, k ≤ nw ∧ nw - k ≤ gg ∧ s8 = .int .i64 (k : Int) ∧ Hid (OwnI wr w.heap.size s7 (pre s bits k)) ∧ Hid (∀ x ∈ ob s7, x = o1 ∨ W.heap.size ≤ x) ∧ Hid (Chg [o1] W wr))
    case atStart => exact ⟨0, Nat.zero_le _, by omega, rfl, HO2, ⟨fun x hx => .inl (by simp [ob, Value.ownBlock] at hx; omega)⟩, ⟨Chg.refl _ _⟩⟩
    case round =>
      obtain ⟨k, hk, hgg, rfl, HO, Hol, HG⟩ := hrel
      obtain ⟨a7, c7, e7, _⟩ := HO.out.shape
      subst e7
      obtain ⟨n7, Hn7⟩ : ∃ n, Hid ((pre s bits k).length = n) := ⟨_, ⟨rfl⟩⟩
      have hln : (pre s bits k).length ≤ 1000000000000 := by rw [pre_len]; omega
      rw [Hn7.out] at HO Hol ⊢
      by_cases hlt : k < nw
      · have hltz : (k : Int) < (nw : Int) := by omega
        have HSn := Hid.mk (pre_snoc s bits k)
        rw [HD.out] at HSn
        obtain ⟨P, HPe⟩ : ∃ P, Hid (k * B = P) := ⟨_, ⟨rfl⟩⟩
        have hPb : P ≤ 2251799813685248 := by
          rw [← HPe.out]
          have : k * B ≤ 8 * 281474976710655 := Nat.mul_le_mul (by omega) hlB
          omega
        rw [HPe.out] at HSn
        have hP : (k : Int) * (B : Int) = (P : Int) := by rw [← HPe.out]; simp
        have hPw : IntKind.i64.wrap (P : Int) = (P : Int) := IntWalk.i64_in _ ⟨by omega, by omega⟩
        obtain ⟨Q, HQe⟩ : ∃ Q, Hid (A + P = Q) := ⟨_, ⟨rfl⟩⟩
        rw [HQe.out] at HSn
        have hQ : (A : Int) + (P : Int) = (Q : Int) := by rw [← HQe.out]; omega
        have hQw : IntKind.i64.wrap (Q : Int) = (Q : Int) := IntWalk.i64_in _ ⟨by omega, by rw [← HQe.out]; omega⟩
        obtain ⟨R, HRe⟩ : ∃ R, Hid ((Q : Int) % bits = R) := ⟨_, ⟨rfl⟩⟩
        rw [HRe.out] at HSn
        have hR1 : (Q : Int) % bits = R := HRe.out
        have hR2 : (Q : Int).tmod bits = R := by rw [Int.tmod_eq_emod_of_nonneg (by omega)]; exact HRe.out
        have hRb : 0 ≤ R ∧ R < bits := by rw [← HRe.out]; exact ⟨Int.emod_nonneg _ (by omega), Int.emod_lt_of_pos _ (by omega)⟩
        have hRw : IntKind.i64.wrap R = R := IntWalk.i64_in _ ⟨by omega, by omega⟩
        have hRw2 : wrap64 R = R := IntWalk.wrap64_in _ ⟨by omega, by omega⟩
        have hS0 : (fun w' => (loadVar 22 ⟨q, 0, none⟩).run Tryd.prog w' = .ok (.agg cs) w') wr.drew := HSS.out _ HG.out.drew
        go_upto_region 7 with fail
        refine wp_region_held_drew (S := (fun w' => (loadVar 22 ⟨q, 0, none⟩).run Tryd.prog w' = .ok (.agg cs) w')) (by kernel_rfl) hS0 (fun hS => ?_)
        refine wpAnyH_take (i := 0) (v := .slice a7 n7 c7) rfl (by kernel_rfl) (by kernel_rfl) (by kernel_rfl) (fun _ _ _ h => h) (Or.inl ⟨by kernel_rfl, fun _ _ => by kernel_rfl⟩) hS ?_
        refine wpAnyH_take (i := 1) (v := .agg cs) rfl (by kernel_rfl) (by kernel_rfl) (by kernel_rfl) (fun _ _ _ h => h) (Or.inl ⟨by kernel_rfl, fun wx hx => exec_load rfl q 0 (by kernel_rfl) hx⟩) hS ?_
        refine wpAnyH_take (i := 3) (v := .int .i64 (k : Int)) rfl (by kernel_rfl) (by kernel_rfl) (by kernel_rfl) (fun _ _ _ h => h) (Or.inl ⟨by kernel_rfl, fun _ _ => by kernel_rfl⟩) hS ?_
        refine wpAnyH_take (i := 4) (v := .agg cs) rfl (by kernel_rfl) (by kernel_rfl) (by kernel_rfl) (fun _ _ _ h => h) (Or.inl ⟨by kernel_rfl, fun wx hx => exec_load rfl q 0 (by kernel_rfl) hx⟩) hS ?_
        refine wpAnyH_take (i := 8) (v := .int .i64 bits) rfl (by kernel_rfl) (by kernel_rfl) (by kernel_rfl) (fun _ _ _ h => h) (Or.inl ⟨by kernel_rfl, fun _ _ => by kernel_rfl⟩) hS ?_
        refine wpAnyH_ready (rs := [2]) (by kernel_rfl) (by simp) (AllReadyH.cons rfl (fun Kc hK => ?_) AllReadyH.nil)
        go_simp
        refine (tA _).mono ?_
        rintro e w5 ⟨rfl, hbw5⟩
        refine hK.out _ _ (HSS.out w5 (HG.out.drew.trans (Chg.ofBelow hbw5))) (fun hS => ?_)
        clear hK
        refine wpAnyH_ready (rs := [5]) (by kernel_rfl) (by simp) (AllReadyH.cons rfl (fun Kc hK => ?_) AllReadyH.nil)
        go_simp
        refine (tB _).mono ?_
        rintro e w6 ⟨rfl, hbw6⟩
        refine hK.out _ _ (HSS.out w6 ((HG.out.drew.trans (Chg.ofBelow hbw5)).trans (Chg.ofBelow hbw6))) (fun hS => ?_)
        clear hK
        refine wpAnyH_take (i := 6) (v := .int .i64 (P : Int)) rfl (by kernel_rfl) (by kernel_rfl) (by kernel_rfl) (fun _ _ _ h => h) (Or.inl ⟨by kernel_rfl, fun wx hx => by go_simp⟩) hS ?_
        refine wpAnyH_take (i := 7) (v := .int .i64 (Q : Int)) rfl (by kernel_rfl) (by kernel_rfl) (by kernel_rfl) (fun _ _ _ h => h) (Or.inl ⟨by kernel_rfl, fun wx hx => by go_simp⟩) hS ?_
        refine wpAnyH_take (i := 9) (v := .int .i64 R) rfl (by kernel_rfl) (by kernel_rfl) (by kernel_rfl) (fun _ _ _ h => h) (Or.inl ⟨by kernel_rfl, fun wx hx => by go_simp⟩) hS ?_
        have HX6 : Hid (Chg [o1] W w6) := ⟨(HG.out.drew.trans (Chg.ofBelow hbw5)).trans (Chg.ofBelow hbw6)⟩
        have HO6 : Hid (OwnI w6 w.heap.size (.slice a7 n7 c7) (pre s bits k)) := ⟨own_far HO.out ((Chg.refl [] wr).drew.trans ((Chg.ofBelow hbw5).trans (Chg.ofBelow hbw6))) (by simp)⟩
        have hb6 : w.heap.size ≤ w6.heap.size := Nat.le_trans HBW.out.size HX6.out.size
        have HX7 : Hid (Chg [o1] W (w6.alloc (.cells #[.int .i64 R] 3))) := ⟨HX6.out.trans (Chg.ofBelow ((Below.refl _ w6).alloc (Nat.le_refl _) _))⟩
        clear hbw5 hbw6
        refine wpAnyH_ready (rs := [10]) (by kernel_rfl) (by simp) (AllReadyH.cons rfl (fun Kc hK => ?_) AllReadyH.nil)
        go_simp
        refine hK.out _ _ (HSS.out _ HX7.out) (fun hS => ?_)
        clear hK
        refine wpAnyH_ready (rs := [11]) (by kernel_rfl) (by simp) (AllReadyH.cons rfl (fun Kc hK => ?_) AllReadyH.nil)
        refine rdy_of (by kernel_rfl) ?_
        refine op_appI1 (.tmp 30) (.tmp 40) rfl (by kernel_rfl) HO6.out (by kernel_rfl) hln hb6 ?_
        intro v8 w8 hO8 hG8 hV8
        obtain ⟨a8, c8, e8, _⟩ := hO8.shape
        subst e8
        obtain ⟨n8, Hn8⟩ : ∃ n, Hid ((pre s bits k ++ [R]).length = n) := ⟨_, ⟨rfl⟩⟩
        have HO8 := Hid.mk hO8
        rw [Hn8.out] at HO8 ⊢
        have HX8 : Hid (Chg [o1] W w8) := ⟨HX6.out.thenNew hG8 (fun x hx => (Hol.out x hx).imp (fun e => by simp [e]) id)⟩
        have Hol8 : Hid (∀ x ∈ ob (.slice a8 n8 c8), x = o1 ∨ W.heap.size ≤ x) := ⟨fun x hx => by
          rcases hV8 with z | z
          · exact Hol.out x (mem_ob.2 (by rw [← z, Hn8.out]; exact mem_ob.1 hx))
          · rw [Hn8.out, mem_ob.1 hx] at z
            have := HX6.out.size
            cases z
            omega⟩
        clear hO8 hG8 hV8
        refine hK.out _ _ (HSS.out _ HX8.out) (fun hS => ?_)
        clear hK
        refine wpAnyH_take (i := 12) (v := .slice a8 n8 c8) rfl (by kernel_rfl) (by kernel_rfl) (by kernel_rfl) (fun _ _ _ h => h) (Or.inl ⟨by kernel_rfl, fun _ _ => by kernel_rfl⟩) hS ?_
        refine wpAnyH_done (by kernel_rfl) ?_ _
        clear hS hS0
        go_simp
        go_wp2_with fail
        go_roundg (nw - (k + 1))
        case measure => omega
        case rel => exact ⟨k + 1, by omega, by omega, by go_num, ⟨by rw [HSn.out]; exact HO8.out⟩, Hol8, HX8⟩
      · obtain rfl : k = nw := by omega
        go_wp2_with fail
        go_ret
        exact ⟨_, rfl, HO.out, HBW.out.trans (HG.out.below HBW.out.size (fun x hx => by simp at hx; subst hx; rw [← Ho1.out]; omega))⟩
  · have e : PL = [] := by rw [HP.out, if_neg hf]
    subst e
    have hfb : ¬ (1 ≤ bits ∧ bits ≤ 65536 ∧ 1 ≤ ways ∧ ways ≤ 8) := fun h => hf (decide_eq_true h)
    by_cases h1 : bits < 1
    · go_wp2_with fail
      go_ret
      exact ⟨_, rfl, HO2.out, HB2.out⟩
    by_cases h2 : 65536 < bits
    · go_wp2_with fail
      go_ret
      exact ⟨_, rfl, HO2.out, HB2.out⟩
    by_cases h3 : ways < 1
    · go_wp2_with fail
      go_ret
      exact ⟨_, rfl, HO2.out, HB2.out⟩
    have h4 : 8 < ways := by omega
    go_wp2_with fail
    go_ret
    exact ⟨_, rfl, HO2.out, HB2.out⟩
end
end Go.Proofs.YtiloclekhddkfabDoor
