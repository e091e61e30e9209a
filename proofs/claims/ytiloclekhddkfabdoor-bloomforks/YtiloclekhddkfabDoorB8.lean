/- The program's isOn and turnOn. -/
import Derived.Test.YtiloclekhddkfabDoorB7
import Derived.Laws.Bits64b
namespace Go.Proofs.YtiloclekhddkfabDoor
open Go.RowKit
theorem on_bit (m r : Nat) (hm : m < 18446744073709551616) : (bits .and .u64 ((m : Int) / 2 ^ r) 1 == 1) = m.testBit r := by
  have e : (m : Int) / 2 ^ r = ((m / 2 ^ r : Nat) : Int) := by simp
  have h := bits_and_u64_nat (m / 2 ^ r) 1 (Nat.lt_of_le_of_lt (Nat.div_le_self _ _) hm) (by decide)
  rw [e]
  rw [Nat.and_one_is_mod] at h
  have h' : bits .and .u64 ((m / 2 ^ r : Nat) : Int) 1 = ((m / 2 ^ r % 2 : Nat) : Int) := h
  rw [h', Nat.testBit_eq_decide_div_mod_eq]
  by_cases hz : m / 2 ^ r % 2 = 1
  · rw [hz]; rfl
  · rw [decide_eq_false hz, beq_eq_false_iff_ne]; omega
section
variable {w : World}
set_option maxHeartbeats 2000000 in
set_option maxRecDepth 100000 in
theorem isOn_any {p c cap : Nat} {size ways : Int} {cs : List Nat} (x : Nat) (hx : x / 64 < cs.length) (h : FlAt w p c cap size ways cs) (hm : ∀ n ∈ cs, n < 18446744073709551616) (hl : cs.length ≤ 1024) : Calls Tryd.prog 30 #[.pointer (some ⟨p, 0, none⟩), .int .i64 (x : Int)] w fun e w' => e = .returned (.bool (Nat.testBit (cs.getD (x / 64) 0) (x % 64))) ∧ w = w' := by
  have c2 := h.c2
  have hcell := h.cell hx
  have hxb : x < 65536 := by omega
  have hq : (x : Int).tdiv 64 = ((x / 64 : Nat) : Int) := by rw [Int.tdiv_eq_ediv_of_nonneg (by omega)]; omega
  have hr : (x : Int).tmod 64 = ((x % 64 : Nat) : Int) := by rw [Int.tmod_eq_emod_of_nonneg (by omega)]; omega
  have hr2 : x % 64 < 64 := Nat.mod_lt _ (by decide)
  have hmx : cs.getD (x / 64) 0 < 18446744073709551616 := hm _ (by simp only [List.getD, List.getElem?_eq_getElem hx, Option.getD_some]; exact List.getElem_mem hx)
  generalize cs.getD (x / 64) 0 = m at hcell hmx ⊢
  generalize x / 64 = q at hq hx hcell
  generalize x % 64 = r at hr hr2 ⊢
  generalize cs.length = n at c2 hx hl
  have hx2 : (q : Int) < (n : Int) := by omega
  have HE := Hid.mk (on_bit m r hmx)
  clear h hm
  go_enter Tryd.func30, Tryd.ntmps30
  go_wp2_with fail
  go_ret
  exact ⟨by rw [← HE.out]; rfl, rfl⟩
set_option maxHeartbeats 2000000 in
set_option maxRecDepth 100000 in
theorem turnOn_any {p c cap : Nat} {size ways : Int} {cs : List Nat} (x : Nat) (hx : x / 64 < cs.length) (h : FlAt w p c cap size ways cs) (hm : ∀ n ∈ cs, n < 18446744073709551616) (hl : cs.length ≤ 1024) : Calls Tryd.prog 32 #[.pointer (some ⟨p, 0, none⟩), .int .i64 (x : Int)] w fun e w' => e = .returned (.tuple #[]) ∧ FlAt w' p c cap size ways (cs.set (x / 64) (cs.getD (x / 64) 0 ||| 2 ^ (x % 64))) ∧ Chg [c] w w' := by
  have HF : Hid (FlAt w.drew p c cap size ways cs) := ⟨h.far (Chg.refl [] w).drew (by simp) (by simp)⟩
  have hcell := HF.out.cell hx
  have hfz := HF.out.fz (x / 64)
  have hxb : x < 65536 := by omega
  have hq : (x : Int).tdiv 64 = ((x / 64 : Nat) : Int) := by rw [Int.tdiv_eq_ediv_of_nonneg (by omega)]; omega
  have hr : (x : Int).tmod 64 = ((x % 64 : Nat) : Int) := by rw [Int.tmod_eq_emod_of_nonneg (by omega)]; omega
  have hr2 : x % 64 < 64 := Nat.mod_lt _ (by decide)
  have hmx : cs.getD (x / 64) 0 < 18446744073709551616 := hm _ (by simp only [List.getD, List.getElem?_eq_getElem hx, Option.getD_some]; exact List.getElem_mem hx)
  obtain ⟨M, HM⟩ : ∃ M, Hid (cs.getD (x / 64) 0 ||| 2 ^ (x % 64) = M) := ⟨_, ⟨rfl⟩⟩
  rw [HM.out]
  have HF2 : Hid (FlAt (w.drew.setCell ⟨c, x / 64, none⟩ (.int .u64 (M : Int))) p c cap size ways (cs.set (x / 64) M)) := ⟨HF.out.set _ _⟩
  have HC2 : Hid (Chg [c] w (w.drew.setCell ⟨c, x / 64, none⟩ (.int .u64 (M : Int)))) := ⟨(Chg.refl [c] w).drew.setCell (.inl (by simp)) _⟩
  have hS0 : w.drew.cell? ⟨p, 2, none⟩ = some (.slice (some ⟨c, 0, none⟩) cs.length cap) := HF.out.c2
  have HS2 : Hid ((w.drew.setCell ⟨c, x / 64, none⟩ (.int .u64 (M : Int))).cell? ⟨p, 2, none⟩ = some (.slice (some ⟨c, 0, none⟩) cs.length cap)) := ⟨by have := HF2.out.c2; rwa [List.length_set] at this⟩
  have hPM : bits .or .u64 (cs.getD (x / 64) 0 : Int) ((2 ^ (x % 64) : Nat) : Int) = (M : Int) := by
    rw [← HM.out]
    exact bits_or_u64_nat _ _ hmx (Nat.pow_lt_pow_right (by decide) hr2)
  have hPb : 2 ^ (x % 64) < 18446744073709551616 := Nat.pow_lt_pow_right (by decide) hr2
  have hP : (1 : Int) * 2 ^ (x % 64) = ((2 ^ (x % 64) : Nat) : Int) := by simp
  have hP2 : (2 : Int) ^ (x % 64) = ((2 ^ (x % 64) : Nat) : Int) := by simp
  generalize 2 ^ (x % 64) = P at hPM hP hPb hP2 HM
  generalize cs.getD (x / 64) 0 = m at hcell hmx hPM HM
  generalize x % 64 = r at hr hr2 hP hP2
  obtain ⟨q, Hq⟩ : ∃ q, x / 64 = q := ⟨_, rfl⟩
  rw [Hq] at hq hx hcell hfz HF2 HC2 HS2 ⊢
  generalize (cs.set q M) = cs2 at HF2 ⊢
  generalize cs.length = n at hS0 HS2 hx hl
  have hx2 : (q : Int) < (n : Int) := by omega
  have hqw : IntKind.i64.wrap (q : Int) = q := IntWalk.i64_in _ ⟨by omega, by omega⟩
  have hPw : IntKind.u64.wrap (P : Int) = P := IntWalk.u64_in _ ⟨by omega, by omega⟩
  clear h hm HF Hq
  go_enter Tryd.func32, Tryd.ntmps32
  go_upto_region 0 with fail
  refine wp_region_held_drew (S := (fun w' => w'.cell? ⟨p, 2, none⟩ = some (.slice (some ⟨c, 0, none⟩) n cap))) (by kernel_rfl) hS0 (fun hS => ?_)
  refine wpAnyH_take (i := 0) (v := .pointer (some ⟨p, 0, none⟩)) rfl (by kernel_rfl) (by kernel_rfl) (by kernel_rfl) (fun _ _ _ h => h) (Or.inl ⟨by kernel_rfl, fun _ _ => by kernel_rfl⟩) hS ?_
  refine wpAnyH_take (i := 1) (v := .pointer (some ⟨p, 0, none⟩)) rfl (by kernel_rfl) (by kernel_rfl) (by kernel_rfl) (fun _ _ _ h => h) (Or.inl ⟨by kernel_rfl, fun wx hx => by go_simp⟩) hS ?_
  refine wpAnyH_take (i := 2) (v := .pointer (some ⟨p, 2, none⟩)) rfl (by kernel_rfl) (by kernel_rfl) (by kernel_rfl) (fun _ _ _ h => h) (Or.inl ⟨by kernel_rfl, fun wx hx => by go_simp⟩) hS ?_
  refine wpAnyH_take (i := 3) (v := .slice (some ⟨c, 0, none⟩) n cap) rfl (by kernel_rfl) (by kernel_rfl) (by kernel_rfl) (fun _ _ _ h => h) (Or.inl ⟨by kernel_rfl, fun wx hx => by go_simp⟩) hS ?_
  refine wpAnyH_take (i := 4) (v := .int .i64 (x : Int)) rfl (by kernel_rfl) (by kernel_rfl) (by kernel_rfl) (fun _ _ _ h => h) (Or.inl ⟨by kernel_rfl, fun _ _ => by kernel_rfl⟩) hS ?_
  refine wpAnyH_take (i := 5) (v := .int .i64 (q : Int)) rfl (by kernel_rfl) (by kernel_rfl) (by kernel_rfl) (fun _ _ _ h => h) (Or.inl ⟨by kernel_rfl, fun wx hx => by go_simp⟩) hS ?_
  refine wpAnyH_take (i := 6) (v := .pointer (some ⟨c, q, none⟩)) rfl (by kernel_rfl) (by kernel_rfl) (by kernel_rfl) (fun _ _ _ h => h) (Or.inl ⟨by kernel_rfl, fun wx hx => by go_simp⟩) hS ?_
  refine wpAnyH_take (i := 8) (v := .int .i64 (x : Int)) rfl (by kernel_rfl) (by kernel_rfl) (by kernel_rfl) (fun _ _ _ h => h) (Or.inl ⟨by kernel_rfl, fun _ _ => by kernel_rfl⟩) hS ?_
  refine wpAnyH_take (i := 9) (v := .int .i64 (r : Int)) rfl (by kernel_rfl) (by kernel_rfl) (by kernel_rfl) (fun _ _ _ h => h) (Or.inl ⟨by kernel_rfl, fun wx hx => by go_simp⟩) hS ?_
  refine wpAnyH_take (i := 10) (v := .int .u64 (P : Int)) rfl (by kernel_rfl) (by kernel_rfl) (by kernel_rfl) (fun _ _ _ h => h) (Or.inl ⟨by kernel_rfl, fun wx hx => by go_simp⟩) hS ?_
  refine wpAnyH_ready (rs := [7]) (by kernel_rfl) (by simp) (AllReadyH.cons rfl (fun Kc hK => ?_) AllReadyH.nil)
  go_simp
  refine hK.out _ _ hS0 (fun hS => ?_)
  clear hK
  refine wpAnyH_take (i := 11) (v := .int .u64 (M : Int)) rfl (by kernel_rfl) (by kernel_rfl) (by kernel_rfl) (fun _ _ _ h => h) (Or.inl ⟨by kernel_rfl, fun wx hx => by go_simp⟩) hS ?_
  refine wpAnyH_take (i := 12) (v := .pointer (some ⟨c, q, none⟩)) rfl (by kernel_rfl) (by kernel_rfl) (by kernel_rfl) (fun _ _ _ h => h) (Or.inl ⟨by kernel_rfl, fun wx hx => by go_simp⟩) hS ?_
  refine wpAnyH_ready (rs := [13]) (by kernel_rfl) (by simp) (AllReadyH.cons rfl (fun Kc hK => ?_) AllReadyH.nil)
  go_simp
  refine hK.out _ _ HS2.out (fun hS => ?_)
  clear hK
  refine wpAnyH_done (by kernel_rfl) ?_ _
  clear hS hS0
  go_simp
  go_wp2_with fail
  go_end0
  exact ⟨rfl, HF2.out, HC2.out⟩
end
end Go.Proofs.YtiloclekhddkfabDoor
