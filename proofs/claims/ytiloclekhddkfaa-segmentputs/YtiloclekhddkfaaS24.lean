/- The program's taker: num and sum. -/
import Derived.Test.YtiloclekhddkfaaS21
import Derived.Deep.QuietTactic
namespace Go.Proofs.Ytiloclekhddkfaa
open Go.RowKit Go.Lib

theorem RefAt.atR {w : World} {q : Nat} {r : Rf} (h : RefAt w q r) : At w q 0 (rc r) := At.row h.row
/-- A number at a place, and the place behind it, or the error. -/
def nm (bs : List Int) (i : Int) : Except Int (Int × Int) := if (Oct.tkNum bs i).2.2 = 0 then .ok ((Oct.tkNum bs i).1, (Oct.tkNum bs i).2.1) else .error (Oct.tkNum bs i).2.2
theorem nm_ok {bs : List Int} {i n j : Int} (hb : ∀ x ∈ bs, 0 ≤ x ∧ x < 256) (h : nm bs i = .ok (n, j)) : Oct.tkNum bs i = (n, j, 0) ∧ 0 ≤ i ∧ 0 ≤ n ∧ n ≤ 9007199254740991 ∧ i < j ∧ j ≤ bs.length := by
  unfold nm at h
  split at h
  · rename_i h0
    have := Oct.tkNum_ok bs i hb h0
    cases h
    refine ⟨?_, this⟩
    rw [← h0]
  · cases h
theorem nm_no {bs : List Int} {i c : Int} (h : nm bs i = .error c) : ∃ n j, Oct.tkNum bs i = (n, j, c) ∧ c ≠ 0 := by
  unfold nm at h
  split at h
  · cases h
  · rename_i h0
    cases h
    exact ⟨_, _, rfl, h0⟩
/-- A panic with a fault. -/
def flt (c : Int) : List PanicEntry := [{ v := .iface 77 (.int .i64 c), recovered := false }]
/-- A taker in memory: its bytes, and its place. -/
structure TkAt (w : World) (p : Nat) (v : Value) (i : Int) : Prop where
  row : w.heap[p]? = some (.cells #[v, .int .i64 i] 61 (0, 0))
theorem TkAt.lt {w : World} {p : Nat} {v : Value} {i : Int} (h : TkAt w p v i) : p < w.heap.size := (Array.getElem?_eq_some_iff.1 h.row).1
theorem TkAt.c0 {w : World} {p : Nat} {v : Value} {i : Int} (h : TkAt w p v i) : w.cell? ⟨p, 0, none⟩ = some v := by rw [cell_of_row _ _ _ _ _ _ h.row]; rfl
theorem TkAt.c1 {w : World} {p : Nat} {v : Value} {i : Int} (h : TkAt w p v i) : w.cell? ⟨p, 1, none⟩ = some (.int .i64 i) := by rw [cell_of_row _ _ _ _ _ _ h.row]; rfl
theorem TkAt.far {w w' : World} {p : Nat} {v : Value} {i : Int} {X : List Nat} (h : TkAt w p v i) (hc : Chg X w w') (hx : p ∉ X) : TkAt w' p v i := ⟨(hc.block p h.lt hx).trans h.row⟩
theorem TkAt.set {w : World} {p : Nat} {v : Value} {i : Int} (h : TkAt w p v i) (j : Int) : TkAt (w.setCell ⟨p, 1, none⟩ (.int .i64 j)) p v j := ⟨heap_setCell_same w p 1 _ 61 _ h.row⟩
theorem TkAt.fz {w : World} {p : Nat} {v : Value} {i : Int} (h : TkAt w p v i) : w.frozen? ⟨p, 1, none⟩ = false := frozen_of_row w p 1 _ 61 h.row
section
variable {w : World}
set_option maxHeartbeats 2000000 in
set_option maxRecDepth 100000 in
theorem num_ok {p : Nat} {v : Value} {bs : List Int} {i n j : Int} (hT : TkAt w p v i) (hv : Oct.Bs w v bs) (hby : ∀ x ∈ bs, 0 ≤ x ∧ x < 256) (h : nm bs i = .ok (n, j)) : Calls Try.prog 54 #[.pointer (some ⟨p, 0, none⟩)] w fun e w' => e = .returned (.int .i64 n) ∧ TkAt w' p v j ∧ Chg [p] w w' := by
  obtain ⟨hk, _⟩ := nm_ok hby h
  have HT := Hid.mk hT
  have hb := hv
  obtain ⟨av, cv, rfl, _⟩ := hv
  obtain ⟨nb, Hnb⟩ : ∃ n, Hid (bs.length = n) := ⟨_, ⟨rfl⟩⟩
  have t1 := Oct.takeNum_any _ bs i w.drew (hb.below ⟨rfl, rfl, rfl, Nat.le_refl _, fun _ _ => rfl⟩) hby
  rw [hk] at t1
  simp only at t1
  rw [Hnb.out] at HT t1
  have hS0 : (fun w' => w'.cell? ⟨p, 0, none⟩ = some (.slice av nb cv) ∧ w'.cell? ⟨p, 1, none⟩ = some (.int .i64 i)) w.drew := ⟨HT.out.c0, HT.out.c1⟩
  have Hc : Hid ((0 : Int) = 0) := ⟨rfl⟩
  have HT2 : Hid (TkAt w.drew p (.slice av nb cv) i) := ⟨HT.out.far (Chg.refl [] w).drew (by simp)⟩
  have hf := HT2.out.fz
  have hc1 := HT2.out.c1
  obtain ⟨c, hc⟩ : ∃ c, c = (0 : Int) := ⟨_, rfl⟩
  rw [← hc] at t1
  rw [Hnb.out]
  clear hT hb h hk
  go_enter Try.func54, Try.ntmps54
  go_upto_region 1 with fail
  refine wp_region_held_drew (S := (fun w' => w'.cell? ⟨p, 0, none⟩ = some (.slice av nb cv) ∧ w'.cell? ⟨p, 1, none⟩ = some (.int .i64 i))) (by kernel_rfl) hS0 (fun hS => ?_)
  refine wpAnyH_take (i := 0) (v := .pointer (some ⟨p, 0, none⟩)) rfl (by kernel_rfl) (by kernel_rfl) (by kernel_rfl) (fun _ _ _ h => h) (Or.inl ⟨by kernel_rfl, fun _ _ => by kernel_rfl⟩) hS ?_
  refine wpAnyH_take (i := 1) (v := .pointer (some ⟨p, 0, none⟩)) rfl (by kernel_rfl) (by kernel_rfl) (by kernel_rfl) (fun _ _ _ h => h) (Or.inl ⟨by kernel_rfl, fun wx hx => by go_simp⟩) hS ?_
  refine wpAnyH_take (i := 2) (v := .pointer (some ⟨p, 0, none⟩)) rfl (by kernel_rfl) (by kernel_rfl) (by kernel_rfl) (fun _ _ _ h => h) (Or.inl ⟨by kernel_rfl, fun wx hx => by go_simp⟩) hS ?_
  refine wpAnyH_take (i := 3) (v := .slice av nb cv) rfl (by kernel_rfl) (by kernel_rfl) (by kernel_rfl) (fun _ _ _ h => h) (Or.inl ⟨by kernel_rfl, fun wx hx => by obtain ⟨hx1, hx2⟩ := hx; go_simp⟩) hS ?_
  refine wpAnyH_take (i := 4) (v := .pointer (some ⟨p, 0, none⟩)) rfl (by kernel_rfl) (by kernel_rfl) (by kernel_rfl) (fun _ _ _ h => h) (Or.inl ⟨by kernel_rfl, fun _ _ => by kernel_rfl⟩) hS ?_
  refine wpAnyH_take (i := 5) (v := .pointer (some ⟨p, 0, none⟩)) rfl (by kernel_rfl) (by kernel_rfl) (by kernel_rfl) (fun _ _ _ h => h) (Or.inl ⟨by kernel_rfl, fun wx hx => by go_simp⟩) hS ?_
  refine wpAnyH_take (i := 6) (v := .pointer (some ⟨p, 1, none⟩)) rfl (by kernel_rfl) (by kernel_rfl) (by kernel_rfl) (fun _ _ _ h => h) (Or.inl ⟨by kernel_rfl, fun wx hx => by go_simp⟩) hS ?_
  refine wpAnyH_take (i := 7) (v := .int .i64 i) rfl (by kernel_rfl) (by kernel_rfl) (by kernel_rfl) (fun _ _ _ h => h) (Or.inl ⟨by kernel_rfl, fun wx hx => by obtain ⟨hx1, hx2⟩ := hx; go_simp⟩) hS ?_
  refine wpAnyH_ready (rs := [8]) (by kernel_rfl) (by simp) (AllReadyH.cons rfl (fun Kc hK => ?_) AllReadyH.nil)
  go_simp
  refine t1.mono ?_
  rintro e w5 ⟨rfl, e5⟩
  subst e5
  refine hK.out _ _ hS0 (fun hS => ?_)
  clear hK
  refine wpAnyH_take (i := 9) (v := .tuple #[.int .i64 n, .int .i64 j, .int .i64 c]) rfl (by kernel_rfl) (by kernel_rfl) (by kernel_rfl) (fun _ _ _ h => h) (Or.inl ⟨by kernel_rfl, fun _ _ => by kernel_rfl⟩) hS ?_
  refine wpAnyH_take (i := 10) (v := .int .i64 n) rfl (by kernel_rfl) (by kernel_rfl) (by kernel_rfl) (fun _ _ _ h => h) (Or.inl ⟨by kernel_rfl, fun wx hx => by go_simp⟩) hS ?_
  refine wpAnyH_take (i := 11) (v := .int .i64 j) rfl (by kernel_rfl) (by kernel_rfl) (by kernel_rfl) (fun _ _ _ h => h) (Or.inl ⟨by kernel_rfl, fun wx hx => by go_simp⟩) hS ?_
  refine wpAnyH_take (i := 12) (v := .int .i64 c) rfl (by kernel_rfl) (by kernel_rfl) (by kernel_rfl) (fun _ _ _ h => h) (Or.inl ⟨by kernel_rfl, fun wx hx => by go_simp⟩) hS ?_
  refine wpAnyH_take (i := 13) (v := .int .i64 n) rfl (by kernel_rfl) (by kernel_rfl) (by kernel_rfl) (fun _ _ _ h => h) (Or.inl ⟨by kernel_rfl, fun _ _ => by kernel_rfl⟩) hS ?_
  refine wpAnyH_take (i := 14) (v := .int .i64 j) rfl (by kernel_rfl) (by kernel_rfl) (by kernel_rfl) (fun _ _ _ h => h) (Or.inl ⟨by kernel_rfl, fun _ _ => by kernel_rfl⟩) hS ?_
  refine wpAnyH_take (i := 15) (v := .int .i64 c) rfl (by kernel_rfl) (by kernel_rfl) (by kernel_rfl) (fun _ _ _ h => h) (Or.inl ⟨by kernel_rfl, fun _ _ => by kernel_rfl⟩) hS ?_
  refine wpAnyH_done (by kernel_rfl) ?_ _
  clear hS hS0
  subst hc
  go_simp
  go_wp2_with fail
  go_ret
  exact ⟨rfl, HT2.out.set j, (Chg.refl [p] w).drew.setCell (.inl (by simp)) _⟩
set_option maxHeartbeats 2000000 in
set_option maxRecDepth 100000 in
theorem num_no {p : Nat} {v : Value} {bs : List Int} {i c : Int} (hT : TkAt w p v i) (hv : Oct.Bs w v bs) (hby : ∀ x ∈ bs, 0 ≤ x ∧ x < 256) (h : nm bs i = .error c) : Calls Try.prog 54 #[.pointer (some ⟨p, 0, none⟩)] w fun e w' => e = .panicked (flt c) ∧ Chg [] w w' := by
  obtain ⟨n, j, hk, hc0⟩ := nm_no h
  have HT := Hid.mk hT
  have hb := hv
  obtain ⟨av, cv, rfl, _⟩ := hv
  obtain ⟨nb, Hnb⟩ : ∃ n, Hid (bs.length = n) := ⟨_, ⟨rfl⟩⟩
  have t1 := Oct.takeNum_any _ bs i w.drew (hb.below ⟨rfl, rfl, rfl, Nat.le_refl _, fun _ _ => rfl⟩) hby
  rw [hk] at t1
  simp only at t1
  rw [Hnb.out] at HT t1
  have hS0 : (fun w' => w'.cell? ⟨p, 0, none⟩ = some (.slice av nb cv) ∧ w'.cell? ⟨p, 1, none⟩ = some (.int .i64 i)) w.drew := ⟨HT.out.c0, HT.out.c1⟩
  clear hT hb h hk
  go_enter Try.func54, Try.ntmps54
  go_upto_region 1 with fail
  refine wp_region_held_drew (S := (fun w' => w'.cell? ⟨p, 0, none⟩ = some (.slice av nb cv) ∧ w'.cell? ⟨p, 1, none⟩ = some (.int .i64 i))) (by kernel_rfl) hS0 (fun hS => ?_)
  refine wpAnyH_take (i := 0) (v := .pointer (some ⟨p, 0, none⟩)) rfl (by kernel_rfl) (by kernel_rfl) (by kernel_rfl) (fun _ _ _ h => h) (Or.inl ⟨by kernel_rfl, fun _ _ => by kernel_rfl⟩) hS ?_
  refine wpAnyH_take (i := 1) (v := .pointer (some ⟨p, 0, none⟩)) rfl (by kernel_rfl) (by kernel_rfl) (by kernel_rfl) (fun _ _ _ h => h) (Or.inl ⟨by kernel_rfl, fun wx hx => by go_simp⟩) hS ?_
  refine wpAnyH_take (i := 2) (v := .pointer (some ⟨p, 0, none⟩)) rfl (by kernel_rfl) (by kernel_rfl) (by kernel_rfl) (fun _ _ _ h => h) (Or.inl ⟨by kernel_rfl, fun wx hx => by go_simp⟩) hS ?_
  refine wpAnyH_take (i := 3) (v := .slice av nb cv) rfl (by kernel_rfl) (by kernel_rfl) (by kernel_rfl) (fun _ _ _ h => h) (Or.inl ⟨by kernel_rfl, fun wx hx => by obtain ⟨hx1, hx2⟩ := hx; go_simp⟩) hS ?_
  refine wpAnyH_take (i := 4) (v := .pointer (some ⟨p, 0, none⟩)) rfl (by kernel_rfl) (by kernel_rfl) (by kernel_rfl) (fun _ _ _ h => h) (Or.inl ⟨by kernel_rfl, fun _ _ => by kernel_rfl⟩) hS ?_
  refine wpAnyH_take (i := 5) (v := .pointer (some ⟨p, 0, none⟩)) rfl (by kernel_rfl) (by kernel_rfl) (by kernel_rfl) (fun _ _ _ h => h) (Or.inl ⟨by kernel_rfl, fun wx hx => by go_simp⟩) hS ?_
  refine wpAnyH_take (i := 6) (v := .pointer (some ⟨p, 1, none⟩)) rfl (by kernel_rfl) (by kernel_rfl) (by kernel_rfl) (fun _ _ _ h => h) (Or.inl ⟨by kernel_rfl, fun wx hx => by go_simp⟩) hS ?_
  refine wpAnyH_take (i := 7) (v := .int .i64 i) rfl (by kernel_rfl) (by kernel_rfl) (by kernel_rfl) (fun _ _ _ h => h) (Or.inl ⟨by kernel_rfl, fun wx hx => by obtain ⟨hx1, hx2⟩ := hx; go_simp⟩) hS ?_
  refine wpAnyH_ready (rs := [8]) (by kernel_rfl) (by simp) (AllReadyH.cons rfl (fun Kc hK => ?_) AllReadyH.nil)
  go_simp
  refine t1.mono ?_
  rintro e w5 ⟨rfl, e5⟩
  subst e5
  refine hK.out _ _ hS0 (fun hS => ?_)
  clear hK
  refine wpAnyH_take (i := 9) (v := .tuple #[.int .i64 n, .int .i64 j, .int .i64 c]) rfl (by kernel_rfl) (by kernel_rfl) (by kernel_rfl) (fun _ _ _ h => h) (Or.inl ⟨by kernel_rfl, fun _ _ => by kernel_rfl⟩) hS ?_
  refine wpAnyH_take (i := 10) (v := .int .i64 n) rfl (by kernel_rfl) (by kernel_rfl) (by kernel_rfl) (fun _ _ _ h => h) (Or.inl ⟨by kernel_rfl, fun wx hx => by go_simp⟩) hS ?_
  refine wpAnyH_take (i := 11) (v := .int .i64 j) rfl (by kernel_rfl) (by kernel_rfl) (by kernel_rfl) (fun _ _ _ h => h) (Or.inl ⟨by kernel_rfl, fun wx hx => by go_simp⟩) hS ?_
  refine wpAnyH_take (i := 12) (v := .int .i64 c) rfl (by kernel_rfl) (by kernel_rfl) (by kernel_rfl) (fun _ _ _ h => h) (Or.inl ⟨by kernel_rfl, fun wx hx => by go_simp⟩) hS ?_
  refine wpAnyH_take (i := 13) (v := .int .i64 n) rfl (by kernel_rfl) (by kernel_rfl) (by kernel_rfl) (fun _ _ _ h => h) (Or.inl ⟨by kernel_rfl, fun _ _ => by kernel_rfl⟩) hS ?_
  refine wpAnyH_take (i := 14) (v := .int .i64 j) rfl (by kernel_rfl) (by kernel_rfl) (by kernel_rfl) (fun _ _ _ h => h) (Or.inl ⟨by kernel_rfl, fun _ _ => by kernel_rfl⟩) hS ?_
  refine wpAnyH_take (i := 15) (v := .int .i64 c) rfl (by kernel_rfl) (by kernel_rfl) (by kernel_rfl) (fun _ _ _ h => h) (Or.inl ⟨by kernel_rfl, fun _ _ => by kernel_rfl⟩) hS ?_
  refine wpAnyH_done (by kernel_rfl) ?_ _
  clear hS hS0
  go_simp
  go_wp2_with fail
  exact ⟨rfl, rfl, (Chg.refl [] w).drew⟩
end
end Go.Proofs.Ytiloclekhddkfaa
