/- A cell in memory: other, ready, Open. -/
import Derived.Test.YtgjjjkokmgdmjaaDoorS9
namespace Go.Proofs.YtgjjjkokmgdmjaaDoor
open Go.RowKit
/-- A cell in memory: its disk, its first sector, the disk's life when it was opened. -/
def CellAt (w : World) (q p : Nat) (bs lf : Int) : Prop := w.heap[q]? = some (.cells #[.pointer (some ⟨p, 0, none⟩), .int .i64 bs, .int .i64 lf] 55 (0, 0))
section
variable {w : World} {q p g bm base : Nat} {bs lf : Int} {d : Dk.Dk}
theorem CellAt.cells (h : CellAt w q p bs lf) : w.cell? ⟨q, 0, none⟩ = some (.pointer (some ⟨p, 0, none⟩)) ∧ w.cell? ⟨q, 1, none⟩ = some (.int .i64 bs) ∧ w.cell? ⟨q, 2, none⟩ = some (.int .i64 lf) := by
  unfold CellAt at h
  refine ⟨?_, ?_, ?_⟩ <;> simp [World.cell?, h]
theorem other_none : Calls Tryd.prog 24 #[.int .i64 (-1)] w fun e w' => e = .returned (.int .i64 0) ∧ w = w' := by
  go_enter Tryd.func24, Tryd.ntmps24
  go_wp2_with fail
  go_ret
  exact ⟨rfl, rfl⟩
theorem other_some (k : Nat) (hk : k ≤ 1) : Calls Tryd.prog 24 #[.int .i64 (k : Int)] w fun e w' => e = .returned (.int .i64 ((1 - k : Nat) : Int)) ∧ w = w' := by
  rcases (by omega : k = 0 ∨ k = 1) with rfl | rfl
  · go_enter Tryd.func24, Tryd.ntmps24
    go_wp2_with fail
    go_ret
    exact ⟨rfl, rfl⟩
  · go_enter Tryd.func24, Tryd.ntmps24
    go_wp2_with fail
    go_ret
    exact ⟨rfl, rfl⟩
theorem cready_nil : Calls Tryd.prog 34 #[.pointer none] w fun e w' => e = .returned (.int .i64 1) ∧ w = w' := by
  go_enter Tryd.func34, Tryd.ntmps34
  go_wp2_with fail
  go_ret
  exact ⟨rfl, rfl⟩
/-- What ready tells. -/
def rdy (d : Dk.Dk) (lf : Int) : Int := if d.life = lf then (if d.down then 7 else 0) else 14
set_option maxHeartbeats 4000000 in
theorem cready_any (h : Dk.At w p g bm base d) (hc : CellAt w q p bs lf) : Calls Tryd.prog 34 #[.pointer (some ⟨q, 0, none⟩)] w fun e w' => e = .returned (.int .i64 (rdy d lf)) ∧ w.drew = w' := by
  have t1 := Dk.life_any (w := w.drew) (h.below (Below.refl _ _).drew)
  have t2 := Dk.down_any (w := w.drew) (h.below (Below.refl _ _).drew)
  obtain ⟨hc0, hc1, hc2⟩ := hc.cells
  clear h hc
  unfold rdy
  obtain ⟨L, hL⟩ : ∃ L, d.life = L := ⟨_, rfl⟩
  obtain ⟨D, hD⟩ : ∃ D, d.down = D := ⟨_, rfl⟩
  rw [hL] at t1 ⊢
  rw [hD] at t2 ⊢
  clear hL hD
  by_cases hl : L = lf
  · rw [if_pos hl]
    rw [hl] at t1
    clear hl
    go_enter Tryd.func34, Tryd.ntmps34
    go_upto_region 3 with fail
    refine wp_region_held_drew (S := (fun w' => w'.cell? ⟨q, 0, none⟩ = some (.pointer (some ⟨p, 0, none⟩)) ∧ w'.cell? ⟨q, 2, none⟩ = some (.int .i64 lf))) (by kernel_rfl) ⟨hc0, hc2⟩ (fun hS => ?_)
    refine wpAnyH_take (i := 0) (v := .pointer (some ⟨q, 0, none⟩)) rfl (by kernel_rfl) (by kernel_rfl) (by kernel_rfl) (fun _ _ _ h => h) (Or.inl ⟨by kernel_rfl, fun _ _ => by kernel_rfl⟩) hS ?_
    refine wpAnyH_take (i := 1) (v := .pointer (some ⟨q, 0, none⟩)) rfl (by kernel_rfl) (by kernel_rfl) (by kernel_rfl) (fun _ _ _ h => h) (Or.inl ⟨by kernel_rfl, fun wx hx => by go_simp⟩) hS ?_
    refine wpAnyH_take (i := 2) (v := .pointer (some ⟨q, 0, none⟩)) rfl (by kernel_rfl) (by kernel_rfl) (by kernel_rfl) (fun _ _ _ h => h) (Or.inl ⟨by kernel_rfl, fun wx hx => by go_simp⟩) hS ?_
    refine wpAnyH_take (i := 3) (v := .pointer (some ⟨p, 0, none⟩)) rfl (by kernel_rfl) (by kernel_rfl) (by kernel_rfl) (fun _ _ _ h => h) (Or.inl ⟨by kernel_rfl, fun wx hx => by obtain ⟨k0, k2⟩ := hx; go_simp⟩) hS ?_
    refine wpAnyH_take (i := 5) (v := .pointer (some ⟨q, 0, none⟩)) rfl (by kernel_rfl) (by kernel_rfl) (by kernel_rfl) (fun _ _ _ h => h) (Or.inl ⟨by kernel_rfl, fun _ _ => by kernel_rfl⟩) hS ?_
    refine wpAnyH_take (i := 6) (v := .pointer (some ⟨q, 0, none⟩)) rfl (by kernel_rfl) (by kernel_rfl) (by kernel_rfl) (fun _ _ _ h => h) (Or.inl ⟨by kernel_rfl, fun wx hx => by go_simp⟩) hS ?_
    refine wpAnyH_take (i := 7) (v := .pointer (some ⟨q, 2, none⟩)) rfl (by kernel_rfl) (by kernel_rfl) (by kernel_rfl) (fun _ _ _ h => h) (Or.inl ⟨by kernel_rfl, fun wx hx => by go_simp⟩) hS ?_
    refine wpAnyH_take (i := 8) (v := .int .i64 lf) rfl (by kernel_rfl) (by kernel_rfl) (by kernel_rfl) (fun _ _ _ h => h) (Or.inl ⟨by kernel_rfl, fun wx hx => by obtain ⟨k0, k2⟩ := hx; go_simp⟩) hS ?_
    refine wpAnyH_ready (rs := [4]) (by kernel_rfl) (by simp) (AllReadyH.cons rfl (fun Kc hK => ?_) AllReadyH.nil)
    go_simp
    refine t1.mono ?_
    rintro e wx ⟨rfl, ex⟩
    subst ex
    refine hK.out _ _ ⟨hc0, hc2⟩ (fun hS => ?_)
    clear hK
    refine wpAnyH_take (i := 9) (v := .bool false) rfl (by kernel_rfl) (by kernel_rfl) (by kernel_rfl) (fun _ _ _ h => h) (Or.inl ⟨by kernel_rfl, fun wx hx => by go_simp⟩) hS ?_
    refine wpAnyH_done (by kernel_rfl) ?_ _
    clear hS t1
    go_simp
    cases D
    · go_wp2_with (go_at_call 18; refine t2.mono ?_; rintro e wx ⟨rfl, ex⟩; subst ex)
      go_ret
      exact ⟨rfl, rfl⟩
    · go_wp2_with (go_at_call 18; refine t2.mono ?_; rintro e wx ⟨rfl, ex⟩; subst ex)
      go_ret
      exact ⟨rfl, rfl⟩
  · rw [if_neg hl]
    have hl2 : (L != lf) = true := by simpa using hl
    have hl3 : (L == lf) = false := by simpa using hl
    go_enter Tryd.func34, Tryd.ntmps34
    go_upto_region 3 with fail
    refine wp_region_held_drew (S := (fun w' => w'.cell? ⟨q, 0, none⟩ = some (.pointer (some ⟨p, 0, none⟩)) ∧ w'.cell? ⟨q, 2, none⟩ = some (.int .i64 lf))) (by kernel_rfl) ⟨hc0, hc2⟩ (fun hS => ?_)
    refine wpAnyH_take (i := 0) (v := .pointer (some ⟨q, 0, none⟩)) rfl (by kernel_rfl) (by kernel_rfl) (by kernel_rfl) (fun _ _ _ h => h) (Or.inl ⟨by kernel_rfl, fun _ _ => by kernel_rfl⟩) hS ?_
    refine wpAnyH_take (i := 1) (v := .pointer (some ⟨q, 0, none⟩)) rfl (by kernel_rfl) (by kernel_rfl) (by kernel_rfl) (fun _ _ _ h => h) (Or.inl ⟨by kernel_rfl, fun wx hx => by go_simp⟩) hS ?_
    refine wpAnyH_take (i := 2) (v := .pointer (some ⟨q, 0, none⟩)) rfl (by kernel_rfl) (by kernel_rfl) (by kernel_rfl) (fun _ _ _ h => h) (Or.inl ⟨by kernel_rfl, fun wx hx => by go_simp⟩) hS ?_
    refine wpAnyH_take (i := 3) (v := .pointer (some ⟨p, 0, none⟩)) rfl (by kernel_rfl) (by kernel_rfl) (by kernel_rfl) (fun _ _ _ h => h) (Or.inl ⟨by kernel_rfl, fun wx hx => by obtain ⟨k0, k2⟩ := hx; go_simp⟩) hS ?_
    refine wpAnyH_take (i := 5) (v := .pointer (some ⟨q, 0, none⟩)) rfl (by kernel_rfl) (by kernel_rfl) (by kernel_rfl) (fun _ _ _ h => h) (Or.inl ⟨by kernel_rfl, fun _ _ => by kernel_rfl⟩) hS ?_
    refine wpAnyH_take (i := 6) (v := .pointer (some ⟨q, 0, none⟩)) rfl (by kernel_rfl) (by kernel_rfl) (by kernel_rfl) (fun _ _ _ h => h) (Or.inl ⟨by kernel_rfl, fun wx hx => by go_simp⟩) hS ?_
    refine wpAnyH_take (i := 7) (v := .pointer (some ⟨q, 2, none⟩)) rfl (by kernel_rfl) (by kernel_rfl) (by kernel_rfl) (fun _ _ _ h => h) (Or.inl ⟨by kernel_rfl, fun wx hx => by go_simp⟩) hS ?_
    refine wpAnyH_take (i := 8) (v := .int .i64 lf) rfl (by kernel_rfl) (by kernel_rfl) (by kernel_rfl) (fun _ _ _ h => h) (Or.inl ⟨by kernel_rfl, fun wx hx => by obtain ⟨k0, k2⟩ := hx; go_simp⟩) hS ?_
    refine wpAnyH_ready (rs := [4]) (by kernel_rfl) (by simp) (AllReadyH.cons rfl (fun Kc hK => ?_) AllReadyH.nil)
    go_simp
    refine t1.mono ?_
    rintro e wx ⟨rfl, ex⟩
    subst ex
    refine hK.out _ _ ⟨hc0, hc2⟩ (fun hS => ?_)
    clear hK
    refine wpAnyH_take (i := 9) (v := .bool true) rfl (by kernel_rfl) (by kernel_rfl) (by kernel_rfl) (fun _ _ _ h => h) (Or.inl ⟨by kernel_rfl, fun wx hx => by go_simp⟩) hS ?_
    refine wpAnyH_done (by kernel_rfl) ?_ _
    clear hS t1 t2
    go_simp
    go_wp2_with fail
    go_ret
    exact ⟨rfl, rfl⟩
/-- What Open tells. -/
def opn (d : Dk.Dk) (bs : Int) : Int := if d.down then 7 else if bs < 0 ∨ (d.S.length : Int) - 2 < bs then 2 else 0
theorem open_nil (bs : Int) : Calls Tryd.prog 7 #[.pointer none, .int .i64 bs] w fun e w' => e = .returned (.tuple #[.pointer none, .int .i64 1]) ∧ w = w' := by
  go_enter Tryd.func7, Tryd.ntmps7
  go_wp2_with fail
  go_ret2
  exact ⟨rfl, rfl⟩
theorem open_bad (h : Dk.At w p g bm base d) (hz : opn d bs ≠ 0) : Calls Tryd.prog 7 #[.pointer (some ⟨p, 0, none⟩), .int .i64 bs] w fun e w' => e = .returned (.tuple #[.pointer none, .int .i64 (opn d bs)]) ∧ w = w' := by
  have t2 := Dk.down_any h
  have t3 := Dk.sectors_any h
  have hS : d.S.length ≤ 4096 := by obtain ⟨_, _, _, _, q⟩ := h; exact q.len
  clear h
  unfold opn at hz ⊢
  obtain ⟨D, hD⟩ : ∃ D, d.down = D := ⟨_, rfl⟩
  obtain ⟨S, hSS⟩ : ∃ S, d.S.length = S := ⟨_, rfl⟩
  rw [hD] at t2 hz ⊢
  rw [hSS] at t3 hz hS ⊢
  clear hD hSS
  cases D
  · simp only [Bool.false_eq_true, if_false] at hz ⊢
    by_cases hb : bs < 0 ∨ (S : Int) - 2 < bs
    · rw [if_pos hb]
      by_cases h0 : bs < 0
      · clear hb hz
        go_enter Tryd.func7, Tryd.ntmps7
        go_wp2_with (go_at_call 18; refine t2.mono ?_; rintro e wx ⟨rfl, ex⟩; subst ex)
        go_ret2
        exact ⟨rfl, rfl⟩
      · have h1 : (S : Int) - 2 < bs := by omega
        clear hb hz
        go_enter Tryd.func7, Tryd.ntmps7
        go_wp2_with (first | (go_at_call 18; refine t2.mono ?_; rintro e wx ⟨rfl, ex⟩; subst ex) | (go_at_call 19; refine t3.mono ?_; rintro e wx ⟨rfl, ex⟩; subst ex))
        go_ret2
        exact ⟨rfl, rfl⟩
    · rw [if_neg hb] at hz; exact absurd rfl hz
  · clear hz
    go_enter Tryd.func7, Tryd.ntmps7
    go_wp2_with (go_at_call 18; refine t2.mono ?_; rintro e wx ⟨rfl, ex⟩; subst ex)
    go_ret2
    exact ⟨rfl, rfl⟩
theorem open_good (h : Dk.At w p g bm base d) (hz : opn d bs = 0) : Calls Tryd.prog 7 #[.pointer (some ⟨p, 0, none⟩), .int .i64 bs] w fun e w' => e = .returned (.tuple #[.pointer (some ⟨w.heap.size, 0, none⟩), .int .i64 0]) ∧ CellAt w' w.heap.size p bs d.life ∧ Below w.heap.size w w' := by
  have t2 := Dk.down_any h
  have t3 := Dk.sectors_any h
  have t4 := Dk.life_any h
  have hS : d.S.length ≤ 4096 := by obtain ⟨_, _, _, _, q⟩ := h; exact q.len
  clear h
  unfold opn at hz
  obtain ⟨D, hD⟩ : ∃ D, d.down = D := ⟨_, rfl⟩
  obtain ⟨S, hSS⟩ : ∃ S, d.S.length = S := ⟨_, rfl⟩
  obtain ⟨L, hL⟩ : ∃ L, d.life = L := ⟨_, rfl⟩
  rw [hD] at t2 hz
  rw [hSS] at t3 hz hS
  rw [hL] at t4 ⊢
  clear hD hSS hL
  cases D
  · simp only [Bool.false_eq_true, if_false] at hz
    by_cases hb : bs < 0 ∨ (S : Int) - 2 < bs
    · rw [if_pos hb] at hz; omega
    · have h0 : ¬ bs < 0 := by omega
      have h1 : ¬ (S : Int) - 2 < bs := by omega
      clear hb hz
      go_enter Tryd.func7, Tryd.ntmps7
      go_wp2_with (first | (go_at_call 18; refine t2.mono ?_; rintro e wx ⟨rfl, ex⟩; subst ex) | (go_at_call 19; refine t3.mono ?_; rintro e wx ⟨rfl, ex⟩; subst ex) | (go_at_call 20; refine t4.mono ?_; rintro e wx ⟨rfl, ex⟩; subst ex))
      go_ret2
      exact ⟨rfl, heap_alloc_new w _, (Below.refl _ w).alloc (Nat.le_refl _) _⟩
  · simp at hz
end
end Go.Proofs.YtgjjjkokmgdmjaaDoor
