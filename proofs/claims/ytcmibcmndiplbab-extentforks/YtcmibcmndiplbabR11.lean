/- The law's do: Claim and Give on both maps. By r11.py. -/
import Derived.Test.YtcmibcmndiplbabR10
namespace Go.Proofs.Ytcmibcmndiplbab
open Go.RowKit Go.Lib Go.Shelf

set_option maxHeartbeats 4000000 in
theorem do_claim {w : World} {p q : Nat} {A B : Int} {base bl : Nat} {l : List (Int × Int)} {v : Value} {T : List Bool} (h : Pair w p q A B base bl l v T) (hA : 0 ≤ A) (hB : B ≤ 4096) (hbs : base ≤ w.heap.size) (at' n : Int) (hat : at' ≤ 9223372036854775807) :
    Calls Try.prog 21 #[.pointer (some ⟨p, 0, none⟩), .pointer (some ⟨q, 0, none⟩), .agg #[.int .i64 1, .int .i64 at', .int .i64 n]] w fun e w' => e = .returned (.bool true) ∧ Out w p q A B base bl w' := by
  have ht := claim_two h.says hA hB p q base bl v at' n hat
  have hw : Below w.heap.size w (w.alloc (.cells #[.int .i64 1, .int .i64 at', .int .i64 n] 54)).drew := ((Below.refl _ w).alloc (Nat.le_refl _) _).drew
  have hws : w.heap.size ≤ (w.alloc (.cells #[.int .i64 1, .int .i64 at', .int .i64 n] 54)).drew.heap.size := hw.size
  have HP0 : Hid (Pair (w.alloc (.cells #[.int .i64 1, .int .i64 at', .int .i64 n] 54)).drew p q A B base bl l v T) := ⟨h.below hw⟩
  have HP : Hid (Pair w p q A B base bl l v T) := ⟨h⟩
  have hbs0 : base ≤ (w.alloc (.cells #[.int .i64 1, .int .i64 at', .int .i64 n] 54)).drew.heap.size := Nat.le_trans hbs hws
  have hwl : w.heap.size < (w.alloc (.cells #[.int .i64 1, .int .i64 at', .int .i64 n] 54)).drew.heap.size := by show w.heap.size < (w.alloc (.cells #[.int .i64 1, .int .i64 at', .int .i64 n] 54)).heap.size; simp
  have hc0 : (w.alloc (.cells #[.int .i64 1, .int .i64 at', .int .i64 n] 54)).drew.cell? ⟨w.heap.size, 1, none⟩ = some (.int .i64 at') ∧ (w.alloc (.cells #[.int .i64 1, .int .i64 at', .int .i64 n] 54)).drew.cell? ⟨w.heap.size, 2, none⟩ = some (.int .i64 n) := by
    constructor
    · show (w.alloc (.cells #[.int .i64 1, .int .i64 at', .int .i64 n] 54)).cell? ⟨w.heap.size, 1, none⟩ = _; simp
    · show (w.alloc (.cells #[.int .i64 1, .int .i64 at', .int .i64 n] 54)).cell? ⟨w.heap.size, 2, none⟩ = _; simp
  have hnp : w.heap.size ≠ p := by obtain ⟨cp, hh⟩ := h.live.at'; have := (Array.getElem?_eq_some_iff.1 hh.row).1; omega
  have hnb : w.heap.size ≠ bl := by obtain ⟨cp, hh⟩ := h.live.at'; have := hh.spAt.2.2.1; omega
  have hnq : w.heap.size ≠ q := by have := h.ref.lt; omega
  clear h
  rcases ht with ⟨x, t1, t2⟩ | ⟨L', T', hs', t1, t2⟩
  · go_enter Try.func21, Try.ntmps21
    go_wp2
    refine wp_region_held_drew (S := fun w' => w'.cell? ⟨w.heap.size, 1, none⟩ = some (.int .i64 at') ∧ w'.cell? ⟨w.heap.size, 2, none⟩ = some (.int .i64 n)) (by kernel_rfl) hc0 (fun hS => ?_)
    refine wpAnyH_take (i := 0) (v := .pointer (some ⟨p, 0, none⟩)) rfl (by kernel_rfl) (by kernel_rfl) (by kernel_rfl) (fun _ _ _ h => h) (Or.inl ⟨by kernel_rfl, fun _ _ => by kernel_rfl⟩) hS ?_
    refine wpAnyH_take (i := 1) (v := .pointer (some ⟨w.heap.size, 1, none⟩)) rfl (by kernel_rfl) (by kernel_rfl) (by kernel_rfl) (fun _ _ _ h => h) (Or.inl ⟨by kernel_rfl, fun wx hx => by go_simp⟩) hS ?_
    refine wpAnyH_take (i := 2) (v := .agg #[.int .i64 at', .int .i64 n]) rfl (by kernel_rfl) (by kernel_rfl) (by kernel_rfl) (fun _ _ _ h => h) (Or.inl ⟨by kernel_rfl, fun wx hx => by have hx1 := hx.1; have hx2 := hx.2; go_simp⟩) hS ?_
    refine wpAnyH_take (i := 4) (v := .pointer (some ⟨q, 0, none⟩)) rfl (by kernel_rfl) (by kernel_rfl) (by kernel_rfl) (fun _ _ _ h => h) (Or.inl ⟨by kernel_rfl, fun _ _ => by kernel_rfl⟩) hS ?_
    refine wpAnyH_take (i := 5) (v := .pointer (some ⟨w.heap.size, 1, none⟩)) rfl (by kernel_rfl) (by kernel_rfl) (by kernel_rfl) (fun _ _ _ h => h) (Or.inl ⟨by kernel_rfl, fun wx hx => by go_simp⟩) hS ?_
    refine wpAnyH_take (i := 6) (v := .agg #[.int .i64 at', .int .i64 n]) rfl (by kernel_rfl) (by kernel_rfl) (by kernel_rfl) (fun _ _ _ h => h) (Or.inl ⟨by kernel_rfl, fun wx hx => by have hx1 := hx.1; have hx2 := hx.2; go_simp⟩) hS ?_
    refine wpAnyH_ready (rs := [3]) (by kernel_rfl) (by simp) (AllReadyH.cons rfl (fun Kc hK => ?_) AllReadyH.nil)
    go_simp
    refine (t1 _ HP0.out.live hbs0).mono ?_
    rintro e w1 ⟨rfl, hb1⟩
    have HP1 : Hid (Pair w1 p q A B base bl l v T) := ⟨HP0.out.below hb1⟩
    have s1 : w1.cell? ⟨w.heap.size, 1, none⟩ = some (.int .i64 at') ∧ w1.cell? ⟨w.heap.size, 2, none⟩ = some (.int .i64 n) := ⟨(hb1.cell (p := ⟨w.heap.size, 1, none⟩) hwl).trans hc0.1, (hb1.cell (p := ⟨w.heap.size, 2, none⟩) hwl).trans hc0.2⟩
    refine hK.out _ _ s1 (fun hS => ?_)
    clear hK t1
    refine wpAnyH_ready (rs := [7]) (by kernel_rfl) (by simp) (AllReadyH.cons rfl (fun Kc hK => ?_) AllReadyH.nil)
    go_simp
    refine (t2 _ HP1.out.ref (Nat.le_trans hbs0 hb1.size)).mono ?_
    rintro e w2 ⟨rfl, hb2⟩
    have s2 : w2.cell? ⟨w.heap.size, 1, none⟩ = some (.int .i64 at') ∧ w2.cell? ⟨w.heap.size, 2, none⟩ = some (.int .i64 n) := ⟨(hb2.cell (p := ⟨w.heap.size, 1, none⟩) (Nat.lt_of_lt_of_le hwl hb1.size)).trans s1.1, (hb2.cell (p := ⟨w.heap.size, 2, none⟩) (Nat.lt_of_lt_of_le hwl hb1.size)).trans s1.2⟩
    have HO : Hid (Out w p q A B base bl w2) := ⟨HP.out.out ((hw.trans (hb1.mono (by omega))).trans (hb2.mono (Nat.le_trans (by omega) hb1.size))) hbs⟩
    clear t2 HP1 hb1 hb2
    refine hK.out _ _ s2 (fun hS => ?_)
    clear hK
    refine wpAnyH_take (i := 8) (v := .bool true) rfl (by kernel_rfl) (by kernel_rfl) (by kernel_rfl) (fun _ _ _ h => h) (Or.inl ⟨by kernel_rfl, fun wx hx => by go_simp⟩) hS ?_
    refine wpAnyH_take (i := 9) (v := .bool true) rfl (by kernel_rfl) (by kernel_rfl) (by kernel_rfl) (fun _ _ _ h => h) (Or.inl ⟨by kernel_rfl, fun _ _ => by kernel_rfl⟩) hS ?_
    refine wpAnyH_done (by kernel_rfl) ?_ _
    go_wp2
    go_ret
    exact ⟨rfl, HO.out⟩
  · go_enter Try.func21, Try.ntmps21
    go_wp2
    refine wp_region_held_drew (S := fun w' => w'.cell? ⟨w.heap.size, 1, none⟩ = some (.int .i64 at') ∧ w'.cell? ⟨w.heap.size, 2, none⟩ = some (.int .i64 n)) (by kernel_rfl) hc0 (fun hS => ?_)
    refine wpAnyH_take (i := 0) (v := .pointer (some ⟨p, 0, none⟩)) rfl (by kernel_rfl) (by kernel_rfl) (by kernel_rfl) (fun _ _ _ h => h) (Or.inl ⟨by kernel_rfl, fun _ _ => by kernel_rfl⟩) hS ?_
    refine wpAnyH_take (i := 1) (v := .pointer (some ⟨w.heap.size, 1, none⟩)) rfl (by kernel_rfl) (by kernel_rfl) (by kernel_rfl) (fun _ _ _ h => h) (Or.inl ⟨by kernel_rfl, fun wx hx => by go_simp⟩) hS ?_
    refine wpAnyH_take (i := 2) (v := .agg #[.int .i64 at', .int .i64 n]) rfl (by kernel_rfl) (by kernel_rfl) (by kernel_rfl) (fun _ _ _ h => h) (Or.inl ⟨by kernel_rfl, fun wx hx => by have hx1 := hx.1; have hx2 := hx.2; go_simp⟩) hS ?_
    refine wpAnyH_take (i := 4) (v := .pointer (some ⟨q, 0, none⟩)) rfl (by kernel_rfl) (by kernel_rfl) (by kernel_rfl) (fun _ _ _ h => h) (Or.inl ⟨by kernel_rfl, fun _ _ => by kernel_rfl⟩) hS ?_
    refine wpAnyH_take (i := 5) (v := .pointer (some ⟨w.heap.size, 1, none⟩)) rfl (by kernel_rfl) (by kernel_rfl) (by kernel_rfl) (fun _ _ _ h => h) (Or.inl ⟨by kernel_rfl, fun wx hx => by go_simp⟩) hS ?_
    refine wpAnyH_take (i := 6) (v := .agg #[.int .i64 at', .int .i64 n]) rfl (by kernel_rfl) (by kernel_rfl) (by kernel_rfl) (fun _ _ _ h => h) (Or.inl ⟨by kernel_rfl, fun wx hx => by have hx1 := hx.1; have hx2 := hx.2; go_simp⟩) hS ?_
    refine wpAnyH_ready (rs := [3]) (by kernel_rfl) (by simp) (AllReadyH.cons rfl (fun Kc hK => ?_) AllReadyH.nil)
    go_simp
    refine (t1 _ HP0.out.live hbs0).mono ?_
    rintro e w1 ⟨rfl, hM1⟩
    have hk1 := hM1.2.2 w.heap.size hwl hnp hnb
    have s1 : w1.cell? ⟨w.heap.size, 1, none⟩ = some (.int .i64 at') ∧ w1.cell? ⟨w.heap.size, 2, none⟩ = some (.int .i64 n) := ⟨(cell_same hk1 1).trans hc0.1, (cell_same hk1 2).trans hc0.2⟩
    refine hK.out _ _ s1 (fun hS => ?_)
    clear hK t1
    refine wpAnyH_ready (rs := [7]) (by kernel_rfl) (by simp) (AllReadyH.cons rfl (fun Kc hK => ?_) AllReadyH.nil)
    go_simp
    refine (t2 _ (HP0.out.refMaps hM1) (Nat.le_trans hbs0 hM1.2.1.size)).mono ?_
    rintro e w2 ⟨rfl, hR2⟩
    have hk2 := hR2.2.2 w.heap.size (Nat.lt_of_lt_of_le hwl hM1.2.1.size) hnq
    have s2 : w2.cell? ⟨w.heap.size, 1, none⟩ = some (.int .i64 at') ∧ w2.cell? ⟨w.heap.size, 2, none⟩ = some (.int .i64 n) := ⟨(cell_same hk2 1).trans s1.1, (cell_same hk2 2).trans s1.2⟩
    have hO := HP0.out.both hM1 hR2 hs'
    have HO : Hid (Out w p q A B base bl w2) := ⟨hO.back hw hbs⟩
    clear t2 hO hk1 hk2 hM1 hR2
    refine hK.out _ _ s2 (fun hS => ?_)
    clear hK
    refine wpAnyH_take (i := 8) (v := .bool true) rfl (by kernel_rfl) (by kernel_rfl) (by kernel_rfl) (fun _ _ _ h => h) (Or.inl ⟨by kernel_rfl, fun wx hx => by go_simp⟩) hS ?_
    refine wpAnyH_take (i := 9) (v := .bool true) rfl (by kernel_rfl) (by kernel_rfl) (by kernel_rfl) (fun _ _ _ h => h) (Or.inl ⟨by kernel_rfl, fun _ _ => by kernel_rfl⟩) hS ?_
    refine wpAnyH_done (by kernel_rfl) ?_ _
    go_wp2
    go_ret
    exact ⟨rfl, HO.out⟩

set_option maxHeartbeats 4000000 in
theorem do_give {w : World} {p q : Nat} {A B : Int} {base bl : Nat} {l : List (Int × Int)} {v : Value} {T : List Bool} (h : Pair w p q A B base bl l v T) (hA : 0 ≤ A) (hB : B ≤ 4096) (hbs : base ≤ w.heap.size) (d : Int) (hd0 : d ≠ 0) (hd1 : d ≠ 1) (at' n : Int) (hat : at' ≤ 9223372036854775807) :
    Calls Try.prog 21 #[.pointer (some ⟨p, 0, none⟩), .pointer (some ⟨q, 0, none⟩), .agg #[.int .i64 d, .int .i64 at', .int .i64 n]] w fun e w' => e = .returned (.bool true) ∧ Out w p q A B base bl w' := by
  have ht := give_two h.says hA hB p q base bl v at' n hat
  have hw : Below w.heap.size w (w.alloc (.cells #[.int .i64 d, .int .i64 at', .int .i64 n] 54)).drew := ((Below.refl _ w).alloc (Nat.le_refl _) _).drew
  have hws : w.heap.size ≤ (w.alloc (.cells #[.int .i64 d, .int .i64 at', .int .i64 n] 54)).drew.heap.size := hw.size
  have HP0 : Hid (Pair (w.alloc (.cells #[.int .i64 d, .int .i64 at', .int .i64 n] 54)).drew p q A B base bl l v T) := ⟨h.below hw⟩
  have HP : Hid (Pair w p q A B base bl l v T) := ⟨h⟩
  have hbs0 : base ≤ (w.alloc (.cells #[.int .i64 d, .int .i64 at', .int .i64 n] 54)).drew.heap.size := Nat.le_trans hbs hws
  have hwl : w.heap.size < (w.alloc (.cells #[.int .i64 d, .int .i64 at', .int .i64 n] 54)).drew.heap.size := by show w.heap.size < (w.alloc (.cells #[.int .i64 d, .int .i64 at', .int .i64 n] 54)).heap.size; simp
  have hc0 : (w.alloc (.cells #[.int .i64 d, .int .i64 at', .int .i64 n] 54)).drew.cell? ⟨w.heap.size, 1, none⟩ = some (.int .i64 at') ∧ (w.alloc (.cells #[.int .i64 d, .int .i64 at', .int .i64 n] 54)).drew.cell? ⟨w.heap.size, 2, none⟩ = some (.int .i64 n) := by
    constructor
    · show (w.alloc (.cells #[.int .i64 d, .int .i64 at', .int .i64 n] 54)).cell? ⟨w.heap.size, 1, none⟩ = _; simp
    · show (w.alloc (.cells #[.int .i64 d, .int .i64 at', .int .i64 n] 54)).cell? ⟨w.heap.size, 2, none⟩ = _; simp
  have hnp : w.heap.size ≠ p := by obtain ⟨cp, hh⟩ := h.live.at'; have := (Array.getElem?_eq_some_iff.1 hh.row).1; omega
  have hnb : w.heap.size ≠ bl := by obtain ⟨cp, hh⟩ := h.live.at'; have := hh.spAt.2.2.1; omega
  have hnq : w.heap.size ≠ q := by have := h.ref.lt; omega
  clear h
  rcases ht with ⟨x, t1, t2⟩ | ⟨L', T', hs', t1, t2⟩
  · go_enter Try.func21, Try.ntmps21
    go_wp2
    refine wp_region_held_drew (S := fun w' => w'.cell? ⟨w.heap.size, 1, none⟩ = some (.int .i64 at') ∧ w'.cell? ⟨w.heap.size, 2, none⟩ = some (.int .i64 n)) (by kernel_rfl) hc0 (fun hS => ?_)
    refine wpAnyH_take (i := 0) (v := .pointer (some ⟨p, 0, none⟩)) rfl (by kernel_rfl) (by kernel_rfl) (by kernel_rfl) (fun _ _ _ h => h) (Or.inl ⟨by kernel_rfl, fun _ _ => by kernel_rfl⟩) hS ?_
    refine wpAnyH_take (i := 1) (v := .pointer (some ⟨w.heap.size, 1, none⟩)) rfl (by kernel_rfl) (by kernel_rfl) (by kernel_rfl) (fun _ _ _ h => h) (Or.inl ⟨by kernel_rfl, fun wx hx => by go_simp⟩) hS ?_
    refine wpAnyH_take (i := 2) (v := .agg #[.int .i64 at', .int .i64 n]) rfl (by kernel_rfl) (by kernel_rfl) (by kernel_rfl) (fun _ _ _ h => h) (Or.inl ⟨by kernel_rfl, fun wx hx => by have hx1 := hx.1; have hx2 := hx.2; go_simp⟩) hS ?_
    refine wpAnyH_take (i := 4) (v := .pointer (some ⟨q, 0, none⟩)) rfl (by kernel_rfl) (by kernel_rfl) (by kernel_rfl) (fun _ _ _ h => h) (Or.inl ⟨by kernel_rfl, fun _ _ => by kernel_rfl⟩) hS ?_
    refine wpAnyH_take (i := 5) (v := .pointer (some ⟨w.heap.size, 1, none⟩)) rfl (by kernel_rfl) (by kernel_rfl) (by kernel_rfl) (fun _ _ _ h => h) (Or.inl ⟨by kernel_rfl, fun wx hx => by go_simp⟩) hS ?_
    refine wpAnyH_take (i := 6) (v := .agg #[.int .i64 at', .int .i64 n]) rfl (by kernel_rfl) (by kernel_rfl) (by kernel_rfl) (fun _ _ _ h => h) (Or.inl ⟨by kernel_rfl, fun wx hx => by have hx1 := hx.1; have hx2 := hx.2; go_simp⟩) hS ?_
    refine wpAnyH_ready (rs := [3]) (by kernel_rfl) (by simp) (AllReadyH.cons rfl (fun Kc hK => ?_) AllReadyH.nil)
    go_simp
    refine (t1 _ HP0.out.live hbs0).mono ?_
    rintro e w1 ⟨rfl, hb1⟩
    have HP1 : Hid (Pair w1 p q A B base bl l v T) := ⟨HP0.out.below hb1⟩
    have s1 : w1.cell? ⟨w.heap.size, 1, none⟩ = some (.int .i64 at') ∧ w1.cell? ⟨w.heap.size, 2, none⟩ = some (.int .i64 n) := ⟨(hb1.cell (p := ⟨w.heap.size, 1, none⟩) hwl).trans hc0.1, (hb1.cell (p := ⟨w.heap.size, 2, none⟩) hwl).trans hc0.2⟩
    refine hK.out _ _ s1 (fun hS => ?_)
    clear hK t1
    refine wpAnyH_ready (rs := [7]) (by kernel_rfl) (by simp) (AllReadyH.cons rfl (fun Kc hK => ?_) AllReadyH.nil)
    go_simp
    refine (t2 _ HP1.out.ref (Nat.le_trans hbs0 hb1.size)).mono ?_
    rintro e w2 ⟨rfl, hb2⟩
    have s2 : w2.cell? ⟨w.heap.size, 1, none⟩ = some (.int .i64 at') ∧ w2.cell? ⟨w.heap.size, 2, none⟩ = some (.int .i64 n) := ⟨(hb2.cell (p := ⟨w.heap.size, 1, none⟩) (Nat.lt_of_lt_of_le hwl hb1.size)).trans s1.1, (hb2.cell (p := ⟨w.heap.size, 2, none⟩) (Nat.lt_of_lt_of_le hwl hb1.size)).trans s1.2⟩
    have HO : Hid (Out w p q A B base bl w2) := ⟨HP.out.out ((hw.trans (hb1.mono (by omega))).trans (hb2.mono (Nat.le_trans (by omega) hb1.size))) hbs⟩
    clear t2 HP1 hb1 hb2
    refine hK.out _ _ s2 (fun hS => ?_)
    clear hK
    refine wpAnyH_take (i := 8) (v := .bool true) rfl (by kernel_rfl) (by kernel_rfl) (by kernel_rfl) (fun _ _ _ h => h) (Or.inl ⟨by kernel_rfl, fun wx hx => by go_simp⟩) hS ?_
    refine wpAnyH_take (i := 9) (v := .bool true) rfl (by kernel_rfl) (by kernel_rfl) (by kernel_rfl) (fun _ _ _ h => h) (Or.inl ⟨by kernel_rfl, fun _ _ => by kernel_rfl⟩) hS ?_
    refine wpAnyH_done (by kernel_rfl) ?_ _
    go_wp2
    go_ret
    exact ⟨rfl, HO.out⟩
  · go_enter Try.func21, Try.ntmps21
    go_wp2
    refine wp_region_held_drew (S := fun w' => w'.cell? ⟨w.heap.size, 1, none⟩ = some (.int .i64 at') ∧ w'.cell? ⟨w.heap.size, 2, none⟩ = some (.int .i64 n)) (by kernel_rfl) hc0 (fun hS => ?_)
    refine wpAnyH_take (i := 0) (v := .pointer (some ⟨p, 0, none⟩)) rfl (by kernel_rfl) (by kernel_rfl) (by kernel_rfl) (fun _ _ _ h => h) (Or.inl ⟨by kernel_rfl, fun _ _ => by kernel_rfl⟩) hS ?_
    refine wpAnyH_take (i := 1) (v := .pointer (some ⟨w.heap.size, 1, none⟩)) rfl (by kernel_rfl) (by kernel_rfl) (by kernel_rfl) (fun _ _ _ h => h) (Or.inl ⟨by kernel_rfl, fun wx hx => by go_simp⟩) hS ?_
    refine wpAnyH_take (i := 2) (v := .agg #[.int .i64 at', .int .i64 n]) rfl (by kernel_rfl) (by kernel_rfl) (by kernel_rfl) (fun _ _ _ h => h) (Or.inl ⟨by kernel_rfl, fun wx hx => by have hx1 := hx.1; have hx2 := hx.2; go_simp⟩) hS ?_
    refine wpAnyH_take (i := 4) (v := .pointer (some ⟨q, 0, none⟩)) rfl (by kernel_rfl) (by kernel_rfl) (by kernel_rfl) (fun _ _ _ h => h) (Or.inl ⟨by kernel_rfl, fun _ _ => by kernel_rfl⟩) hS ?_
    refine wpAnyH_take (i := 5) (v := .pointer (some ⟨w.heap.size, 1, none⟩)) rfl (by kernel_rfl) (by kernel_rfl) (by kernel_rfl) (fun _ _ _ h => h) (Or.inl ⟨by kernel_rfl, fun wx hx => by go_simp⟩) hS ?_
    refine wpAnyH_take (i := 6) (v := .agg #[.int .i64 at', .int .i64 n]) rfl (by kernel_rfl) (by kernel_rfl) (by kernel_rfl) (fun _ _ _ h => h) (Or.inl ⟨by kernel_rfl, fun wx hx => by have hx1 := hx.1; have hx2 := hx.2; go_simp⟩) hS ?_
    refine wpAnyH_ready (rs := [3]) (by kernel_rfl) (by simp) (AllReadyH.cons rfl (fun Kc hK => ?_) AllReadyH.nil)
    go_simp
    refine (t1 _ HP0.out.live hbs0).mono ?_
    rintro e w1 ⟨rfl, hM1⟩
    have hk1 := hM1.2.2 w.heap.size hwl hnp hnb
    have s1 : w1.cell? ⟨w.heap.size, 1, none⟩ = some (.int .i64 at') ∧ w1.cell? ⟨w.heap.size, 2, none⟩ = some (.int .i64 n) := ⟨(cell_same hk1 1).trans hc0.1, (cell_same hk1 2).trans hc0.2⟩
    refine hK.out _ _ s1 (fun hS => ?_)
    clear hK t1
    refine wpAnyH_ready (rs := [7]) (by kernel_rfl) (by simp) (AllReadyH.cons rfl (fun Kc hK => ?_) AllReadyH.nil)
    go_simp
    refine (t2 _ (HP0.out.refMaps hM1) (Nat.le_trans hbs0 hM1.2.1.size)).mono ?_
    rintro e w2 ⟨rfl, hR2⟩
    have hk2 := hR2.2.2 w.heap.size (Nat.lt_of_lt_of_le hwl hM1.2.1.size) hnq
    have s2 : w2.cell? ⟨w.heap.size, 1, none⟩ = some (.int .i64 at') ∧ w2.cell? ⟨w.heap.size, 2, none⟩ = some (.int .i64 n) := ⟨(cell_same hk2 1).trans s1.1, (cell_same hk2 2).trans s1.2⟩
    have hO := HP0.out.both hM1 hR2 hs'
    have HO : Hid (Out w p q A B base bl w2) := ⟨hO.back hw hbs⟩
    clear t2 hO hk1 hk2 hM1 hR2
    refine hK.out _ _ s2 (fun hS => ?_)
    clear hK
    refine wpAnyH_take (i := 8) (v := .bool true) rfl (by kernel_rfl) (by kernel_rfl) (by kernel_rfl) (fun _ _ _ h => h) (Or.inl ⟨by kernel_rfl, fun wx hx => by go_simp⟩) hS ?_
    refine wpAnyH_take (i := 9) (v := .bool true) rfl (by kernel_rfl) (by kernel_rfl) (by kernel_rfl) (fun _ _ _ h => h) (Or.inl ⟨by kernel_rfl, fun _ _ => by kernel_rfl⟩) hS ?_
    refine wpAnyH_done (by kernel_rfl) ?_ _
    go_wp2
    go_ret
    exact ⟨rfl, HO.out⟩
end Go.Proofs.Ytcmibcmndiplbab
