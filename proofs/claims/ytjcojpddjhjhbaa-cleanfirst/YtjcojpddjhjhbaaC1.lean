/- Shares: their cells, and how they are compared. -/
import Derived.Test.YtjcojpddjhjhbaaMultiB
import Derived.Test.YtjcojpddjhjhbaaInts
import Derived.Sort.Grow
import Derived.Lib.MinMax
import Derived.Deep.RegionHeld3
import Derived.Laws.Tables
import Derived.Laws.CopyRow
namespace Go.Proofs.Ytjcojpddjhjhbaa
open Go.RowKit Go.Lib

def cmpI (x y : Int) : Int := if x < y then -1 else if y < x then 1 else 0
section
variable {w : World}
set_option maxRecDepth 100000 in
theorem isnan_q (x : Int) : Calls Try.prog 52 #[.int .i64 x] w fun e w' => e = .returned (.bool false) ∧ w' = w := by
  go_enter Try.func52, Try.ntmps52
  go_wp2_with fail
  go_ret
  exact ⟨rfl, rfl⟩
set_option maxRecDepth 100000 in
theorem cmp_q (x y : Int) : Calls Try.prog 75 #[.int .i64 x, .int .i64 y] w fun e w' => e = .returned (.int .i64 (cmpI x y)) ∧ w' = w := by
  have t := fun (w : World) (x : Int) => isnan_q (w := w) x
  unfold cmpI
  by_cases h1 : x < y
  · rw [if_pos h1]
    go_enter Try.func75, Try.ntmps75
    go_wp2_with (go_at_call 52; refine (t _ _).mono ?_; rintro e w1 ⟨rfl, rfl⟩)
    go_ret
    exact ⟨rfl, rfl⟩
  · rw [if_neg h1]
    by_cases h2 : y < x
    · rw [if_pos h2]
      go_enter Try.func75, Try.ntmps75
      go_wp2_with (go_at_call 52; refine (t _ _).mono ?_; rintro e w1 ⟨rfl, rfl⟩)
      go_ret
      exact ⟨rfl, rfl⟩
    · rw [if_neg h2]
      go_enter Try.func75, Try.ntmps75
      go_wp2_with (go_at_call 52; refine (t _ _).mono ?_; rintro e w1 ⟨rfl, rfl⟩)
      go_ret
      exact ⟨rfl, rfl⟩
set_option maxHeartbeats 4000000 in
set_option maxRecDepth 100000 in
theorem or_q (b : Nat) (x y : Int) (h0 : w.cell? ⟨b, 0, none⟩ = some (.int .i64 x)) (h1 : w.cell? ⟨b, 1, none⟩ = some (.int .i64 y)) : Calls Try.prog 74 #[.slice (some ⟨b, 0, none⟩) 2 2] w fun e w' => e = .returned (.int .i64 (if x = 0 then y else x)) ∧ w' = w := by
  have H0 := Hid.mk h0
  have H1 := Hid.mk h1
  obtain ⟨z, Hz⟩ : ∃ z, Hid (z = if x = 0 then y else x) := ⟨_, ⟨rfl⟩⟩
  rw [← Hz.out]
  clear h0 h1
  go_enter Try.func74, Try.ntmps74
  go_wp2_with fail
  go_loopg [5, 8] 2 (fun gg _ s8 wr => ∃ k : Nat, k ≤ 2 ∧ 2 - k ≤ gg ∧ s8 = .int .i64 (k : Int) ∧ Hid (wr = w) ∧ Hid (1 ≤ k → x = 0) ∧ Hid (k = 2 → y = 0))
  case atStart => exact ⟨0, by omega, by omega, rfl, ⟨rfl⟩, ⟨fun h => by omega⟩, ⟨fun h => by omega⟩⟩
  case round =>
    obtain ⟨k, hk, hgg, rfl, HW, HX, HY⟩ := hrel
    have e := HW.out
    subst e
    have hc : k = 0 ∨ k = 1 ∨ k = 2 := by omega
    rcases hc with rfl | rfl | rfl
    · have c0 := H0.out
      by_cases hx : x = 0
      · subst hx
        go_wp2_with fail
        go_roundg 1
        case measure => omega
        case rel => exact ⟨1, by omega, by omega, rfl, ⟨rfl⟩, ⟨by simp⟩, ⟨by simp⟩⟩
      · go_wp2_with fail
        go_ret
        have e := Hz.out
        rw [if_neg hx] at e
        subst e
        exact ⟨rfl, rfl⟩
    · have c1 := H1.out
      have hx := HX.out (Nat.le_refl _)
      subst hx
      by_cases hy : y = 0
      · subst hy
        go_wp2_with fail
        go_roundg 0
        case measure => omega
        case rel => exact ⟨2, by omega, by omega, rfl, ⟨rfl⟩, ⟨by simp⟩, ⟨by simp⟩⟩
      · go_wp2_with fail
        go_ret
        have e := Hz.out
        simp only [if_true] at e
        subst e
        exact ⟨rfl, rfl⟩
    · have hx := HX.out (by omega)
      have hy := HY.out rfl
      subst hx hy
      go_wp2_with fail
      go_ret
      have e := Hz.out
      simp only [if_true] at e
      subst e
      exact ⟨rfl, rfl⟩
/-- What grew behind: draws, blocks. -/
structure Gw (w w' : World) : Prop where
  below : Below w.heap.size w w'
  drawn : w.drawn ≤ w'.drawn
theorem Gw.refl (w : World) : Gw w w := ⟨Below.refl _ _, Nat.le_refl _⟩
theorem Gw.trans {a b c : World} (h : Gw a b) (k : Gw b c) : Gw a c := ⟨h.below.trans (k.below.mono h.below.size), Nat.le_trans h.drawn k.drawn⟩
theorem Gw.alloc (w : World) (o : Obj) : Gw w (w.alloc o) := ⟨(Below.refl _ w).alloc (Nat.le_refl _) _, Nat.le_refl _⟩
theorem Gw.drew (w : World) : Gw w w.drew := ⟨⟨rfl, rfl, rfl, Nat.le_refl _, fun _ _ => rfl⟩, Nat.le_succ _⟩
theorem Gw.grow {w w' : World} (h : Gw w w') : ∃ q os, w' = Sort.grow (w.drewN q) os := by
  refine ⟨w'.drawn - w.drawn, w'.heap.extract w.heap.size w'.heap.size, ?_⟩
  obtain ⟨hb, hd⟩ := h
  obtain ⟨h1, h2, h3, h4, h5⟩ := hb
  cases w with | mk hp tp dr os ot =>
  cases w' with | mk hp' tp' dr' os' ot' =>
  simp only at h1 h2 h3 h4 h5 hd
  subst h1 h2 h3
  have e1 : dr + (dr' - dr) = dr' := by omega
  have e2 : hp ++ hp'.extract hp.size hp'.size = hp' := by
    apply Array.ext_getElem?
    intro i
    by_cases hi : i < hp.size
    · rw [Array.getElem?_append_left hi]; exact (h5 i hi).symm
    · rw [Array.getElem?_append_right (by omega), Array.getElem?_extract]
      by_cases h6 : i < hp'.size
      · rw [if_pos (by omega)]; congr 1; omega
      · rw [if_neg (by omega), Array.getElem?_eq_none (by omega)]
  simp only [Sort.grow, World.drewN, e1, e2]
/-- A share: its container's number, all bytes, the live ones. -/
abbrev Sh := Int × Int × Int
def sh3 (s : Sh) : List Value := [.int .i64 s.1, .int .i64 s.2.1, .int .i64 s.2.2]
def s0 : Sh := (0, 0, 0)
theorem sh3_one (s : Sh) : (sh3 s).length = 3 ∧ ∀ u ∈ sh3 s, u.oneCell' = true := ⟨rfl, fun u hu => by simp [sh3] at hu; rcases hu with rfl | rfl | rfl <;> rfl⟩
/-- Can a container have it? -/
def Rt (s : Sh) : Prop := 0 ≤ s.2.2 ∧ s.2.2 ≤ s.2.1 ∧ s.2.1 ≤ 32768
def shc (x y : Sh) : Int := if cmpI (x.2.2 * max y.2.1 1) (y.2.2 * max x.2.1 1) = 0 then cmpI x.1 y.1 else cmpI (x.2.2 * max y.2.1 1) (y.2.2 * max x.2.1 1)
def shl (x y : Sh) : Bool := decide (shc x y < 0)
theorem prod_fit {a b : Int} (h0 : 0 ≤ a) (h1 : a ≤ 32768) (k0 : 0 ≤ b) (k1 : b ≤ 32768) : 0 ≤ a * b ∧ a * b ≤ 1073741824 := by
  refine ⟨Int.mul_nonneg h0 k0, ?_⟩
  have := Int.mul_le_mul h1 k1 k0 (by decide : (0 : Int) ≤ 32768)
  omega
set_option maxHeartbeats 8000000 in
set_option maxRecDepth 100000 in
theorem compare_any (x y : Sh) (hx : Rt x) (hy : Rt y) : Calls Try.prog 73 #[.agg (sh3 x).toArray, .agg (sh3 y).toArray] w fun e w' => e = .returned (.int .i64 (shc x y)) ∧ Gw w w' := by
  obtain ⟨x1, x2, x3⟩ := x
  obtain ⟨y1, y2, y3⟩ := y
  obtain ⟨hx1, hx2, hx3⟩ := hx
  obtain ⟨hy1, hy2, hy3⟩ := hy
  simp only at hx1 hx2 hx3 hy1 hy2 hy3
  have p1 := prod_fit hx1 (show x3 ≤ 32768 by omega) (show 0 ≤ max y2 1 by omega) (show max y2 1 ≤ 32768 by omega)
  have p2 := prod_fit hy1 (show y3 ≤ 32768 by omega) (show 0 ≤ max x2 1 by omega) (show max x2 1 ≤ 32768 by omega)
  have A52a : ∀ (W : World), Calls Try.prog 75 #[.int .i64 (x3 * max y2 1), .int .i64 (y3 * max x2 1)] W fun e w' => e = .returned (.int .i64 (cmpI (x3 * max y2 1) (y3 * max x2 1))) ∧ w' = W := fun W => cmp_q _ _
  have A52b : ∀ (W : World), Calls Try.prog 75 #[.int .i64 x1, .int .i64 y1] W fun e w' => e = .returned (.int .i64 (cmpI x1 y1)) ∧ w' = W := fun W => cmp_q _ _
  simp only [shc, sh3, List.toArray]
  generalize cmpI (x3 * max y2 1) (y3 * max x2 1) = c1 at A52a ⊢
  generalize cmpI x1 y1 = c2 at A52b ⊢
  obtain ⟨z, Hz⟩ : ∃ z, Hid ((if c1 = 0 then c2 else c1) = z) := ⟨_, ⟨rfl⟩⟩
  rw [Hz.out]
  obtain ⟨my, Hmy⟩ : ∃ z, Hid (max y2 1 = z) := ⟨_, ⟨rfl⟩⟩
  obtain ⟨mx, Hmx⟩ : ∃ z, Hid (max x2 1 = z) := ⟨_, ⟨rfl⟩⟩
  rw [Hmy.out] at p1 A52a
  rw [Hmx.out] at p2 A52a
  obtain ⟨m1, Hm1⟩ : ∃ z, Hid (x3 * my = z) := ⟨_, ⟨rfl⟩⟩
  obtain ⟨m2, Hm2⟩ : ∃ z, Hid (y3 * mx = z) := ⟨_, ⟨rfl⟩⟩
  rw [Hm1.out] at p1 A52a
  rw [Hm2.out] at p2 A52a
  have q1 : IntKind.i64.wrap m1 = m1 := IntWalk.i64_in _ ⟨by omega, by omega⟩
  have q2 : IntKind.i64.wrap m2 = m2 := IntWalk.i64_in _ ⟨by omega, by omega⟩
  clear hx1 hx2 hx3 hy1 hy2 hy3 p1 p2
  go_enter Try.func73, Try.ntmps73
  go_upto_region 1 with fail
  obtain ⟨p, Hp⟩ : ∃ x, Hid (w.heap.size = x) := ⟨_, ⟨rfl⟩⟩
  obtain ⟨q, Hq⟩ : ∃ x, Hid (w.heap.size + 1 = x) := ⟨_, ⟨rfl⟩⟩
  obtain ⟨W, HW⟩ : ∃ x, Hid ((w.alloc (.cells #[.int .i64 x1, .int .i64 x2, .int .i64 x3] 27)).alloc (.cells #[.int .i64 y1, .int .i64 y2, .int .i64 y3] 27) = x) := ⟨_, ⟨rfl⟩⟩
  have HG0 : Hid (Gw w W) := ⟨by rw [← HW.out]; exact (Gw.alloc _ _).trans (Gw.alloc _ _)⟩
  have HP : Hid (W.heap[p]? = some (.cells #[.int .i64 x1, .int .i64 x2, .int .i64 x3] 27 (0, 0))) := ⟨by rw [← HW.out, ← Hp.out]; exact (((Below.refl _ (w.alloc (.cells #[.int .i64 x1, .int .i64 x2, .int .i64 x3] 27))).alloc (Nat.le_refl _) (.cells #[.int .i64 y1, .int .i64 y2, .int .i64 y3] 27)).block w.heap.size (by simp)).trans (heap_alloc_new w _)⟩
  have HQ : Hid (W.heap[q]? = some (.cells #[.int .i64 y1, .int .i64 y2, .int .i64 y3] 27 (0, 0))) := ⟨by rw [← HW.out, ← Hq.out]; have := heap_alloc_new (w.alloc (.cells #[.int .i64 x1, .int .i64 x2, .int .i64 x3] 27)) (.cells #[.int .i64 y1, .int .i64 y2, .int .i64 y3] 27); simpa using this⟩
  have HK : Hid (∀ w', Gw W w' → w'.cell? ⟨p, 0, none⟩ = some (.int .i64 x1) ∧ w'.cell? ⟨p, 1, none⟩ = some (.int .i64 x2) ∧ w'.cell? ⟨p, 2, none⟩ = some (.int .i64 x3) ∧ w'.cell? ⟨q, 0, none⟩ = some (.int .i64 y1) ∧ w'.cell? ⟨q, 1, none⟩ = some (.int .i64 y2) ∧ w'.cell? ⟨q, 2, none⟩ = some (.int .i64 y3)) := ⟨fun w' h => by
    have h1 := (h.below.block p (Array.getElem?_eq_some_iff.1 HP.out).1).trans HP.out
    have h2 := (h.below.block q (Array.getElem?_eq_some_iff.1 HQ.out).1).trans HQ.out
    refine ⟨?_, ?_, ?_, ?_, ?_, ?_⟩
    · rw [cell_of_row _ _ _ _ _ _ h1]; rfl
    · rw [cell_of_row _ _ _ _ _ _ h1]; rfl
    · rw [cell_of_row _ _ _ _ _ _ h1]; rfl
    · rw [cell_of_row _ _ _ _ _ _ h2]; rfl
    · rw [cell_of_row _ _ _ _ _ _ h2]; rfl
    · rw [cell_of_row _ _ _ _ _ _ h2]; rfl⟩
  rw [HW.out, Hq.out, Hp.out]
  refine wp_region_held_drew (S := fun w' => Gw W w') (by kernel_rfl) (Gw.drew W) (fun hS => ?_)
  refine wpAnyH_take (i := 0) (v := .pointer (some ⟨p, 2, none⟩)) rfl (by kernel_rfl) (by kernel_rfl) (by kernel_rfl) (fun _ _ _ h => h) (Or.inl ⟨by kernel_rfl, fun wx hx => by go_simp⟩) hS ?_
  refine wpAnyH_take (i := 1) (v := .int .i64 x3) rfl (by kernel_rfl) (by kernel_rfl) (by kernel_rfl) (fun _ _ _ h => h) (Or.inl ⟨by kernel_rfl, fun wx hx => by have hx0 := HK.out wx hx; obtain ⟨hx1, hx2, hx3, hx4, hx5, hx6⟩ := hx0; go_simp⟩) hS ?_
  refine wpAnyH_take (i := 2) (v := .pointer (some ⟨q, 1, none⟩)) rfl (by kernel_rfl) (by kernel_rfl) (by kernel_rfl) (fun _ _ _ h => h) (Or.inl ⟨by kernel_rfl, fun wx hx => by go_simp⟩) hS ?_
  refine wpAnyH_take (i := 3) (v := .int .i64 y2) rfl (by kernel_rfl) (by kernel_rfl) (by kernel_rfl) (fun _ _ _ h => h) (Or.inl ⟨by kernel_rfl, fun wx hx => by have hx0 := HK.out wx hx; obtain ⟨hx1, hx2, hx3, hx4, hx5, hx6⟩ := hx0; go_simp⟩) hS ?_
  refine wpAnyH_take (i := 4) (v := .int .i64 my) rfl (by kernel_rfl) (by kernel_rfl) (by kernel_rfl) (fun _ _ _ h => h) (Or.inl ⟨by kernel_rfl, fun wx hx => by have := Hmy.out; go_simp⟩) hS ?_
  refine wpAnyH_take (i := 5) (v := .int .i64 m1) rfl (by kernel_rfl) (by kernel_rfl) (by kernel_rfl) (fun _ _ _ h => h) (Or.inl ⟨by kernel_rfl, fun wx hx => by have := Hm1.out; go_simp⟩) hS ?_
  refine wpAnyH_take (i := 6) (v := .pointer (some ⟨q, 2, none⟩)) rfl (by kernel_rfl) (by kernel_rfl) (by kernel_rfl) (fun _ _ _ h => h) (Or.inl ⟨by kernel_rfl, fun wx hx => by go_simp⟩) hS ?_
  refine wpAnyH_take (i := 7) (v := .int .i64 y3) rfl (by kernel_rfl) (by kernel_rfl) (by kernel_rfl) (fun _ _ _ h => h) (Or.inl ⟨by kernel_rfl, fun wx hx => by have hx0 := HK.out wx hx; obtain ⟨hx1, hx2, hx3, hx4, hx5, hx6⟩ := hx0; go_simp⟩) hS ?_
  refine wpAnyH_take (i := 8) (v := .pointer (some ⟨p, 1, none⟩)) rfl (by kernel_rfl) (by kernel_rfl) (by kernel_rfl) (fun _ _ _ h => h) (Or.inl ⟨by kernel_rfl, fun wx hx => by go_simp⟩) hS ?_
  refine wpAnyH_take (i := 9) (v := .int .i64 x2) rfl (by kernel_rfl) (by kernel_rfl) (by kernel_rfl) (fun _ _ _ h => h) (Or.inl ⟨by kernel_rfl, fun wx hx => by have hx0 := HK.out wx hx; obtain ⟨hx1, hx2, hx3, hx4, hx5, hx6⟩ := hx0; go_simp⟩) hS ?_
  refine wpAnyH_take (i := 10) (v := .int .i64 mx) rfl (by kernel_rfl) (by kernel_rfl) (by kernel_rfl) (fun _ _ _ h => h) (Or.inl ⟨by kernel_rfl, fun wx hx => by have := Hmx.out; go_simp⟩) hS ?_
  refine wpAnyH_take (i := 11) (v := .int .i64 m2) rfl (by kernel_rfl) (by kernel_rfl) (by kernel_rfl) (fun _ _ _ h => h) (Or.inl ⟨by kernel_rfl, fun wx hx => by have := Hm2.out; go_simp⟩) hS ?_
  refine wpAnyH_take (i := 13) (v := .pointer (some ⟨p, 0, none⟩)) rfl (by kernel_rfl) (by kernel_rfl) (by kernel_rfl) (fun _ _ _ h => h) (Or.inl ⟨by kernel_rfl, fun wx hx => by go_simp⟩) hS ?_
  refine wpAnyH_take (i := 14) (v := .int .i64 x1) rfl (by kernel_rfl) (by kernel_rfl) (by kernel_rfl) (fun _ _ _ h => h) (Or.inl ⟨by kernel_rfl, fun wx hx => by have hx0 := HK.out wx hx; obtain ⟨hx1, hx2, hx3, hx4, hx5, hx6⟩ := hx0; go_simp⟩) hS ?_
  refine wpAnyH_take (i := 15) (v := .pointer (some ⟨q, 0, none⟩)) rfl (by kernel_rfl) (by kernel_rfl) (by kernel_rfl) (fun _ _ _ h => h) (Or.inl ⟨by kernel_rfl, fun wx hx => by go_simp⟩) hS ?_
  refine wpAnyH_take (i := 16) (v := .int .i64 y1) rfl (by kernel_rfl) (by kernel_rfl) (by kernel_rfl) (fun _ _ _ h => h) (Or.inl ⟨by kernel_rfl, fun wx hx => by have hx0 := HK.out wx hx; obtain ⟨hx1, hx2, hx3, hx4, hx5, hx6⟩ := hx0; go_simp⟩) hS ?_
  refine wpAnyH_ready (rs := [12]) (by kernel_rfl) (by simp) (AllReadyH.cons rfl (fun Kc hK => ?_) AllReadyH.nil)
  go_simp
  refine (A52a _).mono ?_
  rintro e w5 ⟨rfl, rfl⟩
  refine hK.out _ _ hS (fun hS => ?_)
  clear hK
  refine wpAnyH_ready (rs := [17]) (by kernel_rfl) (by simp) (AllReadyH.cons rfl (fun Kc hK => ?_) AllReadyH.nil)
  go_simp
  refine (A52b _).mono ?_
  rintro e w6 ⟨rfl, rfl⟩
  refine hK.out _ _ hS (fun hS => ?_)
  clear hK
  refine wpAnyH_ready (rs := [18]) (by kernel_rfl) (by simp) (AllReadyH.cons rfl (fun Kc hK => ?_) AllReadyH.nil)
  go_simp
  obtain ⟨V, HV⟩ : ∃ x, Hid ((W.alloc (.cells #[.int .i64 c1, .int .i64 c2] 3)).drew = x) := ⟨_, ⟨rfl⟩⟩
  rw [HV.out]
  have HGV : Hid (Gw W V) := ⟨by rw [← HV.out]; exact (Gw.alloc _ _).trans (Gw.drew _)⟩
  have HVr : Hid (V.heap[W.heap.size]? = some (.cells #[.int .i64 c1, .int .i64 c2] 3 (0, 0))) := ⟨by rw [← HV.out]; exact heap_alloc_new W _⟩
  have A51 := or_q (w := V) W.heap.size c1 c2 (by rw [cell_of_row _ _ _ _ _ _ HVr.out]; rfl) (by rw [cell_of_row _ _ _ _ _ _ HVr.out]; rfl)
  rw [Hz.out] at A51
  refine hK.out _ _ HGV.out (fun hS => ?_)
  clear hK
  refine wpAnyH_ready (rs := [19]) (by kernel_rfl) (by simp) (AllReadyH.cons rfl (fun Kc hK => ?_) AllReadyH.nil)
  go_simp
  refine A51.mono ?_
  rintro e w7 ⟨rfl, rfl⟩
  refine hK.out _ _ hS (fun hS => ?_)
  clear hK
  refine wpAnyH_take (i := 20) (v := .int .i64 z) rfl (by kernel_rfl) (by kernel_rfl) (by kernel_rfl) (fun _ _ _ h => h) (Or.inl ⟨by kernel_rfl, fun wx hx => by go_simp⟩) hS ?_
  refine wpAnyH_done (by kernel_rfl) ?_ _
  go_simp
  go_wp2_with fail
  go_ret
  exact ⟨rfl, HG0.out.trans HGV.out⟩
end
end Go.Proofs.Ytjcojpddjhjhbaa
