/- What lies between points: apart, products over points. -/
import Derived.Test.YtbdmbhpmbklaiaaFd4
namespace Go.Proofs.Ytbdmbhpmbklaiaa
open Go.RowKit Gf

/-- A slice of elements, read. -/
def RdG (w : World) (v : Value) (l : List G) : Prop := RdY w v (l.map gi)
theorem RdG.shape {w : World} {v : Value} {l : List G} (h : RdG w v l) : ∃ a cap, v = .slice a l.length cap ∧ l.length ≤ cap ∧ cap ≤ maxLen ∧ (a = none → cap = 0) := by
  obtain ⟨a, cap, h1, h2, h3, h4⟩ := RdY.shape h
  rw [List.length_map] at h1 h2
  exact ⟨a, cap, h1, h2, h3, h4⟩
theorem RdG.at {w : World} {v : Value} {l : List G} (h : RdG w v l) {i : Nat} (hi : i < l.length) : ∃ b off cap, v = .slice (some ⟨b, off, none⟩) l.length cap ∧ l.length ≤ cap ∧ ∀ j, j < l.length → w.cell? ⟨b, off + j, none⟩ = some (.int .u8 (gi (l.getD j 0))) := by
  obtain ⟨b, off, cap, h1, h2, h3⟩ := RdY.at h (i := i) (by rw [List.length_map]; exact hi)
  rw [List.length_map] at h1 h2
  refine ⟨b, off, cap, h1, h2, fun j hj => ?_⟩
  have := h3 j (by rw [List.length_map]; exact hj)
  rw [this]
  simp [List.getD, List.getElem?_eq_getElem hj]
theorem RdG.far {w w' : World} {v : Value} {l : List G} {X : List Nat} (h : RdG w v l) (hc : Chg X w w') (hx : 0 < l.length → ∀ k ∈ ob v, k ∉ X) : RdG w' v l :=
  Rd.far h hc (fun h0 k hk => hx (by simpa [yv] using h0) k (mem_ob.2 hk))
theorem RdG.lt {w : World} {v : Value} {l : List G} (h : RdG w v l) (h0 : 0 < l.length) : ∀ k ∈ ob v, k < w.heap.size := by
  intro k hk
  obtain ⟨b, off, cap, rfl, _, hc⟩ := h.at h0
  have e := mem_ob.1 hk
  simp [Value.ownBlock] at e
  subst e
  exact World.block_lt_of_cell? _ _ (hc 0 h0)
theorem below_drewN {B : Nat} {w w' : World} (h : Below B w w') (n : Nat) : Below B w (w'.drewN n) := ⟨h.os, h.tape, h.output, h.size, h.block⟩
section
variable {w : World}
theorem apart30 (x : G) (sa : Option Addr) (sn sc : Nat) (i : Nat) : Calls Try.prog 52 #[.int .u8 (gi x), .slice sa sn sc, .int .i64 i] w fun e w' => e = .returned (.func (.func 55) #[] #[.pointer (some ⟨w.heap.size + 2, 0, none⟩), .pointer (some ⟨w.heap.size, 0, none⟩), .pointer (some ⟨w.heap.size + 1, 0, none⟩)]) ∧ One w' w.heap.size (.int .u8 (gi x)) 5 ∧ One w' (w.heap.size + 1) (.slice sa sn sc) 33 ∧ One w' (w.heap.size + 2) (.int .i64 i) 3 ∧ Below w.heap.size w w' := by
  obtain ⟨W, HW⟩ : ∃ x', Hid (((w.alloc (.cells #[.int .u8 (gi x)] 5)).alloc (.cells #[.slice sa sn sc] 33)).alloc (.cells #[.int .i64 i] 3) = x') := ⟨_, ⟨rfl⟩⟩
  have HB : Hid (Below w.heap.size w W) := ⟨by rw [← HW.out]; exact (((Below.refl _ w).alloc (Nat.le_refl _) _).alloc (by simp) _).alloc (by simp; omega) _⟩
  have H1 : Hid (One W w.heap.size (.int .u8 (gi x)) 5) := ⟨by
    rw [← HW.out]
    exact ((((Below.refl _ (w.alloc (.cells #[.int .u8 (gi x)] 5))).alloc (Nat.le_refl _) (.cells #[.slice sa sn sc] 33)).alloc (by simp) (.cells #[.int .i64 i] 3)).block _ (by simp)).trans (heap_alloc_new w _)⟩
  have H2 : Hid (One W (w.heap.size + 1) (.slice sa sn sc) 33) := ⟨by
    rw [← HW.out]
    have := heap_alloc_new (w.alloc (.cells #[.int .u8 (gi x)] 5)) (.cells #[.slice sa sn sc] 33)
    rw [World.size_alloc] at this
    exact (((Below.refl _ ((w.alloc (.cells #[.int .u8 (gi x)] 5)).alloc (.cells #[.slice sa sn sc] 33))).alloc (Nat.le_refl _) (.cells #[.int .i64 i] 3)).block _ (by simp)).trans this⟩
  have H3 : Hid (One W (w.heap.size + 2) (.int .i64 i) 3) := ⟨by
    rw [← HW.out]
    have := heap_alloc_new ((w.alloc (.cells #[.int .u8 (gi x)] 5)).alloc (.cells #[.slice sa sn sc] 33)) (.cells #[.int .i64 i] 3)
    simp only [World.size_alloc] at this
    exact this⟩
  go_enter Try.func52, Try.ntmps52
  go_wp2_with fail
  rw [HW.out]
  go_ret
  exact ⟨rfl, H1.out, H2.out, H3.out, HB.out⟩
set_option maxHeartbeats 800000 in
set_option maxRecDepth 100000 in
theorem apart34 {bl bx bp : Nat} (i k : Nat) (x : G) (v : Value) (l : List G) (hk : k < l.length) (hv : RdG w v l) (h1 : One w bl (.int .i64 i) 3) (h2 : One w bx (.int .u8 (gi x)) 5) (h3 : One w bp v 33) :
    Calls Try.prog 55 #[.int .i64 k, .pointer (some ⟨bl, 0, none⟩), .pointer (some ⟨bx, 0, none⟩), .pointer (some ⟨bp, 0, none⟩)] w fun e w' => e = .returned (.int .u8 (gi (ap l i x k))) ∧ Below w.heap.size w w' := by
  obtain ⟨b, off, cap, rfl, hcap, hc⟩ := hv.at hk
  have c := hc k hk
  have c1 := cell_of_one h1
  have c2 := cell_of_one h2
  have c3 := cell_of_one h3
  have hxor := gi_xor x (l.getD k 0)
  clear h1 h2 h3 hc hv
  by_cases hki : k = i
  · have hb : ((k : Int) == (i : Int)) = true := by simp [hki]
    have HA : Hid (ap l i x k = 1) := ⟨by rw [ap, if_pos hki]⟩
    rw [HA.out]
    show Calls Try.prog 55 #[.int .i64 k, .pointer (some ⟨bl, 0, none⟩), .pointer (some ⟨bx, 0, none⟩), .pointer (some ⟨bp, 0, none⟩)] w fun e w' => e = .returned (.int .u8 1) ∧ Below w.heap.size w w'
    clear hki
    go_enter Try.func55, Try.ntmps55
    go_wp2_with fail
    go_ret
    exact ⟨rfl, Below.refl _ _⟩
  · have hb : ((k : Int) == (i : Int)) = false := by simp; omega
    have HA : Hid (ap l i x k = x + l.getD k 0) := ⟨by rw [ap, if_neg hki]⟩
    rw [HA.out]
    have hkz : (k : Int) < (l.length : Int) := by omega
    generalize l.length = n at hkz hcap hk c3
    generalize gi (x + l.getD k 0) = z at hxor ⊢
    generalize gi (l.getD k 0) = y at c hxor
    generalize gi x = u at c2 hxor
    clear hki HA
    go_enter Try.func55, Try.ntmps55
    go_wp2_with fail
    go_quiet (fail)
    go_wp2_with fail
    go_ret
    exact ⟨rfl, below_drewN (Below.refl _ _) nq⟩
set_option maxHeartbeats 1600000 in
set_option maxRecDepth 100000 in
theorem prod_apart {bl bx bp : Nat} (i n : Nat) (x : G) (v : Value) (l : List G) (hn : l.length = n) (hb : n ≤ 1000000) (hv : RdG w v l) (h1 : One w bl (.int .i64 i) 3) (h2 : One w bx (.int .u8 (gi x)) 5) (h3 : One w bp v 33) :
    Calls Try.prog 51 #[.int .i64 n, .func (.func 55) #[] #[.pointer (some ⟨bl, 0, none⟩), .pointer (some ⟨bx, 0, none⟩), .pointer (some ⟨bp, 0, none⟩)]] w fun e w' => e = .returned (.int .u8 (gi (prd (ap l i x) n))) ∧ Below w.heap.size w w' := by
  obtain ⟨r, Hr⟩ : ∃ r, Hid (gi (prd (ap l i x) n) = r) := ⟨_, ⟨rfl⟩⟩
  rw [Hr.out]
  have HT : Hid (∀ k W, k < n → Below w.heap.size w W → Calls Try.prog 55 #[.int .i64 k, .pointer (some ⟨bl, 0, none⟩), .pointer (some ⟨bx, 0, none⟩), .pointer (some ⟨bp, 0, none⟩)] W fun e w' => e = .returned (.int .u8 (gi (ap l i x k))) ∧ Below W.heap.size W w') :=
    ⟨fun k W hk hB => apart34 i k x v l (by omega) (hv.far (Chg.ofBelow (X := []) hB) (by simp)) (h1.far (Chg.ofBelow (X := []) hB) (by simp)) (h2.far (Chg.ofBelow (X := []) hB) (by simp)) (h3.far (Chg.ofBelow (X := []) hB) (by simp))⟩
  clear h1 h2 h3 hv hn
  go_enter Try.func51, Try.ntmps51
  go_wp2_with fail
  go_loopg [5, 8] n (fun gg s5 s8 wr => ∃ k : Nat, k ≤ n ∧ n - k ≤ gg ∧ s8 = .int .i64 (k : Int) ∧ s5 = .int .u8 (gi (prd (ap l i x) k)) ∧ Hid (Below w.heap.size w wr))
  case atStart => exact ⟨0, Nat.zero_le _, by omega, rfl, rfl, ⟨Below.refl _ _⟩⟩
  case round =>
    obtain ⟨k, hk, hgg, rfl, rfl, HB⟩ := hrel
    rename World => wo
    by_cases hlt : k < n
    · have hltz : (k : Int) < (n : Int) := by omega
      have t1 := HT.out k wo hlt HB.out
      have t2 := fun w => mul13 (prd (ap l i x) k) (ap l i x k) w
      have HP : Hid (prd (ap l i x) (k + 1) = prd (ap l i x) k * ap l i x k) := ⟨rfl⟩
      rw [← HP.out] at t2
      obtain ⟨y, Hy⟩ : ∃ r, Hid (gi (prd (ap l i x) k) = r) := ⟨_, ⟨rfl⟩⟩
      obtain ⟨y2, Hy2⟩ : ∃ r, Hid (gi (ap l i x k) = r) := ⟨_, ⟨rfl⟩⟩
      obtain ⟨z, Hz⟩ : ∃ r, Hid (gi (prd (ap l i x) (k + 1)) = r) := ⟨_, ⟨rfl⟩⟩
      rw [Hy.out, Hy2.out, Hz.out] at t2
      rw [Hy2.out] at t1
      rw [Hy.out]
      go_wp2_with fail
      refine t1.mono ?_
      rintro e w2 ⟨rfl, hb2⟩
      have HB2 : Hid (Below w.heap.size w w2) := ⟨HB.out.trans (hb2.mono HB.out.size)⟩
      clear t1 hb2
      go_wp2_with fail
      refine (t2 _).mono ?_
      rintro e w3 ⟨rfl, rfl⟩
      clear t2
      go_wp2_with fail
      go_roundg (n - (k + 1))
      case measure => omega
      case rel => exact ⟨k + 1, by omega, by omega, by go_num, by rw [Hz.out], HB2⟩
    · obtain rfl : n = k := by omega
      rw [Hr.out]
      go_wp2_with fail
      go_ret
      exact ⟨rfl, HB.out⟩
end
end Go.Proofs.Ytbdmbhpmbklaiaa
