/- Sums of products: Dot. -/
import Derived.Test.YtkleaaopbhbpmaaM6
import Derived.Lib.MinMax
namespace Go.Proofs.Ytkleaaopbhbpmaa
open Go.RowKit Gf

theorem mul13q (a b : G) (w : World) : Calls Try.prog 13 #[.int .u8 (gi a), .int .u8 (gi b)] w fun e w' => e = .returned (.int .u8 (gi (a * b))) ∧ w' = w :=
  (mul13 a b w).mono fun _ _ h => ⟨h.1, h.2.symm⟩
theorem rmul10q (a b : G) (w : World) : Calls Try.prog 10 #[.int .u8 (gi a), .int .u8 (gi b)] w fun e w' => e = .returned (.int .u8 (gi (a * b))) ∧ w' = w :=
  (rmul10 a b w).mono fun _ _ h => ⟨h.1, h.2.symm⟩
theorem rinv11q (a : G) (w : World) : Calls Try.prog 11 #[.int .u8 (gi a)] w fun e w' => e = .returned (.int .u8 (gi (inv a))) ∧ w' = w :=
  (rinv11 a w).mono fun _ _ h => ⟨h.1, h.2.symm⟩
def dtf (a b : List G) (i : Nat) : G := a.getD i 0 * b.getD i 0
section
variable {w : World}
set_option maxHeartbeats 800000 in
set_option maxRecDepth 100000 in
theorem dot29 {ba bb : Nat} (k : Nat) (u v : Value) (a b : List G) (hka : k < a.length) (hkb : k < b.length) (hu : RdG w u a) (hv : RdG w v b) (h1 : One w ba u 33) (h2 : One w bb v 33) :
    Calls Try.prog 29 #[.int .i64 k, .pointer (some ⟨ba, 0, none⟩), .pointer (some ⟨bb, 0, none⟩)] w fun e w' => e = .returned (.int .u8 (gi (dtf a b k))) ∧ Below w.heap.size w w' := by
  obtain ⟨g1, o1, p1, rfl, hp1, hc1⟩ := hu.at hka
  obtain ⟨g2, o2, p2, rfl, hp2, hc2⟩ := hv.at hkb
  have c1 := hc1 k hka
  have c2 := hc2 k hkb
  have d1 := cell_of_one h1
  have d2 := cell_of_one h2
  have t := fun w => mul13q (a.getD k 0) (b.getD k 0) w
  obtain ⟨r, Hr⟩ : ∃ r, Hid (gi (dtf a b k) = r) := ⟨_, ⟨rfl⟩⟩
  rw [Hr.out]
  have HR : Hid (gi (a.getD k 0 * b.getD k 0) = r) := ⟨Hr.out⟩
  rw [HR.out] at t
  have k1 : (k : Int) < (a.length : Int) := by omega
  have k2 : (k : Int) < (b.length : Int) := by omega
  generalize gi (a.getD k 0) = y1 at c1 t
  generalize gi (b.getD k 0) = y2 at c2 t
  clear Hr HR hc1 hc2 h1 h2 hu hv
  generalize a.length = n1 at *
  generalize b.length = n2 at *
  go_enter Try.func29, Try.ntmps29
  go_wp2_with fail
  go_quiet ((go_at_call 13; exact Calls.quiet_of_same (t _)))
  go_wp2_with fail
  go_ret
  exact ⟨rfl, below_drewN (Below.refl _ _) nq⟩
set_option maxHeartbeats 1600000 in
set_option maxRecDepth 100000 in
theorem sum_dot {ba bb : Nat} (n : Nat) (u v : Value) (a b : List G) (hna : n ≤ a.length) (hnb : n ≤ b.length) (hb : n ≤ 1000000000000000) (hu : RdG w u a) (hv : RdG w v b) (h1 : One w ba u 33) (h2 : One w bb v 33) :
    Calls Try.prog 28 #[.int .i64 n, .func (.func 29) #[] #[.pointer (some ⟨ba, 0, none⟩), .pointer (some ⟨bb, 0, none⟩)]] w fun e w' => e = .returned (.int .u8 (gi (dt (dtf a b) n))) ∧ Below w.heap.size w w' := by
  obtain ⟨r, Hr⟩ : ∃ r, Hid (gi (dt (dtf a b) n) = r) := ⟨_, ⟨rfl⟩⟩
  rw [Hr.out]
  have HT : Hid (∀ k W, k < n → Below w.heap.size w W → Calls Try.prog 29 #[.int .i64 k, .pointer (some ⟨ba, 0, none⟩), .pointer (some ⟨bb, 0, none⟩)] W fun e w' => e = .returned (.int .u8 (gi (dtf a b k))) ∧ Below W.heap.size W w') :=
    ⟨fun k W hk hB => dot29 k u v a b (by omega) (by omega) (hu.far (Chg.ofBelow (X := []) hB) (by simp)) (hv.far (Chg.ofBelow (X := []) hB) (by simp)) (h1.far (Chg.ofBelow (X := []) hB) (by simp)) (h2.far (Chg.ofBelow (X := []) hB) (by simp))⟩
  clear h1 h2 hu hv hna hnb
  go_enter Try.func28, Try.ntmps28
  go_wp2_with fail
  go_loopg [5, 8] n (fun gg s5 s8 wr => ∃ k : Nat, k ≤ n ∧ n - k ≤ gg ∧ s8 = .int .i64 (k : Int) ∧ s5 = .int .u8 (gi (dt (dtf a b) k)) ∧ Hid (Below w.heap.size w wr))
  case atStart => exact ⟨0, Nat.zero_le _, by omega, rfl, rfl, ⟨Below.refl _ _⟩⟩
  case round =>
    obtain ⟨k, hk, hgg, rfl, rfl, HB⟩ := hrel
    rename World => wo
    by_cases hlt : k < n
    · have hltz : (k : Int) < (n : Int) := by omega
      have t1 := HT.out k wo hlt HB.out
      have t2 := gi_xor (dt (dtf a b) k) (dtf a b k)
      have HP : Hid (dt (dtf a b) (k + 1) = dt (dtf a b) k + dtf a b k) := ⟨rfl⟩
      rw [← HP.out] at t2
      obtain ⟨y, Hy⟩ : ∃ r, Hid (gi (dt (dtf a b) k) = r) := ⟨_, ⟨rfl⟩⟩
      obtain ⟨y2, Hy2⟩ : ∃ r, Hid (gi (dtf a b k) = r) := ⟨_, ⟨rfl⟩⟩
      obtain ⟨z, Hz⟩ : ∃ r, Hid (gi (dt (dtf a b) (k + 1)) = r) := ⟨_, ⟨rfl⟩⟩
      rw [Hy.out, Hy2.out, Hz.out] at t2
      rw [Hy2.out] at t1
      rw [Hy.out]
      go_wp2_with fail
      refine t1.mono ?_
      rintro e w2 ⟨rfl, hb2⟩
      have HB2 : Hid (Below w.heap.size w w2) := ⟨HB.out.trans (hb2.mono HB.out.size)⟩
      clear t1 hb2
      go_wp2_with fail
      go_roundg (n - (k + 1))
      case measure => omega
      case rel => exact ⟨k + 1, by omega, by omega, by go_num, by rw [Hz.out], HB2⟩
    · obtain rfl : n = k := by omega
      rw [Hr.out]
      go_wp2_with fail
      go_ret
      exact ⟨rfl, HB.out⟩
set_option maxHeartbeats 800000 in
set_option maxRecDepth 100000 in
theorem dot19 (u v : Value) (a b : List G) (ha : a.length ≤ 1000000000000000) (hb : b.length ≤ 1000000000000000) (hu : RdG w u a) (hv : RdG w v b) :
    Calls Try.prog 19 #[u, v] w fun e w' => e = .returned (.int .u8 (gi (dot a b))) ∧ Below w.heap.size w w' := by
  obtain ⟨u1, u2, rfl, hu1, _⟩ := hu.shape
  obtain ⟨v1, v2, rfl, hv1, _⟩ := hv.shape
  obtain ⟨W, HW⟩ : ∃ x', Hid ((w.alloc (.cells #[.slice u1 a.length u2] 33)).alloc (.cells #[.slice v1 b.length v2] 33) = x') := ⟨_, ⟨rfl⟩⟩
  have HB : Hid (Below w.heap.size w W) := ⟨by rw [← HW.out]; exact ((Below.refl _ w).alloc (Nat.le_refl _) _).alloc (by simp) _⟩
  have h1 : One W w.heap.size (.slice u1 a.length u2) 33 := by
    rw [← HW.out]
    exact (((Below.refl _ (w.alloc (.cells #[.slice u1 a.length u2] 33))).alloc (Nat.le_refl _) (.cells #[.slice v1 b.length v2] 33)).block _ (by simp)).trans (heap_alloc_new w _)
  have h2 : One W (w.heap.size + 1) (.slice v1 b.length v2) 33 := by
    rw [← HW.out]
    have := heap_alloc_new (w.alloc (.cells #[.slice u1 a.length u2] 33)) (.cells #[.slice v1 b.length v2] 33)
    simp only [World.size_alloc] at this
    exact this
  have t := sum_dot (w := W) (min a.length b.length) _ _ a b (Nat.min_le_left _ _) (Nat.min_le_right _ _) (by omega) (hu.far (Chg.ofBelow (X := []) HB.out) (by simp)) (hv.far (Chg.ofBelow (X := []) HB.out) (by simp)) h1 h2
  obtain ⟨r, Hr⟩ : ∃ r, Hid (gi (dot a b) = r) := ⟨_, ⟨rfl⟩⟩
  rw [Hr.out]
  have HR : Hid (gi (dt (dtf a b) (min a.length b.length)) = r) := ⟨Hr.out⟩
  rw [HR.out] at t
  have hmin : min (a.length : Int) (b.length : Int) = ((min a.length b.length : Nat) : Int) := by omega
  generalize min a.length b.length = m at hmin t
  clear h1 h2 hu hv Hr HR
  generalize a.length = n1 at *
  generalize b.length = n2 at *
  go_enter Try.func19, Try.ntmps19
  go_wp2_with fail
  rw [HW.out]
  refine t.mono ?_
  rintro e w2 ⟨rfl, hb2⟩
  have HB2 : Hid (Below w.heap.size w w2) := ⟨HB.out.trans (hb2.mono HB.out.size)⟩
  clear t hb2
  go_wp2_with fail
  go_ret
  exact ⟨rfl, HB2.out⟩
end
end Go.Proofs.Ytkleaaopbhbpmaa
