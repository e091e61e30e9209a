/- bits.Len as it is proved in the library, laid at this program; Pow, Inv, Div. -/
import Derived.Shelf.Small.Bits
import Derived.Test.YtbdmbhpmbklaiaaFd3
namespace Go.Proofs.Ytbdmbhpmbklaiaa
open Go.Shelf Go.RowKit Gf
def lenA_ren : Go.Shelf.Ren := ⟨fun | 125 => 58 | 128 => 60 | 129 => 61 | n => n, fun | 46 => 76 | 51 => 80 | 53 => 82 | n => n, fun n => n⟩
theorem lenA : Go.Proofs.Lays.n125 Try.prog lenA_ren := {
  mixed := by kernel_rfl
  f125 := Try.func58.trans (congrArg some (by kernel_rfl))
  f128 := Try.func60.trans (congrArg some (by kernel_rfl))
  f129 := Try.func61.trans (congrArg some (by kernel_rfl))
  t3 := Try.underlying3
  a3 := Try.isAgg3
  z3 := Try.sizeOf3
  v3 := Try.zeroValue3
  t4 := Try.underlying4
  a4 := Try.isAgg4
  z4 := Try.sizeOf4
  v4 := Try.zeroValue4
  t5 := Try.underlying5
  a5 := Try.isAgg5
  z5 := Try.sizeOf5
  v5 := Try.zeroValue5
  t9 := Try.underlying9
  a9 := Try.isAgg9
  z9 := Try.sizeOf9
  v9 := Try.zeroValue9
  t46 := Try.underlying76
  a46 := Try.isAgg76
  z46 := Try.sizeOf76
  v46 := Try.zeroValue76
  t51 := Try.underlying80
  a51 := Try.isAgg80
  z51 := Try.sizeOf80
  v51 := Try.zeroValue80
  t53 := Try.underlying82
  a53 := Try.isAgg82
  z53 := Try.sizeOf82
  v53 := Try.zeroValue82 }
theorem bitLen_up : ∀ (k x : Nat), x < 2 ^ k → k ≤ 64 → x < 2 ^ (Go.Lib.bitLen x) ∧ Go.Lib.bitLen x ≤ k
  | 0, x, h, _ => by
    obtain rfl : x = 0 := by simpa using h
    exact ⟨Nat.two_pow_pos _, by decide⟩
  | k + 1, x, h, hk => by
    by_cases h0 : x = 0
    · subst h0
      exact ⟨Nat.two_pow_pos _, Nat.le_trans (by decide : Go.Lib.bitLen 0 ≤ 0) (Nat.zero_le _)⟩
    · have h64 : x < 2 ^ 64 := Nat.lt_of_lt_of_le h (Nat.pow_le_pow_right (by decide) hk)
      have e := Go.Lib.bitLen_half x h0 h64
      have ih := bitLen_up k (x / 2) (by rw [Nat.pow_succ] at h; omega) (by omega)
      rw [e, Nat.add_comm, Nat.pow_succ]
      exact ⟨by have := ih.1; omega, by have := ih.2; omega⟩
section
variable {w : World}
theorem len25 (x : Nat) (hx : x < 9223372036854775808) : Calls Try.prog 58 #[.int .u64 x] w fun e w' => ∃ k : Nat, e = .returned (.int .i64 k) ∧ x < 2 ^ k ∧ k ≤ 64 ∧ w = w' := by
  have t := Any.bits_Len lenA x w (by omega) (by omega)
  refine Calls.mono t ?_
  rintro e w' ⟨rfl, rfl⟩
  have h := bitLen_up 64 x (by omega) (Nat.le_refl _)
  exact ⟨_, rfl, h.1, h.2, rfl⟩
set_option maxHeartbeats 800000 in
set_option maxRecDepth 100000 in
theorem pow15 (a : G) (m : Int) (hm : m < 9223372036854775808) : Calls Try.prog 57 #[.int .u8 (gi a), .int .i64 m] w fun e w' => e = .returned (.int .u8 (gi (gpw a m.toNat))) ∧ Below w.heap.size w w' := by
  obtain ⟨n, Hn⟩ : ∃ n, Hid (m.toNat = n) := ⟨_, ⟨rfl⟩⟩
  have hn : n < 9223372036854775808 := by have := Hn.out; omega
  have hmx : max m 0 = (n : Int) := by have := Hn.out; omega
  rw [Hn.out]
  obtain ⟨W, HW⟩ : ∃ x, Hid ((w.alloc (.cells #[.int .i64 n] 3)).alloc (.cells #[.int .u8 (gi a)] 5) = x) := ⟨_, ⟨rfl⟩⟩
  have HB : Hid (Below w.heap.size w W) := ⟨by rw [← HW.out]; exact ((Below.refl _ w).alloc (Nat.le_refl _) _).alloc (by simp) _⟩
  have ho1 : One W w.heap.size (.int .i64 n) 3 := by
    rw [← HW.out]
    exact (((Below.refl _ (w.alloc (.cells #[.int .i64 n] 3))).alloc (Nat.le_refl _) (.cells #[.int .u8 (gi a)] 5)).block _ (by simp)).trans (heap_alloc_new w _)
  have ho2 : One W (w.heap.size + 1) (.int .u8 (gi a)) 5 := by
    rw [← HW.out]
    have := heap_alloc_new (w.alloc (.cells #[.int .i64 n] 3)) (.cells #[.int .u8 (gi a)] 5)
    simpa [One] using this
  have t1 := len25 (w := W) n hn
  have t2 := fun k hk => prod_pow (w := W) n k a ho1 ho2 hn hk (by omega)
  clear ho1 ho2
  obtain ⟨x, Hx⟩ : ∃ r, Hid (gi a = r) := ⟨_, ⟨rfl⟩⟩
  obtain ⟨r, Hr⟩ : ∃ r, Hid (gi (gpw a n) = r) := ⟨_, ⟨rfl⟩⟩
  have HP : Hid (∀ k, n < 2 ^ k → gi (prd (pf a n) k) = r) := ⟨fun k hk => by rw [prd_full a hk, Hr.out]⟩
  rw [Hr.out]
  go_enter Try.func57, Try.ntmps57
  go_wp2_with fail
  rw [HW.out]
  refine t1.mono ?_
  rintro e w1 ⟨k, rfl, hk1, hk2, rfl⟩
  have t3 := t2 k hk2
  rw [HP.out k hk1] at t3
  clear t1 t2 hk1 hk2
  go_wp2_with fail
  refine t3.mono ?_
  rintro e w2 ⟨rfl, hc⟩
  have HC := Hid.mk hc
  clear t3 hc
  go_wp2_with fail
  go_ret
  exact ⟨rfl, HB.out.trans (HC.out.below HB.out.size (by simp))⟩
set_option maxHeartbeats 800000 in
set_option maxRecDepth 100000 in
theorem inv14 (a : G) : Calls Try.prog 56 #[.int .u8 (gi a)] w fun e w' => e = .returned (.int .u8 (gi (inv a))) ∧ Below w.heap.size w w' := by
  have t := pow15 (w := w) a 254 (by decide)
  have e : gpw a (254 : Int).toNat = inv a := (inv_gpw a).symm
  rw [e] at t
  obtain ⟨x, Hx⟩ : ∃ r, Hid (gi a = r) := ⟨_, ⟨rfl⟩⟩
  obtain ⟨y, Hy⟩ : ∃ r, Hid (gi (inv a) = r) := ⟨_, ⟨rfl⟩⟩
  rw [Hx.out, Hy.out] at t
  rw [Hx.out, Hy.out]
  clear e
  go_enter Try.func56, Try.ntmps56
  go_wp2_with fail
  refine t.mono ?_
  rintro e w1 ⟨rfl, hb⟩
  have HB := Hid.mk hb
  clear t hb
  go_wp2_with fail
  go_ret
  exact ⟨rfl, HB.out⟩
set_option maxHeartbeats 800000 in
set_option maxRecDepth 100000 in
theorem div9 (a b : G) : Calls Try.prog 53 #[.int .u8 (gi a), .int .u8 (gi b)] w fun e w' => e = .returned (.tuple #[.int .u8 (gi (a * inv b)), .int .i64 (if b = 0 then 2 else 0)]) ∧ Below w.heap.size w w' := by
  by_cases h : b = 0
  · rw [if_pos h, h, inv_zero, mul_zero]
    obtain ⟨x, Hx⟩ : ∃ r, Hid (gi a = r) := ⟨_, ⟨rfl⟩⟩
    rw [Hx.out]
    show Calls Try.prog 53 #[.int .u8 x, .int .u8 0] w fun e w' => e = .returned (.tuple #[.int .u8 0, .int .i64 2]) ∧ Below w.heap.size w w'
    go_enter Try.func53, Try.ntmps53
    go_wp2_with fail
    go_ret2
    exact ⟨rfl, Below.refl _ _⟩
  · rw [if_neg h]
    have t1 := inv14 (w := w) b
    have t2 := fun w => mul13 a (inv b) w
    have hb : (gi b == 0) = false := by
      have e := gi_eq b 0
      rw [decide_eq_false h] at e
      exact e
    obtain ⟨x, Hx⟩ : ∃ r, Hid (gi a = r) := ⟨_, ⟨rfl⟩⟩
    obtain ⟨y, Hy⟩ : ∃ r, Hid (gi b = r) := ⟨_, ⟨rfl⟩⟩
    obtain ⟨z, Hz⟩ : ∃ r, Hid (gi (inv b) = r) := ⟨_, ⟨rfl⟩⟩
    obtain ⟨r, Hr⟩ : ∃ r, Hid (gi (a * inv b) = r) := ⟨_, ⟨rfl⟩⟩
    rw [Hy.out, Hz.out] at t1
    rw [Hx.out, Hz.out, Hr.out] at t2
    rw [Hy.out] at hb
    rw [Hx.out, Hy.out, Hr.out]
    clear h
    go_enter Try.func53, Try.ntmps53
    go_wp2_with fail
    refine t1.mono ?_
    rintro e w1 ⟨rfl, hb⟩
    have HB := Hid.mk hb
    clear t1 hb
    go_wp2_with fail
    refine (t2 _).mono ?_
    rintro e w2 ⟨rfl, rfl⟩
    clear t2
    go_wp2_with fail
    go_ret2
    exact ⟨rfl, HB.out⟩
end
end Go.Proofs.Ytbdmbhpmbklaiaa
