/- The walk of SqueezeSmall. -/
import Derived.Test.YtoneepoaodoijaaL1
namespace Go.Proofs.Ytoneepoaodoijaa
open Go.RowKit Go.Lib Go.Shelf Oct

theorem rdy_take {w : World} {a : Option Addr} {n c : Nat} {b : List Int} (h : RdY w (.slice a n c) b) (m : Nat) (hm : m ≤ n) : RdY w (.slice a m c) (b.take m) := by
  obtain ⟨a', c', e, h1, h2, h3, h4⟩ := h
  simp only [Value.slice.injEq] at e
  obtain ⟨rfl, rfl, rfl⟩ := e
  rw [yv_len] at hm h1
  have hl : (b.take m).length = m := by rw [List.length_take]; omega
  refine ⟨a, c, by rw [yv_len, hl], by rw [yv_len, hl]; omega, h2, h3, fun x hx i hi => ?_⟩
  rw [yv_len, hl] at hi
  rw [h4 x hx i (by rw [yv_len]; omega)]
  simp only [yv, List.getElem?_map, List.getElem?_take, if_pos hi]
set_option maxHeartbeats 4000000 in
set_option maxRecDepth 100000 in
theorem walk_squeezeSmall (v : Value) (bs : List Int) (y k : Int) (W : World) (hb : Bs W v bs) (by0 : ∀ x ∈ bs, 0 ≤ x ∧ x < 256) (_l0 : bs.length ≤ 140737488351232) (w1 : (Lit.int .u8 y).wf = true) (w2 : (Lit.int .u16 k).wf = true) :
    Calls Try.prog 6 #[v, .int .u8 y, .int .u16 k] W fun e w' => e = .returned (.bool true) ∧ Below W.heap.size W w' := by
  have hy := bounds_u8 w1
  have hk := bounds_u16 w2
  obtain ⟨K, rfl⟩ := Int.eq_ofNat_of_zero_le hk.1
  obtain ⟨a, cap, rfl, hcap, hcm, hn0⟩ := (bs_rdy hb).shape
  obtain ⟨n, Hn⟩ : ∃ n, Hid (bs.length = n) := ⟨_, ⟨rfl⟩⟩
  rw [Hn.out] at hb hcap ⊢
  obtain ⟨m, Hm⟩ : ∃ m, Hid (min n 8192 = m) := ⟨_, ⟨rfl⟩⟩
  have hmz : min (n : Int) (8192 : Int) = (m : Int) := by rw [← Hm.out]; omega
  have hmn : m ≤ n ∧ m ≤ 8192 := by rw [← Hm.out]; omega
  have HR : Hid (RdY W (.slice a m cap) (bs.take m)) := ⟨rdy_take (bs_rdy hb) m hmn.1⟩
  have HLm : Hid ((bs.take m).length = m) := ⟨by rw [List.length_take, Hn.out]; omega⟩
  have t1 := put9 (w := W) (.slice a m cap) (bs.take m) HR.out (fun x hx => by0 x (List.mem_of_mem_take hx))
  obtain ⟨R, HRm⟩ : ∃ R, Hid (K % 2000 = R) := ⟨_, ⟨rfl⟩⟩
  have hR : R < 2000 := by rw [← HRm.out]; omega
  have hKz : IntKind.i64.wrap (K : Int) = (K : Int) := IntWalk.i64_in _ ⟨by omega, by omega⟩
  have hRz : (K : Int) % 2000 = (R : Int) := by rw [← HRm.out]; omega
  have hmc : m ≤ cap := by omega
  have hmcz : (m : Int) ≤ (cap : Int) := by omega
  have hby : Hid (0 ≤ y ∧ y < 256) := ⟨by omega⟩
  clear hb by0 w1 w2
  go_enter Try.func6, Try.ntmps6
  go_wp2_with fail
  refine t1.mono ?_
  rintro e w1 ⟨⟨a1, n1, c1, z1, L, rfl, hO1, hL⟩, hb1⟩
  have hn1 : n1 = L.length := by obtain ⟨_, _, e, _⟩ := hO1.shape; simp only [Value.slice.injEq] at e; exact e.2.1
  obtain ⟨hLe, rfl⟩ : L = sqz (bs.take m) ∧ z1 = 0 := by
    rcases hL with ⟨h, _⟩ | ⟨_, h1, h2⟩
    · rw [HLm.out] at h; omega
    · exact ⟨h1, h2⟩
  have hlen : n1 ≤ m + m / 128 + 1 := by
    have := sqz_len (bs.take m)
    rw [HLm.out, ← hLe, ← hn1] at this
    exact this
  have HB1 := Hid.mk hb1
  have Hlen := Hid.mk hlen
  clear t1 hO1 hL hLe hn1 hb1 hlen
  go_upto_region 5 with fail
  go_loopg [9, 10] (R + 1) (fun gg s9 s10 wr => ∃ (i : Nat) (ra : Option Addr) (rc : Nat), i ≤ R ∧ R + 1 - i ≤ gg ∧ s10 = .int .i64 (i : Int) ∧ s9 = .slice ra i rc ∧ Hid (OwnY wr w1.heap.size (.slice ra i rc) (List.replicate i y)) ∧ Hid (Below w1.heap.size w1 wr))
  case atStart => exact ⟨0, none, 0, Nat.zero_le _, by omega, rfl, rfl, ⟨owny_nil _ _⟩, ⟨Below.refl _ _⟩⟩
  case round =>
    obtain ⟨i, ra, rc, hiR, hgg, rfl, rfl, HO, HB⟩ := hrel
    rename World => wo
    by_cases hlt : i < R
    · have hltz : (i : Int) < (R : Int) := by omega
      have hl1 : (List.replicate i y).length ≤ 1000000000000 := by rw [List.length_replicate]; omega
      have hbs := HB.out.size
      have hw : IntKind.i64.wrap ((i : Int) + 1) = (i : Int) + 1 := IntWalk.i64_in _ ⟨by omega, by omega⟩
      go_wp2_with (refine wp_appY1 (y := y) rfl (.tmp 30) (.tmp 32) rfl rfl HO.out rfl hl1 hbs ?_; intro v7 w7 hO7 hG7 hV7; rw [← List.replicate_succ'] at hO7; have HO7 := Hid.mk hO7; have HG7 : Hid (Chg (ob (.slice ra i rc)) wo w7) := ⟨hG7⟩; clear hO7 hG7 hV7; obtain ⟨ra7, rc7, e7, _⟩ := HO7.out.shape; rw [List.length_replicate] at e7; subst e7)
      go_roundg (R + 1 - (i + 1))
      case measure => omega
      case rel => exact ⟨i + 1, ra7, rc7, by omega, by omega, by go_num, rfl, HO7, ⟨HB.out.trans (HG7.out.below HB.out.size (fun g hg => (World.ownsRow.lt HO.out g (mem_ob.1 hg)).1))⟩⟩
    · obtain rfl : R = i := by omega
      have hltz : ¬ (R : Int) < (R : Int) := by omega
      have t2 := put9 (w := wo) (.slice ra R rc) (List.replicate R y) HO.out.rd (fun x hx => by rw [List.eq_of_mem_replicate hx]; exact hby.out)
      clear hlt
      go_wp2_with fail
      refine t2.mono ?_
      rintro e w2 ⟨⟨a2, n2, c2, z2, L2, rfl, hO2, hL2⟩, hb2⟩
      have hn2 : n2 = L2.length := by obtain ⟨_, _, e, _⟩ := hO2.shape; simp only [Value.slice.injEq] at e; exact e.2.1
      obtain ⟨hL2e, rfl⟩ : L2 = sqz (List.replicate R y) ∧ z2 = 0 := by
        rcases hL2 with ⟨h, _⟩ | ⟨_, h1, h2⟩
        · rw [List.length_replicate] at h; omega
        · exact ⟨h1, h2⟩
      have hlen2 : n2 ≤ 10 + 2 * (R / 131) := by
        have := sqz_rep y R
        rw [← hL2e, ← hn2] at this
        exact this
      have HB2 : Hid (Below W.heap.size W w2) := ⟨HB1.out.trans ((HB.out.trans (hb2.mono HB.out.size)).mono HB1.out.size)⟩
      have t3 := live11 (w := w2)
      have Hlen2 := Hid.mk hlen2
      clear t2 hO2 hL2 hL2e hn2 hb2 hlen2
      go_wp2_with fail
      refine t3.mono ?_
      rintro e w3 ⟨rfl, hb3⟩
      have HB3 : Hid (Below W.heap.size W w3) := ⟨HB2.out.trans (hb3.mono HB2.out.size)⟩
      have q1 : IntKind.i64.wrap ((m : Int).tdiv 128) = ((m / 128 : Nat) : Int) := by rw [show (m : Int).tdiv 128 = ((m / 128 : Nat) : Int) from rfl]; exact IntWalk.i64_in _ ⟨by omega, by omega⟩
      obtain ⟨m1, Hm1⟩ : ∃ k, Hid (m / 128 = k) := ⟨_, ⟨rfl⟩⟩
      have hm1 : m1 ≤ 64 := by rw [← Hm1.out]; omega
      rw [Hm1.out] at q1
      have q2 : IntKind.i64.wrap ((m : Int) + (m1 : Int)) = (m : Int) + m1 := IntWalk.i64_in _ ⟨by omega, by omega⟩
      have q3 : IntKind.i64.wrap ((m : Int) + (m1 : Int) + 1) = (m : Int) + m1 + 1 := IntWalk.i64_in _ ⟨by omega, by omega⟩
      have q4 : IntKind.i64.wrap ((R : Int).tdiv 131) = ((R / 131 : Nat) : Int) := by rw [show (R : Int).tdiv 131 = ((R / 131 : Nat) : Int) from rfl]; exact IntWalk.i64_in _ ⟨by omega, by omega⟩
      obtain ⟨r1, Hr1⟩ : ∃ k, Hid (R / 131 = k) := ⟨_, ⟨rfl⟩⟩
      have hr1 : r1 ≤ 20 := by rw [← Hr1.out]; omega
      rw [Hr1.out] at q4
      have q5 : IntKind.i64.wrap (2 * (r1 : Int)) = 2 * (r1 : Int) := IntWalk.i64_in _ ⟨by omega, by omega⟩
      have q6 : IntKind.i64.wrap (10 + 2 * (r1 : Int)) = 10 + 2 * (r1 : Int) := IntWalk.i64_in _ ⟨by omega, by omega⟩
      have l1 : (n1 : Int) ≤ (m : Int) + m1 + 1 := by have := Hlen.out; rw [Hm1.out] at this; omega
      have l2 : (n2 : Int) ≤ 10 + 2 * (r1 : Int) := by have := Hlen2.out; rw [Hr1.out] at this; omega
      have l1z : (n1 : Int) ≤ (m : Int) + (m : Int) / 128 + 1 := by have := Hm1.out; omega
      have l2z : (n2 : Int) ≤ 10 + 2 * ((R : Int) / 131) := by have := Hr1.out; omega
      clear t3 hb3
      go_wp2_with fail
      go_ret
      exact ⟨rfl, HB3.out⟩
end Go.Proofs.Ytoneepoaodoijaa
