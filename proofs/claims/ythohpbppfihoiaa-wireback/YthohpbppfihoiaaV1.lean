/- The document's numbers, one behind the other. -/
import Derived.Test.YthohpbppfihoiaaU8
namespace Go.Proofs.Ythohpbppfihoiaa
open Go.RowKit

section
variable {w : World}
set_option maxHeartbeats 4000000 in
set_option maxRecDepth 100000 in
theorem rnum29 (u : Value) (bs : List Int) (hu : Oct.Bs w u bs) (hl : bs.length ≤ 1000000) (n : Nat) (hn : n ≤ 9007199254740991) :
    Calls Try.prog 29 #[u, .int .i64 (n : Int)] w fun e w' => ∃ v, e = .returned v ∧ OwnY w' w.heap.size v (bs ++ Oct.numB n) ∧ Below w.heap.size w w' := by
  have HU := Hid.mk hu
  have tn := Oct.rnum_good n w hn
  have hl8 := Oct.numB_len8 n hn
  obtain ⟨X, HX⟩ : ∃ X, Hid (Oct.numB n = X) := ⟨_, ⟨rfl⟩⟩
  rw [HX.out] at tn hl8
  rw [HX.out]
  obtain ⟨ua, uc, rfl, -⟩ := hu
  obtain ⟨m, Hm⟩ : ∃ m, Hid (bs.length = m) := ⟨_, ⟨rfl⟩⟩
  have Hml : Hid (bs.length ≤ 1000000) := ⟨hl⟩
  rw [Hm.out] at HU ⊢
  clear hl
  go_enter Try.func29, Try.ntmps29
  go_wp2_with fail
  refine tn.mono ?_
  rintro e w1 ⟨v1, rfl, hO1, hb1⟩
  have HO1 : Hid (OwnY w1 w.heap.size v1 X) := ⟨hO1⟩
  have HB1 : Hid (Below w.heap.size w w1) := ⟨hb1⟩
  have ha : Below w1.heap.size w1 (w1.alloc (.cells #[] 5)) := (Below.refl _ w1).alloc (Nat.le_refl _) _
  have HU1 : Hid (RdY (w1.alloc (.cells #[] 5)) (.slice ua m uc) bs) := ⟨bs_rdY (HU.out.below (HB1.out.trans (ha.mono HB1.out.size)))⟩
  have HA := Hid.mk ha
  clear tn hO1 hb1 ha
  go_wp2_with (first
    | (at_builtin; refine wp_appY rfl (.tmp 12) (.tmp 13) rfl rfl (owny_none w1) rfl HU1.out (by have := Hml.out; simp; omega) HA.out.size ?_; intro v2 w2 hO hC hw; have HO2 : Hid (OwnY w2 w1.heap.size v2 bs) := ⟨hO⟩; have HB12 : Hid (Below w1.heap.size w1 w2) := ⟨HA.out.trans (hC.below HA.out.size (own_geY (owny_none w1)))⟩; clear hO hC hw)
    | (at_builtin; refine wp_appY rfl (.tmp 14) (.tmp 15) rfl rfl HO2.out rfl (OwnY.rd (Oct.OwnB.below HO1.out HB12.out)) (by have := Hml.out; omega) HB12.out.size ?_; intro v3 w3 hO3 hC3 hw3))
  go_ret
  exact ⟨_, rfl, Oct.OwnB.mono hO3 HB1.out.size, HB1.out.trans ((HB12.out.trans (hC3.below HB12.out.size (own_geY HO2.out))).mono HB1.out.size)⟩
end
end Go.Proofs.Ythohpbppfihoiaa
