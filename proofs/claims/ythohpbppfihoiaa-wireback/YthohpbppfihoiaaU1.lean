/- Numbers' bytes, a text's bytes. -/
import Derived.Test.YthohpbppfihoiaaN8
import Derived.Test.YthohpbppfihoiaaBytes
namespace Go.Proofs.Ythohpbppfihoiaa
open Go.RowKit

theorem own_geY {w : World} {base : Nat} {v : Value} {bs : List Int} (h : OwnY w base v bs) : ∀ x ∈ ob v, base ≤ x := fun x hx => (h.lt x (mem_ob.1 hx)).1
theorem bs_rdY {w : World} {v : Value} {bs : List Int} (h : Oct.Bs w v bs) : RdY w v bs := by
  obtain ⟨a, cap, rfl, h1, h2, h3, h4⟩ := h
  refine ⟨a, cap, by rw [yv_len], by rw [yv_len]; exact h1, h2, h3, fun x hx j hj => ?_⟩
  rw [yv_len] at hj
  rw [h4 x hx j hj, yv_get bs hj]
section
variable {w : World}
set_option maxHeartbeats 4000000 in
set_option maxRecDepth 100000 in
theorem nums1 (n : Nat) (hn : n ≤ 9007199254740991) (nb : Nat) (hrow : w.heap[nb]? = some (.cells #[.int .i64 (n : Int)] 3 (0, 0))) :
    Calls Try.prog 21 #[.slice (some ⟨nb, 0, none⟩) 1 1] w fun e w' => ∃ v, e = .returned v ∧ OwnY w' w.heap.size v (Oct.numB n) ∧ Below w.heap.size w w' := by
  have c0 : w.cell? ⟨nb, 0, none⟩ = some (.int .i64 (n : Int)) := by rw [cell_of_row _ _ _ _ _ _ hrow]; rfl
  have tn := Oct.num_good n w hn
  have hl8 := Oct.numB_len8 n hn
  obtain ⟨X, HX⟩ : ∃ X, Hid (Oct.numB n = X) := ⟨_, ⟨rfl⟩⟩
  rw [HX.out] at tn hl8
  rw [HX.out]
  clear hrow
  go_enter Try.func21, Try.ntmps21
  go_wp2_with fail
  go_loopg [3, 10] 1 (fun gg s3 s10 wr => (1 ≤ gg ∧ s10 = .int .i64 0 ∧ s3 = .slice none 0 0 ∧ Hid (wr = w)) ∨ (s10 = .int .i64 1 ∧ Hid (OwnY wr w.heap.size s3 X) ∧ Hid (Below w.heap.size w wr)))
  case atStart => exact .inl ⟨Nat.le_refl _, rfl, rfl, ⟨rfl⟩⟩
  case round =>
    rename World => wo
    rcases hrel with ⟨hgg, rfl, rfl, hw⟩ | ⟨rfl, HO, HB⟩
    · obtain rfl := hw.out
      clear hw
      go_wp2_with fail
      refine tn.mono ?_
      rintro e w1 ⟨v1, rfl, hO1, hb1⟩
      have HO1 : Hid (OwnY w1 wo.heap.size v1 X) := ⟨hO1⟩
      have HB1 : Hid (Below wo.heap.size wo w1) := ⟨hb1⟩
      clear tn hO1 hb1
      go_wp2_with (at_builtin; refine wp_appY rfl (.tmp 19) (.tmp 20) rfl rfl (owny_nil w1 wo.heap.size) rfl (OwnY.rd HO1.out) (by simp; omega) HB1.out.size ?_; intro v2 w2 hO2 hC2 hw2)
      have HB2 : Hid (Below wo.heap.size wo w2) := ⟨HB1.out.trans (hC2.below HB1.out.size (own_geY (owny_nil w1 wo.heap.size)))⟩
      have HO2 : Hid (OwnY w2 wo.heap.size v2 X) := ⟨hO2⟩
      clear hO2 hC2 hw2
      go_roundg 0
      case measure => omega
      case rel => exact .inr ⟨rfl, HO2, HB2⟩
    · go_wp2_with fail
      go_ret
      exact ⟨_, rfl, HO.out, HB.out⟩
set_option maxHeartbeats 4000000 in
set_option maxRecDepth 100000 in
theorem text43 (u : Value) (ps : List Int) (hu : Oct.Bs w u ps) (most : Int) (hl : (ps.length : Int) ≤ most) (hm : most ≤ 1000) :
    Calls Try.prog 43 #[u, .int .i64 most] w fun e w' => ∃ v, e = .returned (.tuple #[v, .int .i64 0]) ∧ OwnY w' w.heap.size v (Oct.numB ps.length ++ ps) ∧ Below w.heap.size w w' := by
  obtain ⟨ua, uc, rfl, h1, h2, h3, h4⟩ := id hu
  have HU := Hid.mk hu
  have hlz : ¬ most < (ps.length : Int) := by omega
  have tn := Oct.num_good ps.length w (by omega)
  have hl8 := Oct.numB_len8 ps.length (by omega)
  have hpl : ps.length ≤ 1000 := by omega
  obtain ⟨X, HX⟩ : ∃ X, Hid (Oct.numB ps.length = X) := ⟨_, ⟨rfl⟩⟩
  obtain ⟨n, Hn⟩ : ∃ n, Hid (ps.length = n) := ⟨_, ⟨rfl⟩⟩
  rw [HX.out] at tn hl8
  rw [HX.out]
  rw [Hn.out] at tn hlz HU ⊢
  clear h1 h2 h3 h4 hl hm hu
  go_enter Try.func43, Try.ntmps43
  go_wp2_with fail
  refine tn.mono ?_
  rintro e w1 ⟨v1, rfl, hO1, hb1⟩
  have HO1 : Hid (OwnY w1 w.heap.size v1 X) := ⟨hO1⟩
  have HB1 : Hid (Below w.heap.size w w1) := ⟨hb1⟩
  have HU1 : Hid (RdY w1 (.slice ua n uc) ps) := ⟨bs_rdY (HU.out.below HB1.out)⟩
  clear tn hO1 hb1
  go_wp2_with (at_builtin; refine wp_appY rfl (.tmp 21) (.tmp 22) rfl rfl HO1.out rfl HU1.out (by omega) HB1.out.size ?_; intro v2 w2 hO2 hC2 hw2)
  have HB2 : Hid (Below w.heap.size w w2) := ⟨HB1.out.trans (hC2.below HB1.out.size (own_geY HO1.out))⟩
  go_ret2
  exact ⟨_, rfl, hO2, HB2.out⟩
end
end Go.Proofs.Ythohpbppfihoiaa
