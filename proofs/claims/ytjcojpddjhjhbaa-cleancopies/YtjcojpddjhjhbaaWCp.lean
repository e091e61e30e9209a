/- The law CleanCopies. -/
import Derived.Test.YtjcojpddjhjhbaaD1
import Derived.Test.YtjcojpddjhjhbaaC17
import Derived.Test.YtjcojpddjhjhbaaIntsS
namespace Go.Proofs.Ytjcojpddjhjhbaa
open Go.RowKit Go.Lib

theorem count_one {M : List Int} (h : M.Pairwise (· < ·)) {x : Int} (hx : x ∈ M) : M.count x = 1 := by
  have h1 : M.Nodup := h.imp (fun h => by omega)
  have h2 := List.nodup_iff_count.1 h1 x
  have h3 := List.count_pos_iff.2 hx
  omega
theorem count_snoc {M : List Int} {y : Int} {j : Nat} (h : j < M.length) : (M.take (j + 1)).count y = (M.take j).count y + (if M.getD j 0 = y then 1 else 0) := by
  rw [List.take_add_one, List.getElem?_eq_getElem h, List.count_append]
  simp only [Option.toList_some, List.getD, List.getElem?_eq_getElem h, Option.getD_some]
  by_cases e : M[j] = y <;> simp [e]
section
variable {w : World}
set_option maxHeartbeats 16000000 in
set_option maxRecDepth 100000 in
theorem cleanCopies_any (bin : Int) (v : Value) (L : List Sp) (h : RdE sp2 2 q0 w v L) (hL : L.length ≤ 9000000000000) : Calls Try.prog 7 #[.int .i64 bin, v] w fun e w' => e = .returned (.bool true) ∧ Below w.heap.size w w' := by
  have H := Hid.mk h
  obtain ⟨a, c, rfl, hlc, hcm, han⟩ := h.shape
  have hcx : c ≤ 9223372036854775807 := hcm
  obtain ⟨n, Hn⟩ : ∃ n, Hid (L.length = n) := ⟨_, ⟨rfl⟩⟩
  rw [Hn.out] at H hL hlc ⊢
  clear h
  by_cases h80 : 80 < n
  · have h80z : (80 : Int) < (n : Int) := by omega
    obtain ⟨m, Hm8⟩ : ∃ m, Hid (80 = m) := ⟨_, ⟨rfl⟩⟩
    obtain ⟨K, HKe⟩ : ∃ K, Hid (L.take m = K) := ⟨_, ⟨rfl⟩⟩
    have HK : Hid (RdE sp2 2 q0 w (.slice a m c) K) := ⟨by rw [← HKe.out]; exact H.out.take' Hn.out (by have := Hm8.out; omega)⟩
    have Hm : Hid (K.length = m) := ⟨by rw [← HKe.out, List.length_take, Hn.out]; have := Hm8.out; omega⟩
    have hm80 : m ≤ 80 := by have := Hm8.out; omega
    have h80n : 80 ≤ n := by omega
    have h80c : 80 ≤ c := by omega
    have h80cz : (80 : Int) ≤ (c : Int) := by omega
    obtain ⟨ad, ea⟩ : ∃ x, a = some x := by
      cases a with
      | none => have := han rfl; omega
      | some x => exact ⟨x, rfl⟩
    subst ea
    clear H HKe
    go_enter Try.func7, Try.ntmps7
    go_upto_region 3 with fail
    rw [Hm8.out]
    clear Hm8
    have t1 := copies16 bin (.slice (some ad) m c) K HK.out (by rw [Hm.out]; omega)
    go_wp2_with fail
    refine t1.mono ?_
    rintro e w1 ⟨x1, rfl, M1, hO1, hU1, hM1, hL1, hB1⟩
    have t2 := rcopies17 (w := w1) bin (.slice (some ad) m c) K (HK.out.far (Chg.ofBelow (X := []) hB1) (by simp)) (by rw [Hm.out]; omega)
    have HO1 := Hid.mk hO1
    have HU1 := Hid.mk hU1
    have HM1 := Hid.mk hM1
    have HL1 : Hid (M1.length ≤ 80) := ⟨by have := Hm.out; omega⟩
    have HB1 := Hid.mk hB1
    obtain ⟨p1, c1, e1, _⟩ := hO1.shape
    subst e1
    clear t1 hO1 hU1 hM1 hL1 hB1
    go_wp2_with fail
    refine t2.mono ?_
    rintro e w2 ⟨x2, rfl, M2, hO2, hU2, hM2, hL2, hB2⟩
    have hone : M1 = M2 := rise_one (r := fun a b : Int => a < b) (fun x => by omega) (fun x y z => by omega) _ _ HU1.out hU2 (fun y => ((HM1.out y).trans slots_mem.symm).trans (hM2 y).symm)
    subst hone
    have HB2 : Hid (Below w.heap.size w w2) := ⟨HB1.out.trans (hB2.mono HB1.out.size)⟩
    have hR2 := (owni_of hO2).rd
    obtain ⟨p2, c2, e2, _⟩ := hR2.shape
    subst e2
    have t3 := ints_same (w := w2) _ _ M1 (HO1.out.rd.far (Chg.ofBelow (X := []) hB2) (by simp)) hR2 (by have := HL1.out; omega)
    clear t2 hO2 hU2 hM2 hL2 hB2 hR2
    go_wp2_with fail
    refine t3.mono ?_
    rintro e w3 ⟨rfl, hB3⟩
    have HB3 : Hid (Below w.heap.size w w3) := ⟨HB2.out.trans (hB3.mono HB2.out.size)⟩
    clear t3 hB3 HB2 HB1 HO1 HU1 HM1 HL1
    go_wp2_with fail
    go_loopg [5, 6, 7, 8] m (fun gg s5 _ _ _ wr => ∃ i : Nat, i ≤ m ∧ m - i ≤ gg ∧ s5 = .int .i64 (i : Int) ∧ Hid (Below w.heap.size w wr))
    case atStart => exact ⟨0, Nat.zero_le _, by omega, rfl, HB3⟩
    case round =>
      clear HB3
      obtain ⟨i, hi, hgg, rfl, HB⟩ := hrel
      rename World => wo
      by_cases hlt : i < m
      · have hltz : (i : Int) < (m : Int) := by omega
        have hiK : i < K.length := by rw [Hm.out]; exact hlt
        have HKo : Hid (RdE sp2 2 q0 wo (.slice (some ad) m c) K) := ⟨HK.out.far (Chg.ofBelow (X := []) HB.out) (by simp)⟩
        obtain ⟨b, off, cap, e, hc⟩ := HKo.out.at' i hiK
        rw [Hm.out] at e
        simp at e
        obtain ⟨rfl, rfl⟩ := e
        have Hin : Hid (K.getD i q0 ∈ K) := ⟨getD_mem' hiK⟩
        have c0 := hc 0 (by decide)
        have c1' := hc 1 (by decide)
        clear hc
        generalize K.getD i q0 = x at c0 c1' Hin
        obtain ⟨y1, y2⟩ := x
        simp [sp2] at c0 c1'
        have t5 := copies16 (w := wo) y1 (.slice (some ⟨b, off, none⟩) m c) K HKo.out (by rw [Hm.out]; omega)
        have Hc1 := Hid.mk c1'
        go_wp2_with fail
        refine t5.mono ?_
        rintro e w5 ⟨x5, rfl, M5, hO5, hU5, hM5, hL5, hB5⟩
        have HR5 := Hid.mk hO5.rd
        have Hcount : Hid (M5.count y2 = 1) := ⟨count_one hU5 ((hM5 y2).2 Hin.out)⟩
        have HL5 : Hid (M5.length ≤ 80) := ⟨by have := Hm.out; omega⟩
        have HB5 : Hid (Below w.heap.size w w5) := ⟨HB.out.trans (hB5.mono HB.out.size)⟩
        have HC5 : Hid (w5.cell? ⟨b, off + i * 2 + 1, none⟩ = some (.int .i64 y2)) := ⟨(hB5.cell (p := ⟨b, off + i * 2 + 1, none⟩) (World.block_lt_of_cell? _ _ Hc1.out)).trans Hc1.out⟩
        obtain ⟨p5, c5, e5, hp5, _⟩ := hO5.shape
        subst e5
        obtain ⟨n5, Hn5⟩ : ∃ x, Hid (M5.length = x) := ⟨_, ⟨rfl⟩⟩
        rw [Hn5.out] at HR5 HL5 hp5 ⊢
        have hn5 : n5 ≤ 80 := HL5.out
        have HTe5 : Hid (M5.take n5 = M5) := ⟨List.take_of_length_le (by rw [Hn5.out]; exact Nat.le_refl _)⟩
        clear t5 hO5 hU5 hM5 hL5 hB5 c0 c1' Hc1 HB HKo
        go_wp2_with fail
        go_loopg [7, 8] n5 (fun gg2 s7 s8 wr => ∃ j : Nat, j ≤ n5 ∧ n5 - j ≤ gg2 ∧ s8 = .int .i64 (j : Int) ∧ s7 = .int .i64 (((M5.take j).count y2 : Nat) : Int) ∧ Hid (Below w5.heap.size w5 wr))
        case atStart => exact ⟨0, Nat.zero_le _, by omega, rfl, rfl, ⟨Below.refl _ _⟩⟩
        case round =>
          obtain ⟨j, hj, hgg2, rfl, rfl, HBr⟩ := hrel
          rename World => wk
          have hcl : (M5.take j).count y2 ≤ j := by
            have := List.count_le_length (a := y2) (l := M5.take j)
            rw [List.length_take] at this
            omega
          by_cases hjn : j < n5
          · have hjnz : (j : Int) < (n5 : Int) := by omega
            have hjM : j < M5.length := by rw [Hn5.out]; exact hjn
            obtain ⟨g5, off5, cap5, e, _, hcc⟩ := HR5.out.at hjM
            rw [Hn5.out] at e
            simp at e
            obtain ⟨rfl, rfl⟩ := e
            have e0 := hcc j hjM
            have HCn := Hid.mk (count_snoc (y := y2) hjM)
            generalize M5.getD j 0 = z at e0 HCn
            have d0 : wk.cell? ⟨g5, off5 + j, none⟩ = some (.int .i64 z) := (HBr.out.cell (p := ⟨g5, off5 + j, none⟩) (World.block_lt_of_cell? _ _ e0)).trans e0
            have d1 : wk.cell? ⟨b, off + i * 2 + 1, none⟩ = some (.int .i64 y2) := (HBr.out.cell (p := ⟨b, off + i * 2 + 1, none⟩) (World.block_lt_of_cell? _ _ HC5.out)).trans HC5.out
            clear hcc e0
            obtain ⟨ct, Hct⟩ : ∃ x, Hid ((M5.take j).count y2 = x) := ⟨_, ⟨rfl⟩⟩
            rw [Hct.out] at hcl HCn ⊢
            by_cases hz : z = y2
            · have HCx : Hid ((M5.take (j + 1)).count y2 = ct + 1) := ⟨by rw [HCn.out, if_pos hz]⟩
              have hzb : (z == y2) = true := by simp [hz]
              clear hz
              go_upto_region 13 with fail
              go_quiet (fail)
              go_wp2_with fail
              go_roundg (n5 - (j + 1))
              case measure => omega
              case rel => exact ⟨j + 1, by omega, by omega, by go_num, by rw [HCx.out]; go_num, ⟨below_drewN HBr.out nq⟩⟩
            · have HCx : Hid ((M5.take (j + 1)).count y2 = ct) := ⟨by rw [HCn.out, if_neg hz]; rfl⟩
              have hzb : (z == y2) = false := by simp [hz]
              clear hz
              go_upto_region 13 with fail
              go_quiet (fail)
              go_wp2_with fail
              go_roundg (n5 - (j + 1))
              case measure => omega
              case rel => exact ⟨j + 1, by omega, by omega, by go_num, by rw [HCx.out], ⟨below_drewN HBr.out nq⟩⟩
          · obtain rfl : n5 = j := by omega
            rw [HTe5.out, Hcount.out]
            have HBz : Hid (Below w.heap.size w wk) := ⟨HB5.out.trans (HBr.out.mono HB5.out.size)⟩
            go_wp2_with fail
            go_roundg (m - (i + 1))
            case measure => omega
            case rel => exact ⟨i + 1, by omega, by omega, by go_num, HBz⟩
      · obtain rfl : m = i := by omega
        go_wp2_with fail
        refine (live_any (w := wo)).mono ?_
        rintro e w9 ⟨rfl, hB9⟩
        have HB9 : Hid (Below w.heap.size w w9) := ⟨HB.out.trans (hB9.mono HB.out.size)⟩
        clear hB9
        go_wp2_with fail
        go_ret
        exact ⟨rfl, HB9.out⟩
  · have h80z : ¬ (80 : Int) < (n : Int) := by omega
    obtain ⟨m, Hm8⟩ : ∃ m, Hid (n = m) := ⟨_, ⟨rfl⟩⟩
    obtain ⟨K, HKe⟩ : ∃ K, Hid (L = K) := ⟨_, ⟨rfl⟩⟩
    have HK : Hid (RdE sp2 2 q0 w (.slice a m c) K) := ⟨by rw [← HKe.out, ← Hm8.out]; exact H.out⟩
    have Hm : Hid (K.length = m) := ⟨by rw [← HKe.out, Hn.out, Hm8.out]⟩
    have hm80 : m ≤ 80 := by have := Hm8.out; omega
    clear H HKe
    go_enter Try.func7, Try.ntmps7
    go_upto_region 3 with fail
    rw [Hm8.out]
    clear Hm8
    have t1 := copies16 bin (.slice a m c) K HK.out (by rw [Hm.out]; omega)
    go_wp2_with fail
    refine t1.mono ?_
    rintro e w1 ⟨x1, rfl, M1, hO1, hU1, hM1, hL1, hB1⟩
    have t2 := rcopies17 (w := w1) bin (.slice a m c) K (HK.out.far (Chg.ofBelow (X := []) hB1) (by simp)) (by rw [Hm.out]; omega)
    have HO1 := Hid.mk hO1
    have HU1 := Hid.mk hU1
    have HM1 := Hid.mk hM1
    have HL1 : Hid (M1.length ≤ 80) := ⟨by have := Hm.out; omega⟩
    have HB1 := Hid.mk hB1
    obtain ⟨p1, c1, e1, _⟩ := hO1.shape
    subst e1
    clear t1 hO1 hU1 hM1 hL1 hB1
    go_wp2_with fail
    refine t2.mono ?_
    rintro e w2 ⟨x2, rfl, M2, hO2, hU2, hM2, hL2, hB2⟩
    have hone : M1 = M2 := rise_one (r := fun a b : Int => a < b) (fun x => by omega) (fun x y z => by omega) _ _ HU1.out hU2 (fun y => ((HM1.out y).trans slots_mem.symm).trans (hM2 y).symm)
    subst hone
    have HB2 : Hid (Below w.heap.size w w2) := ⟨HB1.out.trans (hB2.mono HB1.out.size)⟩
    have hR2 := (owni_of hO2).rd
    obtain ⟨p2, c2, e2, _⟩ := hR2.shape
    subst e2
    have t3 := ints_same (w := w2) _ _ M1 (HO1.out.rd.far (Chg.ofBelow (X := []) hB2) (by simp)) hR2 (by have := HL1.out; omega)
    clear t2 hO2 hU2 hM2 hL2 hB2 hR2
    go_wp2_with fail
    refine t3.mono ?_
    rintro e w3 ⟨rfl, hB3⟩
    have HB3 : Hid (Below w.heap.size w w3) := ⟨HB2.out.trans (hB3.mono HB2.out.size)⟩
    clear t3 hB3 HB2 HB1 HO1 HU1 HM1 HL1
    go_wp2_with fail
    go_loopg [5, 6, 7, 8] m (fun gg s5 _ _ _ wr => ∃ i : Nat, i ≤ m ∧ m - i ≤ gg ∧ s5 = .int .i64 (i : Int) ∧ Hid (Below w.heap.size w wr))
    case atStart => exact ⟨0, Nat.zero_le _, by omega, rfl, HB3⟩
    case round =>
      clear HB3
      obtain ⟨i, hi, hgg, rfl, HB⟩ := hrel
      rename World => wo
      by_cases hlt : i < m
      · have hltz : (i : Int) < (m : Int) := by omega
        have hiK : i < K.length := by rw [Hm.out]; exact hlt
        have HKo : Hid (RdE sp2 2 q0 wo (.slice a m c) K) := ⟨HK.out.far (Chg.ofBelow (X := []) HB.out) (by simp)⟩
        obtain ⟨b, off, cap, e, hc⟩ := HKo.out.at' i hiK
        rw [Hm.out] at e
        simp at e
        obtain ⟨rfl, rfl⟩ := e
        have Hin : Hid (K.getD i q0 ∈ K) := ⟨getD_mem' hiK⟩
        have c0 := hc 0 (by decide)
        have c1' := hc 1 (by decide)
        clear hc
        generalize K.getD i q0 = x at c0 c1' Hin
        obtain ⟨y1, y2⟩ := x
        simp [sp2] at c0 c1'
        have t5 := copies16 (w := wo) y1 (.slice (some ⟨b, off, none⟩) m c) K HKo.out (by rw [Hm.out]; omega)
        have Hc1 := Hid.mk c1'
        go_wp2_with fail
        refine t5.mono ?_
        rintro e w5 ⟨x5, rfl, M5, hO5, hU5, hM5, hL5, hB5⟩
        have HR5 := Hid.mk hO5.rd
        have Hcount : Hid (M5.count y2 = 1) := ⟨count_one hU5 ((hM5 y2).2 Hin.out)⟩
        have HL5 : Hid (M5.length ≤ 80) := ⟨by have := Hm.out; omega⟩
        have HB5 : Hid (Below w.heap.size w w5) := ⟨HB.out.trans (hB5.mono HB.out.size)⟩
        have HC5 : Hid (w5.cell? ⟨b, off + i * 2 + 1, none⟩ = some (.int .i64 y2)) := ⟨(hB5.cell (p := ⟨b, off + i * 2 + 1, none⟩) (World.block_lt_of_cell? _ _ Hc1.out)).trans Hc1.out⟩
        obtain ⟨p5, c5, e5, hp5, _⟩ := hO5.shape
        subst e5
        obtain ⟨n5, Hn5⟩ : ∃ x, Hid (M5.length = x) := ⟨_, ⟨rfl⟩⟩
        rw [Hn5.out] at HR5 HL5 hp5 ⊢
        have hn5 : n5 ≤ 80 := HL5.out
        have HTe5 : Hid (M5.take n5 = M5) := ⟨List.take_of_length_le (by rw [Hn5.out]; exact Nat.le_refl _)⟩
        clear t5 hO5 hU5 hM5 hL5 hB5 c0 c1' Hc1 HB HKo
        go_wp2_with fail
        go_loopg [7, 8] n5 (fun gg2 s7 s8 wr => ∃ j : Nat, j ≤ n5 ∧ n5 - j ≤ gg2 ∧ s8 = .int .i64 (j : Int) ∧ s7 = .int .i64 (((M5.take j).count y2 : Nat) : Int) ∧ Hid (Below w5.heap.size w5 wr))
        case atStart => exact ⟨0, Nat.zero_le _, by omega, rfl, rfl, ⟨Below.refl _ _⟩⟩
        case round =>
          obtain ⟨j, hj, hgg2, rfl, rfl, HBr⟩ := hrel
          rename World => wk
          have hcl : (M5.take j).count y2 ≤ j := by
            have := List.count_le_length (a := y2) (l := M5.take j)
            rw [List.length_take] at this
            omega
          by_cases hjn : j < n5
          · have hjnz : (j : Int) < (n5 : Int) := by omega
            have hjM : j < M5.length := by rw [Hn5.out]; exact hjn
            obtain ⟨g5, off5, cap5, e, _, hcc⟩ := HR5.out.at hjM
            rw [Hn5.out] at e
            simp at e
            obtain ⟨rfl, rfl⟩ := e
            have e0 := hcc j hjM
            have HCn := Hid.mk (count_snoc (y := y2) hjM)
            generalize M5.getD j 0 = z at e0 HCn
            have d0 : wk.cell? ⟨g5, off5 + j, none⟩ = some (.int .i64 z) := (HBr.out.cell (p := ⟨g5, off5 + j, none⟩) (World.block_lt_of_cell? _ _ e0)).trans e0
            have d1 : wk.cell? ⟨b, off + i * 2 + 1, none⟩ = some (.int .i64 y2) := (HBr.out.cell (p := ⟨b, off + i * 2 + 1, none⟩) (World.block_lt_of_cell? _ _ HC5.out)).trans HC5.out
            clear hcc e0
            obtain ⟨ct, Hct⟩ : ∃ x, Hid ((M5.take j).count y2 = x) := ⟨_, ⟨rfl⟩⟩
            rw [Hct.out] at hcl HCn ⊢
            by_cases hz : z = y2
            · have HCx : Hid ((M5.take (j + 1)).count y2 = ct + 1) := ⟨by rw [HCn.out, if_pos hz]⟩
              have hzb : (z == y2) = true := by simp [hz]
              clear hz
              go_upto_region 13 with fail
              go_quiet (fail)
              go_wp2_with fail
              go_roundg (n5 - (j + 1))
              case measure => omega
              case rel => exact ⟨j + 1, by omega, by omega, by go_num, by rw [HCx.out]; go_num, ⟨below_drewN HBr.out nq⟩⟩
            · have HCx : Hid ((M5.take (j + 1)).count y2 = ct) := ⟨by rw [HCn.out, if_neg hz]; rfl⟩
              have hzb : (z == y2) = false := by simp [hz]
              clear hz
              go_upto_region 13 with fail
              go_quiet (fail)
              go_wp2_with fail
              go_roundg (n5 - (j + 1))
              case measure => omega
              case rel => exact ⟨j + 1, by omega, by omega, by go_num, by rw [HCx.out], ⟨below_drewN HBr.out nq⟩⟩
          · obtain rfl : n5 = j := by omega
            rw [HTe5.out, Hcount.out]
            have HBz : Hid (Below w.heap.size w wk) := ⟨HB5.out.trans (HBr.out.mono HB5.out.size)⟩
            go_wp2_with fail
            go_roundg (m - (i + 1))
            case measure => omega
            case rel => exact ⟨i + 1, by omega, by omega, by go_num, HBz⟩
      · obtain rfl : m = i := by omega
        go_wp2_with fail
        refine (live_any (w := wo)).mono ?_
        rintro e w9 ⟨rfl, hB9⟩
        have HB9 : Hid (Below w.heap.size w w9) := ⟨HB.out.trans (hB9.mono HB.out.size)⟩
        clear hB9
        go_wp2_with fail
        go_ret
        exact ⟨rfl, HB9.out⟩
end
end Go.Proofs.Ytjcojpddjhjhbaa
