/- Texts of bits; the document's plus. -/
import Derived.Test.YtfecngncapenjaaPL
import Derived.Test.YtfecngncapenjaaV5
import Derived.WideShapes
namespace Go.Proofs.Ytfecngncapenjaa
open Go.RowKit Oct

/-- Bits as a text. -/
def txt (bs : List Nat) : ByteArray := strOfNums (bs.map fun b => ((48 + b : Nat) : Int))
theorem txt_nil : txt [] = { data := #[] } := rfl
theorem txt_size (bs : List Nat) : (txt bs).size = bs.length := by unfold txt; rw [strOfNums_size, List.length_map]
theorem txt_data (bs : List Nat) : (txt bs).data.toList = bs.map fun b => UInt8.ofNat (48 + b) := by
  unfold txt
  rw [strOfNums_data, List.map_map]
  refine List.map_congr_left fun b _ => ?_
  show UInt8.ofNat (((48 + b : Nat) : Int)).toNat = _
  rw [Int.toNat_natCast]
theorem txt_add0 (bs : List Nat) : txt bs ++ { data := #[48] } = txt (bs ++ [0]) := by
  apply Go.WideShapes.bytes_inj
  rw [txt_data, List.map_append, ← txt_data, ByteArray.data_append, Array.toList_append]
  rfl
theorem txt_add1 (bs : List Nat) : txt bs ++ { data := #[49] } = txt (bs ++ [1]) := by
  apply Go.WideShapes.bytes_inj
  rw [txt_data, List.map_append, ← txt_data, ByteArray.data_append, Array.toList_append]
  rfl
theorem txt_take (bs : List Nat) (i : Nat) : (txt bs).extract 0 i = txt (bs.take i) := by
  apply Go.WideShapes.bytes_inj
  rw [txt_data, ByteArray.data_extract, Array.toList_extract, txt_data]
  simp [List.map_take]
theorem txt_at {bs : List Nat} (hb : ∀ b ∈ bs, b < 2) (k : Nat) (hk : k < (txt bs).size) : ((txt bs)[k].toNat : Int) = 48 + (bs.getD k 0 : Nat) := by
  have := (str_bw hb).at' k hk
  have e : (txt bs)[k] = (strOfNums (bs.map fun b => ((48 + b : Nat) : Int)))[k]'hk := rfl
  rw [e, this]
  omega
section
variable {w : World}
set_option maxHeartbeats 4000000 in
set_option maxRecDepth 100000 in
theorem plus30 (u : List Nat) (m : Nat) (hu : ∀ b ∈ u, b < 2) (hl : u.length + m ≤ 1000) : Calls Try.prog 30 #[.string (txt (u ++ 0 :: List.replicate m 1))] w fun e w' => e = .returned (.tuple #[.string (txt (u ++ 1 :: List.replicate m 0)), .bool true]) ∧ w = w' := by
  obtain ⟨n, Hn⟩ : ∃ n, Hid (u.length = n) := ⟨_, ⟨rfl⟩⟩
  rw [Hn.out] at hl
  have hbin : ∀ b ∈ u ++ 0 :: List.replicate m 1, b < 2 := fun b hb => by
    rcases List.mem_append.1 hb with h | h
    · exact hu b h
    · rcases List.mem_cons.1 h with rfl | h
      · omega
      · rw [List.eq_of_mem_replicate h]; omega
  have HA : Hid (∀ k (hk : k < (txt (u ++ 0 :: List.replicate m 1)).size), ((txt (u ++ 0 :: List.replicate m 1))[k].toNat : Int) = 48 + ((u ++ 0 :: List.replicate m 1).getD k 0 : Nat)) := ⟨fun k hk => txt_at hbin k hk⟩
  have hsz : (txt (u ++ 0 :: List.replicate m 1)).size = n + 1 + m := by rw [txt_size, List.length_append, List.length_cons, List.length_replicate, Hn.out]; omega
  have HT : Hid ((txt (u ++ 0 :: List.replicate m 1)).extract 0 n ++ { data := #[49] } = txt (u ++ [1])) := ⟨by
    rw [txt_take, ← txt_add1, List.take_append_of_le_length (by rw [Hn.out]; exact Nat.le_refl _), List.take_of_length_le (by rw [Hn.out]; exact Nat.le_refl _)]⟩
  have HG0 : Hid ((u ++ 0 :: List.replicate m 1).getD n 0 = 0) := ⟨by
    unfold List.getD
    rw [List.getElem?_append_right (by rw [Hn.out]; exact Nat.le_refl _), Hn.out, Nat.sub_self]; rfl⟩
  have HG1 : Hid (∀ t, t < m → (u ++ 0 :: List.replicate m 1).getD (n + 1 + t) 0 = 1) := ⟨fun t ht => by
    unfold List.getD
    rw [List.getElem?_append_right (by rw [Hn.out]; omega), Hn.out, show n + 1 + t - n = t + 1 by omega, List.getElem?_cons_succ, List.getElem?_replicate, if_pos ht]; rfl⟩
  obtain ⟨X, HX⟩ : ∃ X, Hid (txt (u ++ 0 :: List.replicate m 1) = X) := ⟨_, ⟨rfl⟩⟩
  rw [HX.out] at HA hsz HT ⊢
  clear hbin
  go_enter Try.func30, Try.ntmps30
  go_upto_region 2 with fail
  go_loopg [4] (m + 1) (fun gg s4 wr => ∃ j : Nat, j ≤ m ∧ m + 1 - j ≤ gg ∧ s4 = .int .i64 ((n + m - j : Nat) : Int) ∧ Hid (w = wr))
  case atStart => exact ⟨0, Nat.zero_le _, by omega, by go_num, ⟨rfl⟩⟩
  case round =>
    obtain ⟨j, hj, hgg, rfl, HW⟩ := hrel
    rename World => wo
    have hw := HW.out
    subst hw
    clear HW
    obtain ⟨i, Hi⟩ : ∃ i, Hid (n + m - j = i) := ⟨_, ⟨rfl⟩⟩
    have hi := Hi.out
    rw [Hi.out]
    have hiz : (0 : Int) ≤ (i : Int) := by omega
    have hks : i < X.size := by omega
    have hltz : (i : Int) < (X.size : Int) := by omega
    have hsk := HA.out i hks
    by_cases hjm : j = m
    · subst hjm
      obtain rfl : i = n := by omega
      rw [HG0.out] at hsk
      have hsk2 : (X[i].toNat : Int) = 48 := by omega
      have hnle : (i : Int) ≤ (X.size : Int) := by omega
      clear hsk hi
      go_upto_region 6 with fail
      rw [HT.out]
      go_loopg [5] (j + 1) (fun gg s5 wr => ∃ k : Nat, k ≤ j ∧ j + 1 - k ≤ gg ∧ s5 = .string (txt (u ++ 1 :: List.replicate k 0)) ∧ Hid (w = wr))
      case atStart => exact ⟨0, Nat.zero_le _, by omega, rfl, ⟨rfl⟩⟩
      case round =>
        obtain ⟨k, hk, hgg2, rfl, HW⟩ := hrel
        rename World => wo
        have hw := HW.out
        subst hw
        clear HW
        have hs5 : (txt (u ++ 1 :: List.replicate k 0)).size = i + 1 + k := by rw [txt_size, List.length_append, List.length_cons, List.length_replicate, Hn.out]; omega
        have HN : Hid (txt (u ++ 1 :: List.replicate k 0) ++ { data := #[48] } = txt (u ++ 1 :: List.replicate (k + 1) 0)) := ⟨by
          rw [txt_add0, List.replicate_succ', List.append_assoc]; rfl⟩
        obtain ⟨Y, HY⟩ : ∃ Y, Hid (txt (u ++ 1 :: List.replicate k 0) = Y) := ⟨_, ⟨rfl⟩⟩
        rw [HY.out] at hs5 HN ⊢
        by_cases hkj : k < j
        · have hz : (Y.size : Int) < (X.size : Int) := by omega
          go_wp2_with fail
          go_roundg (j + 1 - (k + 1))
          case measure => omega
          case rel => exact ⟨k + 1, by omega, by omega, by rw [HN.out], ⟨rfl⟩⟩
        · obtain rfl : k = j := by omega
          have hz : ¬ (Y.size : Int) < (X.size : Int) := by omega
          go_wp2_with fail
          go_ret2
          exact ⟨by rw [HY.out]; rfl, rfl⟩
    · have hg := HG1.out (m - 1 - j) (by omega)
      rw [show n + 1 + (m - 1 - j) = i by omega] at hg
      rw [hg] at hsk
      have hsk2 : (X[i].toNat : Int) = 49 := by omega
      have hnb : ((X[i].toNat : Int) == 48) = false := by rw [hsk2]; rfl
      clear hsk hg
      go_wp2_with fail
      go_roundg (m + 1 - (j + 1))
      case measure => omega
      case rel => exact ⟨j + 1, by omega, by omega, by go_num, ⟨rfl⟩⟩
end
end Go.Proofs.Ytfecngncapenjaa
