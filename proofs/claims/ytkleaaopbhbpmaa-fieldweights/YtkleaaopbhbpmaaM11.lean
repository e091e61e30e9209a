/- The document's Weights. -/
import Derived.Test.YtkleaaopbhbpmaaM10
namespace Go.Proofs.Ytkleaaopbhbpmaa
open Go.RowKit Gf

theorem nodup_of {l : List G} {n : Nat} (hn : l.length = n) (h : ∀ i, i < n → ∀ k, k < i → l.getD i 0 ≠ l.getD k 0) : l.Nodup := by
  rw [List.nodup_iff_pairwise_ne, List.pairwise_iff_getElem]
  intro i j hi hj hij e
  refine h j (by omega) i hij ?_
  simp [List.getD, List.getElem?_eq_getElem hi, List.getElem?_eq_getElem hj, e]
section
variable {w : World}
set_option maxHeartbeats 400000 in
set_option maxRecDepth 100000 in
theorem rweights_many (x : G) (v : Value) (l : List G) (hv : RdG w v l) (hn : 256 < l.length) :
    Calls Try.prog 22 #[v, .int .u8 (gi x)] w fun e w' => e = .returned (.tuple #[.slice none 0 0, .int .i64 6]) ∧ w = w' := by
  obtain ⟨sa, sc, rfl, h1, h2, _⟩ := hv.shape
  generalize l.length = n at hn h1
  have h2' : sc ≤ 9223372036854775807 := h2
  clear h2 hv
  go_enter Try.func22, Try.ntmps22
  go_wp2_with fail
  go_ret2
  exact ⟨rfl, rfl⟩
set_option maxHeartbeats 8000000 in
set_option maxRecDepth 100000 in
theorem rweights22 (x : G) (v : Value) (l : List G) (hv : RdG w v l) (hn : l.length ≤ 256) :
    Calls Try.prog 22 #[v, .int .u8 (gi x)] w fun e w' => ∃ v' c, e = .returned (.tuple #[v', .int .i64 c]) ∧ WRes w w' l x v' c ∧ Below w.heap.size w w' := by
  obtain ⟨sa, sc, rfl, h1, h2, _⟩ := hv.shape
  have HV := Hid.mk hv
  obtain ⟨n, Hn⟩ : ∃ n, Hid (l.length = n) := ⟨_, ⟨rfl⟩⟩
  rw [Hn.out] at hn h1 HV ⊢
  clear h2 hv
  go_enter Try.func22, Try.ntmps22
  go_upto_region 4 with fail
  go_loopg [6, 7] n (fun gg s6 _ wr => ∃ i : Nat, i ≤ n ∧ n - i ≤ gg ∧ s6 = .int .i64 (i : Int) ∧ Hid (∀ j, j < i → ∀ k, k < j → l.getD j 0 ≠ l.getD k 0) ∧ Hid (Below w.heap.size w wr))
  case atStart => exact ⟨0, Nat.zero_le _, by omega, rfl, ⟨fun j hj => by omega⟩, ⟨Below.refl _ _⟩⟩
  case round =>
    obtain ⟨i, hi, hgg, rfl, HZ, HB⟩ := hrel
    rename World => wo
    by_cases hlt : i < n
    · have hltz : (i : Int) < (n : Int) := by omega
      have hiL : i < l.length := by rw [Hn.out]; exact hlt
      go_upto_region 7 with fail
      go_loopg [7] i (fun gg2 s7 wr => ∃ k : Nat, k ≤ i ∧ i - k ≤ gg2 ∧ s7 = .int .i64 (k : Int) ∧ Hid (∀ j, j < k → l.getD i 0 ≠ l.getD j 0) ∧ Hid (Below w.heap.size w wr))
      case atStart => exact ⟨0, Nat.zero_le _, by omega, rfl, ⟨fun j hj => by omega⟩, HB⟩
      case round =>
        clear HB
        obtain ⟨k, hk, hgg2, rfl, HK, HB⟩ := hrel
        rename World => wk
        by_cases hki : k < i
        · have hkiz : (k : Int) < (i : Int) := by omega
          have hknz : (k : Int) < (n : Int) := by omega
          have hkL : k < l.length := by rw [Hn.out]; omega
          obtain ⟨g, off, cap, e, _, hc⟩ := (HV.out.far (Chg.ofBelow (X := []) HB.out) (by simp)).at hiL
          rw [Hn.out] at e
          simp at e
          obtain ⟨rfl, rfl⟩ := e
          have c1 := hc i hiL
          have c2 := hc k hkL
          have t := gi_eq (l.getD i 0) (l.getD k 0)
          by_cases he : l.getD i 0 = l.getD k 0
          · have HD : Hid (¬ l.Nodup) := ⟨fun hd => getD_ne hd hiL hkL (by omega) he⟩
            rw [decide_eq_true he] at t
            generalize gi (l.getD i 0) = y1 at c1 t
            generalize gi (l.getD k 0) = y2 at c2 t
            clear he hc
            go_upto_region 9 with fail
            go_quiet (fail)
            go_wp2_with fail
            go_ret2
            exact ⟨_, _, rfl, .inr ⟨HD.out, rfl, rfl⟩, below_drewN HB.out nq⟩
          · have HK' : Hid (∀ j, j < k + 1 → l.getD i 0 ≠ l.getD j 0) := ⟨fun j hj => by
              by_cases hjk : j = k
              · rw [hjk]; exact he
              · exact HK.out j (by omega)⟩
            rw [decide_eq_false he] at t
            generalize gi (l.getD i 0) = y1 at c1 t
            generalize gi (l.getD k 0) = y2 at c2 t
            clear he hc
            go_upto_region 9 with fail
            go_quiet (fail)
            go_wp2_with fail
            go_roundg (i - (k + 1))
            case measure => omega
            case rel => exact ⟨k + 1, by omega, by omega, by go_num, HK', ⟨below_drewN HB.out nq⟩⟩
        · obtain rfl : i = k := by omega
          have HZ' : Hid (∀ j, j < i + 1 → ∀ k, k < j → l.getD j 0 ≠ l.getD k 0) := ⟨fun j hj k hk => by
            by_cases hji : j = i
            · rw [hji]; exact HK.out k (by omega)
            · exact HZ.out j (by omega) k hk⟩
          go_wp2_with fail
          go_roundg (n - (i + 1))
          case measure => omega
          case rel => exact ⟨i + 1, by omega, by omega, by go_num, HZ', HB⟩
    · obtain rfl : n = i := by omega
      have HD : Hid l.Nodup := ⟨nodup_of Hn.out HZ.out⟩
      obtain ⟨w1, Hw1⟩ : ∃ y, Hid (wo.alloc (.cells #[] 5) = y) := ⟨_, ⟨rfl⟩⟩
      have HB1 : Hid (Below w.heap.size w w1) := ⟨by rw [← Hw1.out]; exact HB.out.alloc HB.out.size _⟩
      have HO1 : Hid (OwnG w1 w.heap.size (.slice (some ⟨wo.heap.size, 0, none⟩) 0 0) (wtsU l x 0)) := ⟨by
        rw [← Hw1.out]
        exact own_base (owny_none wo) (fun g hg => by simp [Value.ownBlock] at hg; subst hg; exact HB.out.size)⟩
      clear HZ
      go_upto_region 13 with fail
      rw [Hw1.out]
      clear HB
      go_loopg [8, 9, 10, 11] n (fun gg s8 s9 _ _ wr => ∃ i : Nat, i ≤ n ∧ n - i ≤ gg ∧ s9 = .int .i64 (i : Int) ∧ Hid (OwnG wr w.heap.size s8 (wtsU l x i)) ∧ Hid (Below w.heap.size w wr))
      case atStart => exact ⟨0, Nat.zero_le _, by omega, rfl, HO1, HB1⟩
      case round =>
        clear HO1 HB1
        obtain ⟨i, hi, hgg, rfl, HO, HB⟩ := hrel
        rename World => wi
        obtain ⟨a8, c8, e8, _⟩ := HO.out.rd.shape
        subst e8
        obtain ⟨sn, Hsn⟩ : ∃ r, Hid ((wtsU l x i).length = r) := ⟨_, ⟨rfl⟩⟩
        rw [Hsn.out] at HO ⊢
        by_cases hlt : i < n
        · have hltz : (i : Int) < (n : Int) := by omega
          have hiL : i < l.length := by rw [Hn.out]; exact hlt
          go_upto_region 17 with fail
          go_loopg [10, 11] n (fun gg2 s10 s11 wr => ∃ k : Nat, k ≤ n ∧ n - k ≤ gg2 ∧ s11 = .int .i64 (k : Int) ∧ s10 = .int .u8 (gi (wg l i x k)) ∧ Hid (OwnG wr w.heap.size (.slice a8 sn c8) (wtsU l x i)) ∧ Hid (Below w.heap.size w wr))
          case atStart => exact ⟨0, Nat.zero_le _, by omega, rfl, rfl, HO, HB⟩
          case round =>
            clear HO HB
            obtain ⟨k, hk, hgg2, rfl, rfl, HO, HB⟩ := hrel
            rename World => wk
            by_cases hkn : k < n
            · have hknz : (k : Int) < (n : Int) := by omega
              have hkL : k < l.length := by rw [Hn.out]; omega
              obtain ⟨g, off, cap, e, _, hc⟩ := (HV.out.far (Chg.ofBelow (X := []) HB.out) (by simp)).at hiL
              rw [Hn.out] at e
              simp at e
              obtain ⟨rfl, rfl⟩ := e
              have c1 := hc i hiL
              have c2 := hc k hkL
              have HG : Hid (wg l i x (k + 1) = if k = i then wg l i x k else wg l i x k * ((x + l.getD k 0) * inv (l.getD i 0 + l.getD k 0))) := ⟨rfl⟩
              generalize wg l i x k = W at HG ⊢
              by_cases hki : k = i
              · have hb : ((k : Int) == (i : Int)) = true := by simp [hki]
                have hb2 : ((k : Int) != (i : Int)) = false := by simp [hki]
                rw [if_pos hki] at HG
                clear hc hki
                go_wp2_with fail
                go_roundg (n - (k + 1))
                case measure => omega
                case rel => exact ⟨k + 1, by omega, by omega, by go_num, by rw [HG.out], HO, HB⟩
              · have hb : ((k : Int) == (i : Int)) = false := by simp; omega
                have hb2 : ((k : Int) != (i : Int)) = true := by simp; omega
                rw [if_neg hki] at HG
                generalize l.getD k 0 = y at c2 HG
                generalize l.getD i 0 = z at c1 HG
                have x1 := gi_xor x y
                have x2 := gi_xor z y
                clear hc hki
                go_upto_region 20 with fail
                go_quiet ((first | (go_at_call 11; exact Calls.quiet_of_same (rinv11q _ _)) | (go_at_call 10; exact Calls.quiet_of_same (rmul10q _ _ _))))
                go_wp2_with fail
                go_roundg (n - (k + 1))
                case measure => omega
                case rel => exact ⟨k + 1, by omega, by omega, by go_num, by rw [HG.out], ⟨HO.out.far (Chg.ofBelow (X := []) (below_drewN (Below.refl _ wk) nq)) (by simp)⟩, ⟨below_drewN HB.out nq⟩⟩
            · obtain rfl : n = k := by omega
              have HS : Hid (wtsU l x (i + 1) = wtsU l x i ++ [wg l i x n]) := ⟨by rw [wtsU_succ, ← wg_wq, Hn.out]⟩
              have hl5 : (wtsU l x i).length ≤ 1000000000000 := by rw [wtsU_len]; omega
              have hz5 : w.heap.size ≤ wk.heap.size := HB.out.size
              generalize wg l i x n = W at HS ⊢
              go_wp2_with (refine wp_appG1 rfl (.tmp 70) (.tmp 72) rfl rfl HO.out rfl hl5 hz5 ?_; intro v7 w7 hO7 hG7 hV7)
              have HO7 : Hid (OwnG w7 w.heap.size v7 (wtsU l x (i + 1))) := ⟨by rw [HS.out]; exact hO7⟩
              have HB7 : Hid (Below w.heap.size w w7) := ⟨HB.out.trans (hG7.below HB.out.size (fun x hx => (HO.out.lt x hx).1))⟩
              clear hO7 hG7 hV7
              go_roundg (n - (i + 1))
              case measure => omega
              case rel => exact ⟨i + 1, by omega, by omega, by go_num, HO7, HB7⟩
        · obtain rfl : n = i := by omega
          go_wp2_with fail
          go_ret2
          refine ⟨_, _, rfl, .inl ⟨HD.out, rfl, ?_⟩, HB.out⟩
          rw [show wts l x = wtsU l x n by rw [← Hn.out]; rfl]
          exact HO.out
end
end Go.Proofs.Ytkleaaopbhbpmaa
