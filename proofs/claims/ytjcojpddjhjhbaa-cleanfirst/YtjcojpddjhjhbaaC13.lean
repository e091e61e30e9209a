/- The program's Copies. -/
import Derived.Test.YtjcojpddjhjhbaaC2
import Derived.Test.YtjcojpddjhjhbaaIntsD
namespace Go.Proofs.Ytjcojpddjhjhbaa
open Go.RowKit Go.Lib Go.Shelf

abbrev Sp := Int × Int
def sp2 (s : Sp) : List Value := [.int .i64 s.1, .int .i64 s.2]
def q0 : Sp := (0, 0)
theorem sp2_one (s : Sp) : (sp2 s).length = 2 ∧ ∀ u ∈ sp2 s, u.oneCell' = true := ⟨rfl, fun u hu => by simp [sp2] at hu; rcases hu with rfl | rfl <;> rfl⟩
/-- The slots of a container. -/
def slots (bin : Int) (L : List Sp) : List Int := (L.filter (fun s => decide (s.1 = bin))).map (·.2)
theorem slots_snoc {bin : Int} {L : List Sp} {i : Nat} (hi : i < L.length) : slots bin (L.take (i + 1)) = slots bin (L.take i) ++ (if (L.getD i q0).1 = bin then [(L.getD i q0).2] else []) := by
  unfold slots
  rw [List.take_add_one, List.getElem?_eq_getElem hi, List.filter_append, List.map_append]
  simp only [Option.toList_some, List.getD, List.getElem?_eq_getElem hi, Option.getD_some]
  by_cases h : L[i].1 = bin <;> simp [h]
theorem slots_mem {bin : Int} {L : List Sp} {y : Int} : y ∈ slots bin L ↔ (bin, y) ∈ L := by
  unfold slots
  simp only [List.mem_map, List.mem_filter, decide_eq_true_eq]
  constructor
  · rintro ⟨⟨a, b⟩, ⟨h1, h2⟩, h3⟩
    simp only at h2 h3
    subst h2 h3
    exact h1
  · intro h
    exact ⟨(bin, y), ⟨h, rfl⟩, rfl⟩
theorem slots_len (bin : Int) (L : List Sp) : (slots bin L).length ≤ L.length := by
  unfold slots
  rw [List.length_map]
  exact List.length_filter_le _ _
theorem nodup_len : ∀ (A B : List Int), A.Nodup → (∀ x ∈ A, x ∈ B) → A.length ≤ B.length
  | [], _, _, _ => Nat.zero_le _
  | x :: A, B, h, hm => by
    rw [List.nodup_cons] at h
    have hx := hm x (by simp)
    have := nodup_len A (B.erase x) h.2 (fun y hy => (List.mem_erase_of_ne (fun (e : y = x) => h.1 (by rw [← e]; exact hy))).2 (hm y (by simp [hy])))
    rw [List.length_erase_of_mem hx] at this
    have := List.length_pos_of_mem hx
    simp only [List.length_cons]
    omega
theorem up_len {A B : List Int} (h : A.Pairwise (· < ·)) (hm : ∀ x ∈ A, x ∈ B) : A.length ≤ B.length :=
  nodup_len A B (h.imp (fun h => by omega)) hm
section
variable {w : World}
set_option maxHeartbeats 8000000 in
set_option maxRecDepth 100000 in
theorem copies16 (bin : Int) (v : Value) (L : List Sp) (h : RdE sp2 2 q0 w v L) (hL : L.length ≤ 1000000000000) :
    Calls Try.prog 16 #[.int .i64 bin, v] w fun e w' => ∃ x, e = .returned x ∧ ∃ M, OwnI w' w.heap.size x M ∧ M.Pairwise (· < ·) ∧ (∀ y, y ∈ M ↔ (bin, y) ∈ L) ∧ M.length ≤ L.length ∧ Below w.heap.size w w' := by
  have H := Hid.mk h
  obtain ⟨a, c, rfl, hlc, hcm, _⟩ := h.shape
  obtain ⟨n, Hn⟩ : ∃ n, Hid (L.length = n) := ⟨_, ⟨rfl⟩⟩
  rw [Hn.out] at H hL hlc ⊢
  have hcx : c ≤ 9223372036854775807 := hcm
  have HTe : Hid (L.take n = L) := ⟨List.take_of_length_le (by rw [Hn.out]; exact Nat.le_refl _)⟩
  clear h
  go_enter Try.func16, Try.ntmps16
  go_wp2_with fail
  go_loopg [5, 7, 10] n (fun gg s5 _ s10 wr => ∃ i : Nat, i ≤ n ∧ n - i ≤ gg ∧ s10 = .int .i64 (i : Int) ∧ Hid (OwnI wr w.heap.size s5 (slots bin (L.take i))) ∧ Hid (Below w.heap.size w wr))
  case atStart => exact ⟨0, Nat.zero_le _, by omega, rfl, ⟨owni_nil _ _⟩, ⟨Below.refl _ _⟩⟩
  case round =>
    obtain ⟨i, hi, hgg, rfl, HO, HB⟩ := hrel
    rename World => wo
    obtain ⟨a1, k1, e1, _⟩ := HO.out.shape
    subst e1
    have hsl := slots_len bin (L.take i)
    rw [List.length_take] at hsl
    by_cases hlt : i < n
    · have hltz : (i : Int) < (n : Int) := by omega
      have hiL : i < L.length := by rw [Hn.out]; exact hlt
      obtain ⟨g, off, cap, e, hc⟩ := (H.out.far (Chg.ofBelow (X := []) HB.out) (by simp)).at' i hiL
      rw [Hn.out] at e
      simp at e
      obtain ⟨rfl, rfl⟩ := e
      have HSs := Hid.mk (slots_snoc (bin := bin) hiL)
      generalize L.getD i q0 = x at hc HSs
      obtain ⟨x1, x2⟩ := x
      have c0 := hc 0 (by decide)
      have c1 := hc 1 (by decide)
      clear hc
      simp [sp2] at c0 c1
      obtain ⟨SS, HSS⟩ : ∃ x, Hid (slots bin (L.take i) = x) := ⟨_, ⟨rfl⟩⟩
      rw [HSS.out] at HO HSs hsl ⊢
      obtain ⟨sn, Hsn⟩ : ∃ x, Hid (SS.length = x) := ⟨_, ⟨rfl⟩⟩
      rw [Hsn.out] at HO hsl ⊢
      obtain ⟨w3, Hw3⟩ : ∃ x, Hid (wo.alloc (.cells #[.int .i64 x1, .int .i64 x2] 46) = x) := ⟨_, ⟨rfl⟩⟩
      have HB3 : Hid (Below wo.heap.size wo w3) := ⟨by rw [← Hw3.out]; exact (Below.refl _ wo).alloc (Nat.le_refl _) _⟩
      have HS3 : Hid (w3.heap[wo.heap.size]? = some (.cells #[.int .i64 x1, .int .i64 x2] 46 (0, 0))) := ⟨by rw [← Hw3.out]; exact heap_alloc_new wo _⟩
      have HO3 : Hid (OwnI w3 w.heap.size (.slice a1 sn k1) SS) := ⟨own_far HO.out (Chg.ofBelow (X := []) HB3.out) (by simp)⟩
      have HB03 : Hid (Below w.heap.size w w3) := ⟨HB.out.trans (HB3.out.mono HB.out.size)⟩
      obtain ⟨q, Hq⟩ : ∃ x, Hid (wo.heap.size = x) := ⟨_, ⟨rfl⟩⟩
      rw [Hq.out] at HS3
      go_upto_region 5 with fail
      rw [Hw3.out, Hq.out]
      have d0 : w3.cell? ⟨q, 0, none⟩ = some (.int .i64 x1) := by rw [cell_of_row _ _ _ _ _ _ HS3.out]; rfl
      have d1 : w3.cell? ⟨q, 1, none⟩ = some (.int .i64 x2) := by rw [cell_of_row _ _ _ _ _ _ HS3.out]; rfl
      clear c0 c1 HO
      by_cases hx : x1 = bin
      · have HSn : Hid (slots bin (L.take (i + 1)) = SS ++ [x2]) := ⟨by rw [HSs.out]; simp [hx]⟩
        have hxb : (x1 == bin) = true := by simp [hx]
        have hl6 : SS.length ≤ 6000000000000 := by rw [Hsn.out]; omega
        have hb6 : w.heap.size ≤ w3.heap.size := HB03.out.size
        clear hx
        go_wp2_with (refine wp_appI1 rfl (.tmp 18) (.tmp 21) rfl rfl HO3.out rfl hl6 hb6 ?_; intro v7 w7 hO7 hG7 hV7)
        have HO7 : Hid (OwnI w7 w.heap.size v7 (slots bin (L.take (i + 1)))) := ⟨by rw [HSn.out]; exact hO7⟩
        have HG7 : Hid (Chg (ob (.slice a1 sn k1)) w3 w7) := ⟨hG7⟩
        have HB7 : Hid (Below w.heap.size w w7) := ⟨HB03.out.trans (HG7.out.below HB03.out.size (fun x hx => (HO3.out.lt x (mem_ob.1 hx)).1))⟩
        clear hO7 hG7 hV7
        go_roundg (n - (i + 1))
        case measure => omega
        case rel => exact ⟨i + 1, by omega, by omega, by go_num, HO7, HB7⟩
      · have HSn : Hid (slots bin (L.take (i + 1)) = SS) := ⟨by rw [HSs.out]; simp [hx]⟩
        have hxb : (x1 == bin) = false := by simp [hx]
        clear hx
        go_wp2_with fail
        go_roundg (n - (i + 1))
        case measure => omega
        case rel => exact ⟨i + 1, by omega, by omega, by go_num, ⟨by rw [HSn.out]; exact HO3.out⟩, HB03⟩
    · obtain rfl : n = i := by omega
      rw [HTe.out] at HO hsl ⊢
      have t6 := sorti_any HO.out (by omega)
      have Hown : Hid (∀ x ∈ ob (.slice a1 (slots bin L).length k1), w.heap.size ≤ x) := ⟨fun x hx => (HO.out.lt x (mem_ob.1 hx)).1⟩
      go_wp2_with fail
      refine t6.mono ?_
      rintro e w6 ⟨rfl, hO6, hG6⟩
      have HB6 : Hid (Below w.heap.size w w6) := ⟨HB.out.trans (hG6.below HB.out.size Hown.out)⟩
      have t7 := compacti_any hO6 (srt_sorted (slots bin L)) (by rw [srt_len]; omega)
      clear t6 hO6 hG6
      go_wp2_with fail
      refine t7.mono ?_
      rintro e w7 ⟨x, M, rfl, hR7, hU7, hM7, hC7, hI7⟩
      have HR7 := Hid.mk hR7
      have HU7 := Hid.mk hU7
      have HM7 : Hid (∀ y, y ∈ M ↔ (bin, y) ∈ L) := ⟨fun y => ((hM7 y).trans srt_mem).trans slots_mem⟩
      have HL7 : Hid (M.length ≤ n) := ⟨by
        have h1 := up_len hU7 (fun y hy => srt_mem.1 ((hM7 y).1 hy))
        omega⟩
      have HB7 : Hid (Below w.heap.size w w7) := ⟨HB6.out.trans (hC7.below HB6.out.size Hown.out)⟩
      clear t7 hR7 hU7 hM7 hC7 hI7
      go_wp2_with fail
      go_ret
      exact ⟨_, rfl, M, HR7.out, HU7.out, HM7.out, HL7.out, HB7.out⟩
end
end Go.Proofs.Ytjcojpddjhjhbaa
