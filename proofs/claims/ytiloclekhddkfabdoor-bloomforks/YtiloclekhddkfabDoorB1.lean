/- Package bloom's fits and word; the document's number. -/
import Derived.Test.YtiloclekhddkfabDoorSums
import Derived.Test.YtiloclekhddkfabDoorOctF
namespace Go.Proofs.YtiloclekhddkfabDoor
open Go.RowKit

/-- May there be a summary of so many bits and ways? -/
def ft (size ways : Int) : Bool := decide (1 ≤ size ∧ size ≤ 65536 ∧ 1 ≤ ways ∧ ways ≤ 8)
/-- The number of six bytes of a sum, from a place on. -/
def n6 (s : List Int) (i : Nat) : Nat := Oct.valB 0 ((s.drop i).take 6)
section
variable {w : World}
set_option maxHeartbeats 2000000 in
set_option maxRecDepth 100000 in
theorem fits_any (size ways : Int) : Calls Tryd.prog 26 #[.int .i64 size, .int .i64 ways] w fun e w' => e = .returned (.bool (ft size ways)) ∧ w = w' := by
  have HR : Hid (ft size ways = decide (1 ≤ size ∧ size ≤ 65536 ∧ 1 ≤ ways ∧ ways ≤ 8)) := ⟨rfl⟩
  generalize ft size ways = R at HR ⊢
  by_cases h0 : 1 ≤ size
  · by_cases h1 : size ≤ 65536
    · by_cases h2 : 1 ≤ ways
      · by_cases h3 : ways ≤ 8
        · go_enter Tryd.func26, Tryd.ntmps26
          go_wp2
          go_ret
          exact ⟨by rw [HR.out, decide_eq_true (by omega)]; rfl, rfl⟩
        · go_enter Tryd.func26, Tryd.ntmps26
          go_wp2
          go_ret
          exact ⟨by rw [HR.out, decide_eq_false (by omega)]; rfl, rfl⟩
      · go_enter Tryd.func26, Tryd.ntmps26
        go_wp2
        go_ret
        exact ⟨by rw [HR.out, decide_eq_false (by omega)]; rfl, rfl⟩
    · go_enter Tryd.func26, Tryd.ntmps26
      go_wp2
      go_ret
      exact ⟨by rw [HR.out, decide_eq_false (by omega)]; rfl, rfl⟩
  · go_enter Tryd.func26, Tryd.ntmps26
    go_wp2
    go_ret
    exact ⟨by rw [HR.out, decide_eq_false (by omega)]; rfl, rfl⟩
theorem n6_lt {s : List Int} (hs : Sum32 s) (i : Nat) : n6 s i ≤ 281474976710655 := by
  have h1 := fun (l : List Int) (a : Nat) (h : ∀ x ∈ l, 0 ≤ x ∧ x < 256) => Oct.valB_bound l h a
  have h2 := h1 ((s.drop i).take 6) 0 (fun x hx => hs.byte x (List.mem_of_mem_drop (List.mem_of_mem_take hx)))
  have h3 : ((s.drop i).take 6).length ≤ 6 := List.length_take_le _ _
  have h4 : 256 ^ ((s.drop i).take 6).length ≤ 256 ^ 6 := Nat.pow_le_pow_right (by decide) h3
  unfold n6
  omega
set_option maxHeartbeats 2000000 in
set_option maxRecDepth 100000 in
theorem word_any (s : List Int) (hs : Sum32 s) (i : Nat) (hi : i ≤ 1) : Calls Tryd.prog 39 #[.agg (sc s).toArray, .int .i64 (i : Int)] w fun e w' => e = .returned (.int .i64 (n6 s (i * 6))) ∧ Below w.heap.size w w' := by
  have hbox := run_boxS
  have HB : Hid (Below w.heap.size w (w.alloc (.cells (sc s).toArray 22))) := ⟨(Below.refl _ w).alloc (Nat.le_refl _) _⟩
  have hat : At (w.alloc (.cells (sc s).toArray 22)) w.heap.size 0 (sc s) := At.row (heap_alloc_new w _)
  have t := Oct.takeFixed_any (.slice (some ⟨w.heap.size, 0, none⟩) 32 32) s ((i * 6 : Nat) : Int) 6 (w.alloc (.cells (sc s).toArray 22)) ⟨some ⟨w.heap.size, 0, none⟩, 32, by rw [hs.len], by rw [hs.len]; exact Nat.le_refl _, by decide, fun h => (by cases h), fun x hx j hj => by
    cases hx
    rw [Oct.add_plain]
    exact hat j _ (sc_get s hj)⟩ hs.byte
  have e : Oct.tkFix s ((i * 6 : Nat) : Int) 6 = ((n6 s (i * 6) : Int), ((i * 6 : Nat) : Int) + 6, 0) := by
    have hl := hs.len
    have h6 := n6_lt hs (i * 6)
    unfold n6 at h6
    unfold Oct.tkFix n6
    rw [if_neg (by omega), if_neg (by omega), if_neg (by simp only [Int.toNat_natCast]; show ¬ 9007199254740991 < Oct.valB 0 ((s.drop (i * 6)).take 6); omega)]
    rfl
  rw [e] at t
  simp only at t
  generalize n6 s (i * 6) = N at t ⊢
  obtain ⟨cs, Hcs⟩ : ∃ cs, Hid ((sc s).toArray = cs) := ⟨_, ⟨rfl⟩⟩
  rw [Hcs.out] at t HB ⊢
  have hsz : cs.size = 32 := by rw [← Hcs.out, List.size_toArray, sc_len, hs.len]
  clear e hat
  rcases (show i = 0 ∨ i = 1 by omega) with rfl | rfl
  · go_enter Tryd.func39, Tryd.ntmps39
    go_wp2_with (go_at_call 42; refine t.mono ?_; rintro e w' ⟨rfl, rfl⟩)
    go_ret
    exact ⟨rfl, HB.out⟩
  · go_enter Tryd.func39, Tryd.ntmps39
    go_wp2_with (go_at_call 42; refine t.mono ?_; rintro e w' ⟨rfl, rfl⟩)
    go_ret
    exact ⟨rfl, HB.out⟩
theorem n6_snoc (s : List Int) (hs : Sum32 s) (i k : Nat) (hk : k < 6) (hi : i ≤ 6) : Oct.valB 0 ((s.drop i).take (k + 1)) = 256 * Oct.valB 0 ((s.drop i).take k) + (s.getD (i + k) 0).toNat := by
  have hl : k < (s.drop i).length := by rw [List.length_drop, hs.len]; omega
  have h1 : ∀ (l : List Int) (a : Nat) (x : Int), Oct.valB a (l ++ [x]) = Oct.valB a l * 256 + x.toNat := by
    intro l
    induction l with
    | nil => intro a x; simp [Oct.valB]
    | cons y l ih => intro a x; simp [Oct.valB, ih]
  have h2 : (s.drop i).getD k 0 = s.getD (i + k) 0 := by simp only [List.getD, List.getElem?_drop]
  rw [Oct.take_snoc _ k hl, h1, h2]
  omega
set_option maxHeartbeats 2000000 in
set_option maxRecDepth 100000 in
theorem number_any (s : List Int) (hs : Sum32 s) (i : Nat) (hi : i ≤ 6) : Calls Tryd.prog 29 #[.agg (sc s).toArray, .int .i64 (i : Int)] w fun e w' => e = .returned (.int .i64 (n6 s i)) ∧ Below w.heap.size w w' := by
  have hbox := run_boxS
  have HB : Hid (Below w.heap.size w (w.alloc (.cells (sc s).toArray 22))) := ⟨(Below.refl _ w).alloc (Nat.le_refl _) _⟩
  have Hat : Hid (At (w.alloc (.cells (sc s).toArray 22)) w.heap.size 0 (sc s)) := ⟨At.row (heap_alloc_new w _)⟩
  have Hs := Hid.mk hs
  obtain ⟨cs, Hcs⟩ : ∃ cs, Hid ((sc s).toArray = cs) := ⟨_, ⟨rfl⟩⟩
  rw [Hcs.out] at HB Hat ⊢
  obtain ⟨w1, Hw1⟩ : ∃ w1, Hid (w.alloc (.cells cs 22) = w1) := ⟨_, ⟨rfl⟩⟩
  rw [Hw1.out] at HB Hat
  obtain ⟨p, Hp⟩ : ∃ p, Hid (w.heap.size = p) := ⟨_, ⟨rfl⟩⟩
  rw [Hp.out] at Hat
  have hi6 : IntKind.i64.wrap ((i : Int) + 6) = (i : Int) + 6 := IntWalk.i64_in _ ⟨by omega, by omega⟩
  clear hs
  go_enter Tryd.func29, Tryd.ntmps29
  go_upto_region 1 with fail
  rw [Hw1.out, Hp.out]
  go_wp2_with fail
  go_loopg [5, 6] 6 (fun gg s5 s6 wr => ∃ k N : Nat, k ≤ 6 ∧ 6 - k ≤ gg ∧ s6 = .int .i64 ((i + k : Nat) : Int) ∧ s5 = .int .i64 (N : Int) ∧ Hid (Oct.valB 0 ((s.drop i).take k) = N) ∧ w1 = wr)
  case atStart => exact ⟨0, 0, Nat.zero_le _, by omega, rfl, rfl, ⟨by simp [Oct.valB]⟩, rfl⟩
  case round =>
    obtain ⟨k, N, hk, hgg, rfl, rfl, HN, rfl⟩ := hrel
    obtain ⟨j, Hj⟩ : ∃ j, Hid (i + k = j) := ⟨_, ⟨rfl⟩⟩
    rw [Hj.out]
    by_cases hlt : k < 6
    · have hjz : (j : Int) < (i : Int) + 6 := by rw [← Hj.out]; omega
      have hj32 : j < 32 := by rw [← Hj.out]; omega
      have hj32z : (j : Int) < 32 := by omega
      have HNs := Hid.mk (n6_snoc s Hs.out i k hlt hi)
      rw [HN.out, Hj.out] at HNs
      have hby := Hs.out.byte (s.getD j 0) (by
        have hl : j < s.length := by rw [Hs.out.len]; exact hj32
        simp only [List.getD, List.getElem?_eq_getElem hl, Option.getD_some]
        exact List.getElem_mem hl)
      have hc := Hat.out j _ (sc_get s (by rw [Hs.out.len]; exact hj32))
      rw [Nat.zero_add] at hc
      have hNb : N ≤ 1099511627775 := by
        have h6 := n6_lt Hs.out i
        rw [← HN.out]
        have h1 := fun (l : List Int) (a : Nat) (h : ∀ x ∈ l, 0 ≤ x ∧ x < 256) => Oct.valB_bound l h a
        have h2 := h1 ((s.drop i).take k) 0 (fun x hx => Hs.out.byte x (List.mem_of_mem_drop (List.mem_of_mem_take hx)))
        have h3 : ((s.drop i).take k).length ≤ 5 := Nat.le_trans (List.length_take_le _ _) (by omega)
        have h4 : 256 ^ ((s.drop i).take k).length ≤ 256 ^ 5 := Nat.pow_le_pow_right (by decide) h3
        omega
      generalize s.getD j 0 = y at hc hby HNs
      obtain ⟨y, rfl⟩ := Int.eq_ofNat_of_zero_le hby.1
      obtain ⟨M, HM⟩ : ∃ M, Hid (256 * N + y = M) := ⟨_, ⟨rfl⟩⟩
      have hNs : (256 : Int) * (N : Int) + (y : Int) = (M : Int) := by rw [← HM.out]; omega
      have hMw : IntKind.i64.wrap (M : Int) = (M : Int) := IntWalk.i64_in _ ⟨by omega, by rw [← HM.out]; omega⟩
      go_wp2_with fail
      go_roundg (6 - (k + 1))
      case measure => omega
      case rel => exact ⟨k + 1, M, by omega, by omega, by rw [show i + (k + 1) = j + 1 by rw [← Hj.out]; omega]; go_num, rfl, ⟨by rw [HNs.out, ← HM.out]; rfl⟩, rfl⟩
    · obtain rfl : k = 6 := by omega
      have hjz : ¬ (j : Int) < (i : Int) + 6 := by rw [← Hj.out]; omega
      have HNe : Hid (n6 s i = N) := ⟨HN.out⟩
      go_wp2_with fail
      go_ret
      exact ⟨by rw [HNe.out]; rfl, by rw [Hp.out]; exact (by have := HB.out; rw [Hp.out] at this; exact this)⟩
end
end Go.Proofs.YtiloclekhddkfabDoor
