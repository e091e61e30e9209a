/- The table of the lengths: takeTable. -/
import Derived.Test.YtfecngncapenjaaC5
namespace Go.Proofs.Ytfecngncapenjaa
open Go.RowKit Oct

/-- The table at a place. -/
def tkTable (b : List Int) (a : Nat) (size : Nat) : List Int × Int × Int :=
  if (tkNum b a).2.2 = 0 then (if 256 < (tkNum b a).1 ∨ ((tkNum b a).1 = 0 ∧ size ≠ 0) ∨ ((tkNum b a).1 ≠ 0 ∧ size = 0) then (z0, 0, 4) else tkRows b (tkNum b a).1.toNat (tkNum b a).2.1.toNat (-1) z0) else (z0, 0, (tkNum b a).2.2)
theorem tkRows_len (b : List Int) : ∀ (c a : Nat) (last : Int) (f : List Int), f.length = 256 → (tkRows b c a last f).1.length = 256
  | 0, _, _, _, h => h
  | c + 1, a, last, f, h => by
    rw [tkRows]
    by_cases h0 : (tkRow (b.drop a) last).2.2 = 0
    · rw [if_pos h0]; exact tkRows_len b c _ _ _ (by rw [List.length_set]; exact h)
    · rw [if_neg h0]; exact z0_len
section
variable {w : World}
set_option maxHeartbeats 4000000 in
set_option maxRecDepth 100000 in
theorem table36 (g off n cap : Nat) (b : List Int) (at' size : Nat) (hv : RdY w (.slice (some ⟨g, off, none⟩) n cap) b) (hn : b.length = n) (hb : By b) :
    Calls Try.prog 36 #[.slice (some ⟨g, off, none⟩) n cap, .int .i64 (at' : Int), .int .i64 (size : Int)] w fun e w' => e = .returned (.tuple #[.agg (ia (tkTable b at' size).1), .int .i64 (tkTable b at' size).2.1, .int .i64 (tkTable b at' size).2.2]) ∧ Below w.heap.size w w' := by
  obtain ⟨T, HT⟩ : ∃ T, Hid (tkTable b at' size = T) := ⟨_, ⟨rfl⟩⟩
  rw [HT.out]
  obtain ⟨q, Hq⟩ : ∃ q, Hid (w.heap.size = q) := ⟨_, ⟨rfl⟩⟩
  obtain ⟨w1, Hw1⟩ : ∃ x, Hid (w.alloc (.cells (ia z0) 22) = x) := ⟨_, ⟨rfl⟩⟩
  have HB1 : Hid (Below w.heap.size w w1) := ⟨by rw [← Hw1.out]; exact (Below.refl _ w).alloc (Nat.le_refl _) _⟩
  have HX1 : Hid (w1.heap[q]? = some (.cells (ia z0) 22 (0, 0))) := ⟨by rw [← Hw1.out, ← Hq.out]; exact heap_alloc_new w _⟩
  have HV1 : Hid (RdY w1 (.slice (some ⟨g, off, none⟩) n cap) b) := ⟨Rd.far hv (Chg.ofBelow (X := []) HB1.out) (by simp)⟩
  have t1 := takeNum_any (.slice (some ⟨g, off, none⟩) n cap) b (at' : Int) w1 (rdy_bs HV1.out) hb
  have HTd : Hid (T = tkTable b at' size) := ⟨HT.out.symm⟩
  have HBy := Hid.mk hb
  have HN := Hid.mk hn
  have HZ0 : Hid (z0.length = 256) := ⟨z0_len⟩
  have HOk : Hid ((tkNum b at').2.2 = 0 → (0 ≤ (tkNum b at').1 ∧ 0 ≤ (tkNum b at').2.1 ∧ (tkNum b at').2.1 ≤ n)) := ⟨fun h => by
    have := tkNum_ok b _ hb h
    omega⟩
  unfold tkTable at HTd
  clear hv hb hn
  generalize tkNum b at' = K at t1 HTd HOk
  obtain ⟨k1, k2, k3⟩ := K
  simp only at HTd HOk t1
  by_cases h0 : k3 = 0
  · subst h0
    obtain ⟨hk1, hk2, hk3⟩ := HOk.out rfl
    obtain ⟨c, rfl⟩ := Int.eq_ofNat_of_zero_le hk1
    obtain ⟨a, rfl⟩ := Int.eq_ofNat_of_zero_le hk2
    have han : a ≤ n := by omega
    clear hk1 hk2 hk3 HOk
    by_cases h1 : 256 < c
    · have hz : (256 : Int) < (c : Int) := by omega
      have hT : T = (z0, 0, 4) := by rw [HTd.out, if_pos rfl, if_pos (by omega)]
      clear HTd
      go_enter Try.func36, Try.ntmps36
      go_wp2_with (first | (refine wp_new22 rfl rfl ?_; rw [Hw1.out]))
      refine t1.mono ?_
      rintro e w2 ⟨rfl, rfl⟩
      rw [Hq.out]
      go_wp2_with (first | (refine wp_zero22 rfl rfl ?_) | (refine wp_put22 (f := z0) (g := z0) rfl (.tmp 6) (.tmp 31) rfl rfl rfl HZ0.out HZ0.out HX1.out ?_))
      (try simp only [Exit.inBlock, Exit.then])
      refine bodyPost_ret (results_ctt rfl _ _ rfl (load22 HZ0.out (setRow_heap w1 q (ia z0) _ 22 (0, 0) HX1.out))) rfl ?_
      first | rw [hT] | skip
      exact ⟨rfl, below_setRow HB1.out (by rw [Hq.out]; exact Nat.le_refl q) _⟩
    · have hz : ¬ (256 : Int) < (c : Int) := by omega
      by_cases h2 : c = 0
      · by_cases h3 : size = 0
        · have hT : T = tkRows b c a (-1) z0 := by rw [HTd.out, if_pos rfl, if_neg (by omega)]; simp
          clear HTd
          subst h2 h3
          have t2 := rows46 (w := w1) g off n cap b a 0 HV1.out HN.out HBy.out han (by omega)
          obtain ⟨K, HK⟩ : ∃ K, Hid (tkRows b 0 a (-1) z0 = K) := ⟨_, ⟨rfl⟩⟩
          have HKl : Hid (K.1.length = 256) := ⟨by rw [← HK.out]; exact tkRows_len b 0 a (-1) z0 HZ0.out⟩
          rw [HK.out] at t2 hT
          obtain ⟨f, x2, x3⟩ := K
          simp only at HKl t2
          go_enter Try.func36, Try.ntmps36
          go_wp2_with (first | (refine wp_new22 rfl rfl ?_; rw [Hw1.out]))
          refine t1.mono ?_
          rintro e w2 ⟨rfl, rfl⟩
          rw [Hq.out]
          go_wp2_with fail
          refine t2.mono ?_
          rintro e w3 ⟨rfl, hb3⟩
          have HB3 : Hid (Below w.heap.size w w3) := ⟨HB1.out.trans (hb3.mono HB1.out.size)⟩
          have HX3 : Hid (w3.heap[q]? = some (.cells (ia z0) 22 (0, 0))) := ⟨(hb3.block q (Array.getElem?_eq_some_iff.1 HX1.out).1).trans HX1.out⟩
          clear t2 hb3
          go_wp2_with (first | (refine wp_put22 (f := z0) (g := f) rfl (.tmp 6) (.tmp 36) rfl rfl rfl HZ0.out HKl.out HX3.out ?_))
          (try simp only [Exit.inBlock, Exit.then])
          refine bodyPost_ret (results_ctt rfl _ _ rfl (load22 HKl.out (setRow_heap w3 q (ia z0) _ 22 (0, 0) HX3.out))) rfl ?_
          first | rw [hT] | skip
          exact ⟨rfl, below_setRow HB3.out (by rw [Hq.out]; exact Nat.le_refl q) _⟩
        · have hT : T = (z0, 0, 4) := by rw [HTd.out, if_pos rfl, if_pos (by omega)]
          have h3' : ((size : Int) == 0) = false := by simpa using h3
          clear HTd
          subst h2
          go_enter Try.func36, Try.ntmps36
          go_wp2_with (first | (refine wp_new22 rfl rfl ?_; rw [Hw1.out]))
          refine t1.mono ?_
          rintro e w2 ⟨rfl, rfl⟩
          rw [Hq.out]
          go_wp2_with (first | (refine wp_zero22 rfl rfl ?_) | (refine wp_put22 (f := z0) (g := z0) rfl (.tmp 6) (.tmp 31) rfl rfl rfl HZ0.out HZ0.out HX1.out ?_))
          (try simp only [Exit.inBlock, Exit.then])
          refine bodyPost_ret (results_ctt rfl _ _ rfl (load22 HZ0.out (setRow_heap w1 q (ia z0) _ 22 (0, 0) HX1.out))) rfl ?_
          first | rw [hT] | skip
          exact ⟨rfl, below_setRow HB1.out (by rw [Hq.out]; exact Nat.le_refl q) _⟩
      · have h2' : ((c : Int) == 0) = false := by simpa using h2
        have hz' : decide ((256 : Int) < (c : Int)) = false := decide_eq_false hz
        by_cases h3 : size = 0
        · have hT : T = (z0, 0, 4) := by rw [HTd.out, if_pos rfl, if_pos (by omega)]
          clear HTd
          subst h3
          go_enter Try.func36, Try.ntmps36
          go_wp2_with (first | (refine wp_new22 rfl rfl ?_; rw [Hw1.out]))
          refine t1.mono ?_
          rintro e w2 ⟨rfl, rfl⟩
          rw [Hq.out]
          go_wp2_with (first | (refine wp_zero22 rfl rfl ?_) | (refine wp_put22 (f := z0) (g := z0) rfl (.tmp 6) (.tmp 31) rfl rfl rfl HZ0.out HZ0.out HX1.out ?_))
          (try simp only [Exit.inBlock, Exit.then])
          refine bodyPost_ret (results_ctt rfl _ _ rfl (load22 HZ0.out (setRow_heap w1 q (ia z0) _ 22 (0, 0) HX1.out))) rfl ?_
          first | rw [hT] | skip
          exact ⟨rfl, below_setRow HB1.out (by rw [Hq.out]; exact Nat.le_refl q) _⟩
        · have hT : T = tkRows b c a (-1) z0 := by rw [HTd.out, if_pos rfl, if_neg (by omega)]; simp
          have h3' : ((size : Int) == 0) = false := by simpa using h3
          clear HTd
          have t2 := rows46 (w := w1) g off n cap b a c HV1.out HN.out HBy.out han (by omega)
          obtain ⟨K, HK⟩ : ∃ K, Hid (tkRows b c a (-1) z0 = K) := ⟨_, ⟨rfl⟩⟩
          have HKl : Hid (K.1.length = 256) := ⟨by rw [← HK.out]; exact tkRows_len b c a (-1) z0 HZ0.out⟩
          rw [HK.out] at t2 hT
          obtain ⟨f, x2, x3⟩ := K
          simp only at HKl t2
          go_enter Try.func36, Try.ntmps36
          go_wp2_with (first | (refine wp_new22 rfl rfl ?_; rw [Hw1.out]))
          refine t1.mono ?_
          rintro e w2 ⟨rfl, rfl⟩
          rw [Hq.out]
          go_wp2_with fail
          refine t2.mono ?_
          rintro e w3 ⟨rfl, hb3⟩
          have HB3 : Hid (Below w.heap.size w w3) := ⟨HB1.out.trans (hb3.mono HB1.out.size)⟩
          have HX3 : Hid (w3.heap[q]? = some (.cells (ia z0) 22 (0, 0))) := ⟨(hb3.block q (Array.getElem?_eq_some_iff.1 HX1.out).1).trans HX1.out⟩
          clear t2 hb3
          go_wp2_with (first | (refine wp_put22 (f := z0) (g := f) rfl (.tmp 6) (.tmp 36) rfl rfl rfl HZ0.out HKl.out HX3.out ?_))
          (try simp only [Exit.inBlock, Exit.then])
          refine bodyPost_ret (results_ctt rfl _ _ rfl (load22 HKl.out (setRow_heap w3 q (ia z0) _ 22 (0, 0) HX3.out))) rfl ?_
          first | rw [hT] | skip
          exact ⟨rfl, below_setRow HB3.out (by rw [Hq.out]; exact Nat.le_refl q) _⟩
  · have hT : T = (z0, 0, k3) := by rw [HTd.out, if_neg h0]
    have h0' : (k3 != 0) = true := by simpa using h0
    clear HTd HOk
    go_enter Try.func36, Try.ntmps36
    go_wp2_with (first | (refine wp_new22 rfl rfl ?_; rw [Hw1.out]))
    refine t1.mono ?_
    rintro e w2 ⟨rfl, rfl⟩
    rw [Hq.out]
    go_wp2_with (first | (refine wp_zero22 rfl rfl ?_) | (refine wp_put22 (f := z0) (g := z0) rfl (.tmp 6) (.tmp 20) rfl rfl rfl HZ0.out HZ0.out HX1.out ?_))
    (try simp only [Exit.inBlock, Exit.then])
    refine bodyPost_ret (results_ctt rfl _ _ rfl (load22 HZ0.out (setRow_heap w1 q (ia z0) _ 22 (0, 0) HX1.out))) rfl ?_
    first | rw [hT] | skip
    exact ⟨rfl, below_setRow HB1.out (by rw [Hq.out]; exact Nat.le_refl q) _⟩
end
end Go.Proofs.Ytfecngncapenjaa
