/- The table of the lengths: takeRows, takeTable. -/
import Derived.Test.YtfecngncapenjaaC4
namespace Go.Proofs.Ytfecngncapenjaa
open Go.RowKit Oct

theorem add_add (g o i : Nat) : (⟨g, o, none⟩ : Addr).add i = ⟨g, o + i, none⟩ := by unfold Addr.add; split <;> simp_all
theorem rdY_sub {w : World} {g o n c : Nat} {l : List Int} (h : RdY w (.slice (some ⟨g, o, none⟩) n c) l) {k m : Nat} (hk : k + m ≤ n) (c' : Nat) (hc : m ≤ c' ∧ c' ≤ maxLen) : RdY w (.slice (some ⟨g, o + k, none⟩) m c') ((l.drop k).take m) := by
  obtain ⟨a, cap, e, h1, h2, h3, h4⟩ := h
  simp only [Value.slice.injEq] at e
  obtain ⟨rfl, rfl, rfl⟩ := e
  rw [yv_len] at hk h1
  have hl : ((l.drop k).take m).length = m := by rw [List.length_take, List.length_drop]; omega
  refine ⟨some ⟨g, o + k, none⟩, c', by rw [yv_len, hl], by rw [yv_len, hl]; exact hc.1, hc.2, by simp, fun x hx i hi => ?_⟩
  rw [yv_len, hl] at hi
  cases hx
  have := h4 _ rfl (k + i) (by rw [yv_len]; omega)
  rw [add_add] at this
  rw [add_add, Nat.add_assoc, this]
  simp only [yv, List.getElem?_map, List.getElem?_take, List.getElem?_drop, if_pos hi]
theorem rdY_drop {w : World} {g o n c : Nat} {l : List Int} (h : RdY w (.slice (some ⟨g, o, none⟩) n c) l) {k : Nat} (hk : k ≤ n) : RdY w (.slice (some ⟨g, o + k, none⟩) (n - k) (c - k)) (l.drop k) := by
  obtain ⟨a, cap, e, h1, h2, _⟩ := id h
  rw [yv_len] at e h1
  simp only [Value.slice.injEq] at e
  obtain ⟨_, rfl, rfl⟩ := e
  have := rdY_sub h (k := k) (m := l.length - k) (by omega) (c - k) ⟨by omega, by omega⟩
  rwa [List.take_of_length_le (by rw [List.length_drop]; omega)] at this
theorem rdY_end (w : World) (a : Addr) (c : Nat) (hc : c ≤ maxLen) : RdY w (.slice (some a) 0 c) [] := ⟨some a, c, rfl, Nat.zero_le _, hc, by simp, fun x hx i hi => by simp [yv] at hi⟩
/-- The rows of the table. -/
def tkRows (b : List Int) : Nat → Nat → Int → List Int → List Int × Int × Int
  | 0, a, _, f => (f, a, 0)
  | c + 1, a, last, f =>
    if (tkRow (b.drop a) last).2.2 = 0 then tkRows b c (a + 2) (tkRow (b.drop a) last).1 (f.set (tkRow (b.drop a) last).1.toNat (tkRow (b.drop a) last).2.1) else (z0, 0, (tkRow (b.drop a) last).2.2)
theorem tkRow_ok {b : List Int} {last : Int} (hb : By b) (h : (tkRow b last).2.2 = 0) : 2 ≤ b.length ∧ 0 ≤ (tkRow b last).1 ∧ (tkRow b last).1 < 256 := by
  unfold tkRow at *
  by_cases h1 : b.length < 2
  · simp [h1] at h
  · rw [if_neg h1] at *
    by_cases h2 : b.getD 0 0 ≤ last
    · simp only [if_pos h2] at h; exact absurd h (by decide)
    · rw [if_neg h2] at *
      by_cases h3 : b.getD 1 0 = 0
      · simp only [if_pos h3] at h; exact absurd h (by decide)
      · rw [if_neg h3] at *
        exact ⟨by omega, hb.get 0⟩
section
variable {w : World}
set_option maxHeartbeats 4000000 in
set_option maxRecDepth 100000 in
theorem rows46 (g off n cap : Nat) (b : List Int) (at' count : Nat) (hv : RdY w (.slice (some ⟨g, off, none⟩) n cap) b) (hn : b.length = n) (hb : By b) (ha : at' ≤ n) (hcount : count ≤ 256) :
    Calls Try.prog 46 #[.slice (some ⟨g, off, none⟩) n cap, .int .i64 (at' : Int), .int .i64 (count : Int)] w fun e w' => e = .returned (.tuple #[.agg (ia (tkRows b count at' (-1) z0).1), .int .i64 (tkRows b count at' (-1) z0).2.1, .int .i64 (tkRows b count at' (-1) z0).2.2]) ∧ Below w.heap.size w w' := by
  obtain ⟨T, HT⟩ : ∃ T, Hid (tkRows b count at' (-1) z0 = T) := ⟨_, ⟨rfl⟩⟩
  rw [HT.out]
  have hcap : n ≤ cap ∧ cap ≤ maxLen := by
    obtain ⟨a, c, e, h1, h2, _⟩ := hv
    rw [yv_len, hn] at e h1
    simp only [Value.slice.injEq] at e
    obtain ⟨_, _, rfl⟩ := e
    exact ⟨h1, h2⟩
  obtain ⟨q, Hq⟩ : ∃ q, Hid (w.heap.size = q) := ⟨_, ⟨rfl⟩⟩
  obtain ⟨w1, Hw1⟩ : ∃ x, Hid (w.alloc (.cells (ia z0) 22) = x) := ⟨_, ⟨rfl⟩⟩
  have HB1 : Hid (Below w.heap.size w w1) := ⟨by rw [← Hw1.out]; exact (Below.refl _ w).alloc (Nat.le_refl _) _⟩
  have HX1 : Hid (w1.heap[q]? = some (.cells (ia z0) 22 (0, 0))) := ⟨by rw [← Hw1.out, ← Hq.out]; exact heap_alloc_new w _⟩
  have HS1 : Hid (w1.heap.size = q + 1) := ⟨by rw [← Hw1.out, ← Hq.out]; exact Array.size_push _⟩
  obtain ⟨w2, Hw2⟩ : ∃ x, Hid (w1.alloc (.cells (ia z0) 22) = x) := ⟨_, ⟨rfl⟩⟩
  have HB2 : Hid (Below w.heap.size w w2) := ⟨by rw [← Hw2.out]; exact HB1.out.alloc HB1.out.size _⟩
  have HX2 : Hid (w2.heap[q]? = some (.cells (ia z0) 22 (0, 0))) := ⟨by rw [← Hw2.out]; rw [heap_alloc_old (h := by rw [HS1.out]; omega)]; exact HX1.out⟩
  have HY2 : Hid (w2.heap[q + 1]? = some (.cells (ia z0) 22 (0, 0))) := ⟨by rw [← Hw2.out, ← HS1.out]; exact heap_alloc_new w1 _⟩
  have HZ0 : Hid (z0.length = 256) := ⟨z0_len⟩
  go_enter Try.func46, Try.ntmps46
  go_upto_region 4 with (refine wp_new22 rfl rfl ?_; (try rw [Hw1.out]); (try rw [Hw2.out]))
  rw [HS1.out, Hq.out]
  have HVd := Hid.mk hv
  have HBy := Hid.mk hb
  have HN := Hid.mk hn
  clear hv hb hn
  go_loopg [1, 10, 15] (count + 1) (fun gg s1 s10 s15 wr => ∃ (k : Nat) (a : Nat) (last : Int) (f : List Int), k ≤ count ∧ count + 1 - k ≤ gg ∧ s1 = .int .i64 (a : Int) ∧ s10 = .int .i64 last ∧ s15 = .int .i64 (k : Int) ∧ Hid (a ≤ n) ∧ Hid (f.length = 256) ∧ Hid (tkRows b (count - k) a last f = T) ∧ Hid (Below w.heap.size w wr) ∧ Hid (wr.heap[q]? = some (.cells (ia z0) 22 (0, 0))) ∧ Hid (wr.heap[q + 1]? = some (.cells (ia f) 22 (0, 0))))
  case atStart => exact ⟨0, at', -1, z0, Nat.zero_le _, by omega, rfl, rfl, rfl, ⟨ha⟩, HZ0, HT, HB2, HX2, HY2⟩
  case round =>
    obtain ⟨k, a, last, f, hk, hgg, rfl, rfl, rfl, HA, HF, HR, HBr, HXr, HYr⟩ := hrel
    rename World => wo
    by_cases hlt : k < count
    · have hltz : (k : Int) < (count : Int) := by omega
      have han := HA.out
      have haz : (a : Int) ≤ (n : Int) := by omega
      have HVo : Hid (RdY wo (.slice (some ⟨g, off, none⟩) n cap) b) := ⟨Rd.far HVd.out (Chg.ofBelow (X := []) HBr.out) (by simp)⟩
      obtain ⟨K, HK⟩ : ∃ K, Hid (tkRow (b.drop a) last = K) := ⟨_, ⟨rfl⟩⟩
      obtain ⟨kc, kl, ke⟩ := K
      have hcm : cap ≤ maxLen := hcap.2
      have HKok : Hid (ke = 0 → a + 2 ≤ n ∧ 0 ≤ kc ∧ kc < 256) := ⟨fun h => by
        have := tkRow_ok (b := b.drop a) (last := last) (fun x hx => HBy.out x (List.mem_of_mem_drop hx)) (by rw [HK.out]; exact h)
        rw [HK.out, List.length_drop, HN.out] at this
        exact ⟨by omega, this.2⟩⟩
      have HKt : Hid ((ke = 0 → tkRows b (count - (k + 1)) (a + 2) kc (f.set kc.toNat kl) = T) ∧ (ke ≠ 0 → T = (z0, 0, ke))) := ⟨by
        have e : count - k = (count - (k + 1)) + 1 := by omega
        have h := HR.out
        rw [e, tkRows, HK.out] at h
        exact ⟨fun h0 => by rw [if_pos h0] at h; exact h, fun h0 => by rw [if_neg h0] at h; exact h.symm⟩⟩
      by_cases hca : cap = a
      · have hna : n = a := by omega
        have hdr : b.drop a = [] := List.drop_eq_nil_of_le (by rw [HN.out]; omega)
        have HRD : Hid (RdY wo (.slice (some ⟨g, off, none⟩) (n - a) 0) (b.drop a)) := ⟨by rw [hdr, hna, Nat.sub_self]; exact rdY_end _ _ _ (Nat.zero_le _)⟩
        clear hna hdr
        have t1 := row53 (w := wo) (.slice (some ⟨g, off, none⟩) (n - a) 0) (b.drop a) last HRD.out (fun x hx => HBy.out x (List.mem_of_mem_drop hx))
        rw [HK.out] at t1
        by_cases he : ke = 0
        · subst he
          have hc := HKok.out rfl
          omega
        · have hT := HKt.out.2 he
          have hne : (ke != 0) = true := by simpa using he
          go_wp2_with fail
          refine t1.mono ?_
          rintro e w3 ⟨rfl, hb3⟩
          have HB3 : Hid (Below w.heap.size w w3) := ⟨HBr.out.trans (hb3.mono HBr.out.size)⟩
          have HX3 : Hid (w3.heap[q]? = some (.cells (ia z0) 22 (0, 0))) := ⟨(hb3.block q (Array.getElem?_eq_some_iff.1 HXr.out).1).trans HXr.out⟩
          clear t1 hb3 hca
          go_wp2_with (first | (refine wp_zero22 rfl rfl ?_) | (refine wp_put22 (f := z0) (g := z0) rfl (.tmp 6) (.tmp 28) rfl rfl rfl HZ0.out HZ0.out HX3.out ?_))
          (try simp only [Exit.inBlock, Exit.then])
          refine bodyPost_ret (results_ctt rfl _ _ rfl (load22 HZ0.out (setRow_heap w3 q (ia z0) _ 22 (0, 0) HX3.out))) rfl ?_
          first | rw [hT] | skip
          exact ⟨rfl, below_setRow HB3.out (by rw [Hq.out]; exact Nat.le_refl q) _⟩
      · have hca2 : a < cap := by omega
        have t1 := row53 (w := wo) (.slice (some ⟨g, off + a, none⟩) (n - a) (cap - a)) (b.drop a) last (rdY_drop HVo.out HA.out) (fun x hx => HBy.out x (List.mem_of_mem_drop hx))
        rw [HK.out] at t1
        by_cases he : ke = 0
        · subst he
          have hc := HKok.out rfl
          obtain ⟨m, Hm⟩ : ∃ m : Nat, Hid (kc = (m : Int)) := ⟨kc.toNat, ⟨by omega⟩⟩
          rw [Hm.out] at t1 hc HKt
          have hm : m < 256 := by omega
          have hmz : (m : Int) < 256 := by omega
          have HT2 := HKt.out.1 rfl
          have haz2 : IntKind.i64.wrap ((a : Int) + 2) = (a : Int) + 2 := IntWalk.i64_in _ ⟨by omega, by have := hcap.2; unfold maxLen at this; omega⟩
          go_wp2_with fail
          refine t1.mono ?_
          rintro e w3 ⟨rfl, hb3⟩
          have HB3 : Hid (Below w.heap.size w w3) := ⟨HBr.out.trans (hb3.mono HBr.out.size)⟩
          have HX3 : Hid (w3.heap[q]? = some (.cells (ia z0) 22 (0, 0))) := ⟨(hb3.block q (Array.getElem?_eq_some_iff.1 HXr.out).1).trans HXr.out⟩
          have HY3 : Hid (w3.heap[q + 1]? = some (.cells (ia f) 22 (0, 0))) := ⟨(hb3.block (q + 1) (Array.getElem?_eq_some_iff.1 HYr.out).1).trans HYr.out⟩
          have d2 : w3.cell? ⟨q + 1, m, none⟩ = some (.int .i64 (f.getD m 0)) := by rw [cell_of_row _ _ _ _ _ _ HY3.out]; exact ia_get (by rw [HF.out]; exact hm)
          have d3 : w3.frozen? ⟨q + 1, m, none⟩ = false := frozen_of_row _ _ _ _ _ HY3.out
          clear t1 hb3 hca hca2
          go_wp2_with fail
          have hset : ((ia f).setIfInBounds m (.int .i64 kl)) = ia (f.set m kl) := ia_set f m kl (by rw [HF.out]; exact hm)
          go_roundg (count + 1 - (k + 1))
          case measure => omega
          case rel =>
            refine ⟨k + 1, a + 2, m, f.set m kl, by omega, by omega, by go_num, rfl, by go_num, ⟨by omega⟩, ⟨by rw [List.length_set]; exact HF.out⟩, ⟨HT2⟩, ⟨?_⟩, ⟨?_⟩, ⟨?_⟩⟩
            · exact HB3.out.setCell (p := ⟨q + 1, m, none⟩) (by rw [Hq.out]; exact Nat.le_succ q) _
            · rw [heap_setCell_other _ _ _ _ (by simp)]; exact HX3.out
            · rw [heap_setCell_same _ _ _ _ _ _ HY3.out, hset]
        · have hT := HKt.out.2 he
          have hne : (ke != 0) = true := by simpa using he
          go_wp2_with fail
          refine t1.mono ?_
          rintro e w3 ⟨rfl, hb3⟩
          have HB3 : Hid (Below w.heap.size w w3) := ⟨HBr.out.trans (hb3.mono HBr.out.size)⟩
          have HX3 : Hid (w3.heap[q]? = some (.cells (ia z0) 22 (0, 0))) := ⟨(hb3.block q (Array.getElem?_eq_some_iff.1 HXr.out).1).trans HXr.out⟩
          clear t1 hb3 hca hca2
          go_wp2_with (first | (refine wp_zero22 rfl rfl ?_) | (refine wp_put22 (f := z0) (g := z0) rfl (.tmp 6) (.tmp 28) rfl rfl rfl HZ0.out HZ0.out HX3.out ?_))
          (try simp only [Exit.inBlock, Exit.then])
          refine bodyPost_ret (results_ctt rfl _ _ rfl (load22 HZ0.out (setRow_heap w3 q (ia z0) _ 22 (0, 0) HX3.out))) rfl ?_
          first | rw [hT] | skip
          exact ⟨rfl, below_setRow HB3.out (by rw [Hq.out]; exact Nat.le_refl q) _⟩
    · obtain rfl : k = count := by omega
      have hT : T = (f, (a : Int), 0) := by
        have h := HR.out
        rw [Nat.sub_self, tkRows] at h
        exact h.symm
      go_wp2_with (first | (refine wp_load rfl 22 (.tmp 9) rfl (q + 1) rfl (ia f) 22 (0, 0) _ HYr.out Try.underlying22 rfl (info22f HF.out) ?_) | (refine wp_put22 (f := z0) (g := f) rfl (.tmp 6) (.tmp 37) rfl rfl rfl HZ0.out HF.out HXr.out ?_))
      (try simp only [Exit.inBlock, Exit.then])
      refine bodyPost_ret (results_ctt rfl _ _ rfl (load22 HF.out (setRow_heap wo q (ia z0) _ 22 (0, 0) HXr.out))) rfl ?_
      first | rw [hT] | skip
      exact ⟨rfl, below_setRow HBr.out (by rw [Hq.out]; exact Nat.le_refl q) _⟩
end
end Go.Proofs.Ytfecngncapenjaa
