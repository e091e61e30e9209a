/- Shards of one byte each: columnOf. -/
import Derived.Test.YtbdmbhpmbklaiaaX4
namespace Go.Proofs.Ytbdmbhpmbklaiaa
open Go.RowKit Go.Lib Go.Shelf Gf

/-- Of the shards the bytes at a place. -/
def col (L : List Sd) (j : Nat) : List Sd := L.map (fun s => some [(sl s).getD j 0])
theorem col_len (L : List Sd) (j : Nat) : (col L j).length = L.length := by simp [col]
theorem add_add (g o i : Nat) : (⟨g, o, none⟩ : Addr).add i = ⟨g, o + i, none⟩ := by unfold Addr.add; split <;> simp_all
theorem rdS_sub1 {w : World} {g o n c : Nat} {l : List G} (h : RdG w (.slice (some ⟨g, o, none⟩) n c) l) {j : Nat} (hj : j < n) : RdS w (w.heap.size, 1000) (.slice (some ⟨g, o + j, none⟩) 1 (c - j)) (some [l.getD j 0]) := by
  have hr : RdG w (.slice (some ⟨g, o + j, none⟩) 1 (c - j)) [l.getD j 0] := by
    obtain ⟨a, cap, e, h1, h2, h3, h4⟩ := h
    simp only [Value.slice.injEq] at e
    obtain ⟨rfl, rfl, rfl⟩ := e
    rw [yv_len, List.length_map] at hj h1
    refine ⟨some ⟨g, o + j, none⟩, c - j, rfl, by simp [yv]; omega, by omega, by simp, fun x hx i hi => ?_⟩
    have hi0 : i = 0 := by simp [yv] at hi; omega
    subst hi0
    cases hx
    have := h4 _ rfl j (by rw [yv_len, List.length_map]; exact hj)
    rw [add_add] at this
    rw [add_add, Nat.add_zero, this]
    simp [yv, List.getD, List.getElem?_eq_getElem hj]
  exact ⟨⟨_, _, _, rfl, by simp⟩, hr, fun h0 k hk => .inl (hr.lt h0 k hk)⟩
section
variable {w : World}
set_option maxHeartbeats 4000000 in
set_option maxRecDepth 100000 in
theorem column32 (v : Value) (L : List Sd) (j N : Nat) {B : Nat × TypeId} (hv : RdR w B v L) (hl : L.length ≤ 1000000) (hN : ∀ i, i < L.length → (sl (L.getD i none)).length = N) (hj : j < N) (hN4 : N ≤ 4096) :
    Calls Try.prog 32 #[v, .int .i64 j] w fun e w' => ∃ a n c, e = .returned (.slice a n c) ∧ OwnR w' (w.heap.size, 1000) w.heap.size (.slice a n c) (col L j) ∧ Below w.heap.size w w' := by
  obtain ⟨va, vc, rfl, h1, h2, _⟩ := hv.shape
  have HV : Hid (RdR w (w.heap.size, 1000) (.slice va L.length vc) L) := ⟨by obtain ⟨vs, x1, x2⟩ := hv; exact ⟨vs, x1, x2.1, fun i hi => by obtain ⟨u, hu, hs⟩ := x2.2 i hi; exact ⟨u, hu, hs.sh, hs.rd, fun h0 k hk => .inl (hs.rd.lt h0 k hk)⟩⟩⟩
  have HN := Hid.mk hN
  obtain ⟨n, Hn⟩ : ∃ n, Hid (L.length = n) := ⟨_, ⟨rfl⟩⟩
  have HTk : Hid (L.take n = L) := ⟨List.take_of_length_le (by rw [Hn.out]; exact Nat.le_refl _)⟩
  rw [Hn.out] at hl h1 HV ⊢
  have hjz : (j : Int) < (N : Int) := by omega
  have hj1 : IntKind.i64.wrap ((j : Int) + 1) = (j : Int) + 1 := IntWalk.i64_in _ ⟨by omega, by omega⟩
  clear hv hN
  go_enter Try.func32, Try.ntmps32
  go_wp2_with (refine wp_makeR (w.heap.size, 1000) rfl _ _ rfl n rfl rfl (by omega) ?_; intro w1 hO1 hB1 hS1; have HO1 := Hid.mk hO1; have HB1 := Hid.mk hB1; clear hO1 hB1 hS1)
  go_loopg [13, 5] n (fun gg s13 s5 wr => ∃ (i : Nat) (ra : Option Addr) (rc : Nat), i ≤ n ∧ n - i ≤ gg ∧ s13 = .int .i64 (i : Int) ∧ s5 = .slice ra i rc ∧ Hid (OwnR wr (w.heap.size, 1000) w.heap.size (.slice ra i rc) (col (L.take i) j)) ∧ Hid (Below w.heap.size w wr))
  case atStart => exact ⟨0, _, _, Nat.zero_le _, by omega, rfl, rfl, HO1, HB1⟩
  case round =>
    clear HO1 HB1
    obtain ⟨i, ra, rc, hi, hgg, rfl, rfl, HO, HB⟩ := hrel
    rename World => wo
    by_cases hlt : i < n
    · have hltz : (i : Int) < (n : Int) := by omega
      have hiL : i < L.length := by rw [Hn.out]; exact hlt
      obtain ⟨b, off, cap, e, _, hc⟩ := (HV.out.below HB.out).at hiL
      rw [Hn.out] at e
      simp only [Value.slice.injEq] at e
      obtain ⟨rfl, -, rfl⟩ := e
      obtain ⟨sa, sc, c1, _, hcap, hcm, hs⟩ := hc i hiL
      have hsr := hs.rd
      have hlen := HN.out i hiL
      have HS : Hid (col (L.take (i + 1)) j = col (L.take i) j ++ [some [(sl (L.getD i none)).getD j 0]]) := ⟨by rw [List.take_succ_eq_append_getElem hiL, col, List.map_append]; simp [col, List.getD, List.getElem?_eq_getElem hiL]⟩
      have Hl7 : Hid ((col (L.take i) j ++ [some [(sl (L.getD i none)).getD j 0]]).length = i + 1) := ⟨by rw [← HS.out, col_len, List.length_take]; omega⟩
      rw [hlen] at c1 hsr hcap
      obtain ⟨g, o, cp, e, _, _⟩ := hsr.at (i := j) (by rw [hlen]; exact hj)
      simp only [Value.slice.injEq] at e
      obtain ⟨rfl, -, -⟩ := e
      have hs1 := rdS_sub1 hsr hj
      have HY : Hid (RdS wo (w.heap.size, 1000) (.slice (some ⟨g, o + j, none⟩) 1 (sc - j)) (some [(sl (L.getD i none)).getD j 0])) := ⟨⟨hs1.sh, hs1.rd, fun h0 k hk => hs.inn (by rw [hlen]; omega) k (by simp [ob, Value.ownBlock] at hk ⊢; exact hk)⟩⟩
      generalize (sl (L.getD i none)).getD j 0 = y at HS HY Hl7
      have hcl : (col (L.take i) j).length ≤ 1000000000000 := by rw [col_len, List.length_take]; omega
      have hbs := HB.out.size
      have hjc : j + 1 ≤ sc := by omega
      have hjz2 : ¬ (j : Int) + 1 < (j : Int) := by omega
      clear hc hs hsr hlen hs1
      go_wp2_with (refine wp_appR1 rfl (.tmp 17) (.tmp 23) rfl rfl HO.out (Nat.le_refl _) (show (1000 : TypeId) ≠ 33 by decide) HY.out rfl hcl hbs ?_; intro v7 w7 hO7 hG7 hV7; obtain ⟨a7, c7, e7, _⟩ := hO7.rd.shape; rw [Hl7.out] at e7; subst e7; rw [← HS.out] at hO7; have HO7 := Hid.mk hO7; have HG7 : Hid (Chg (ob (.slice ra i rc)) wo w7) := ⟨hG7⟩; clear hO7 hG7 hV7)
      have HB7 : Hid (Below w.heap.size w w7) := ⟨HB.out.trans (HG7.out.below HB.out.size (fun k hk => (HO.out.lt k hk).1))⟩
      go_roundg (n - (i + 1))
      case measure => omega
      case rel => exact ⟨i + 1, _, _, by omega, by omega, by go_num, rfl, HO7, HB7⟩
    · obtain rfl : n = i := by omega
      rw [HTk.out] at HO
      go_wp2_with fail
      go_ret
      exact ⟨_, _, _, rfl, HO.out, HB.out⟩
end
end Go.Proofs.Ytbdmbhpmbklaiaa
