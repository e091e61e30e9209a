/- Package gear's Fork. -/
import Derived.Test.YtngeefipeghjiaaR5
namespace Go.Proofs.Ytngeefipeghjiaa
open Go.RowKit

section
variable {w : World} {p : Nat} {mn mx lo : Int} {T : Nat → Int} {cs : Array Value} {v : Value} {l : List Int} {hh : Int} {over : Bool}
/-- slices.Clone of bytes. -/
theorem clone_any (pv : Value) (ps : List Int) (hp : Bs w pv ps) (hown : OwnB w 0 pv ps) (hps : ps.length ≤ 1000000000000) : Calls Try.prog 31 #[pv] w fun e w' => ∃ v', e = .returned v' ∧ OwnB w' 0 v' ps ∧ (∀ k ∈ ob v', w.heap.size ≤ k) ∧ Below w.heap.size w w' := by
  obtain ⟨ao, cap, rfl, hm⟩ := OwnB.mine hown
  have HP : Hid (Bs w (.slice ao ps.length cap) ps) := ⟨hp⟩
  have HO : Hid (OwnB w 0 (.slice ao ps.length cap) ps) := ⟨hown⟩
  obtain ⟨n, Hn⟩ : ∃ n, Hid (ps.length = n) := ⟨_, ⟨rfl⟩⟩
  cases ao with
  | none =>
    have hps0 : ps = [] := by
      obtain ⟨_, _, e, hl, _, hn, _⟩ := hp
      simp at e
      have := hn e.1.symm
      exact List.length_eq_zero_iff.1 (by omega)
    subst hps0
    have hnl : ∀ W, (binOp .eql 32 (.slice none ([] : List Int).length cap) (.slice none 0 0)).run Try.prog W = .ok (.bool true) W := fun W => by rw [Lib.run_eql_slice_nil W 32 5 _ _ _ _ _ Try.underlying32]; rfl
    rw [List.length_nil] at hnl ⊢
    clear hm hp hown
    go_enter Try.func31, Try.ntmps31
    go_wp2
    go_ret
    exact ⟨_, rfl, own_nilB w, by simp [ob, Value.ownBlock], Below.refl _ _⟩
  | some a =>
    have hN : OwnB (w.alloc (.cells #[] 5)) w.heap.size (.slice (some ⟨w.heap.size, 0, none⟩) 0 0) [] := ownb_none w
    have HN := Hid.mk hN
    have HP2 : Hid (Bs (w.alloc (.cells #[] 5)) (.slice (some a) ps.length cap) ps) := ⟨hp.below ((Below.refl _ w).alloc (Nat.le_refl _) _)⟩
    have hnl : ∀ W, (binOp .eql 32 (.slice (some a) n cap) (.slice none 0 0)).run Try.prog W = .ok (.bool false) W := fun W => by rw [Lib.run_eql_slice_nil W 32 5 _ _ _ _ _ Try.underlying32]; rfl
    rw [Hn.out] at HP2 ⊢
    clear hm hp hown hN
    go_enter Try.func31, Try.ntmps31
    go_wp2_with (at_builtin; refine wp_appSat (base := w.heap.size) rfl (.tmp 5) (.tmp 6) rfl rfl HN.out rfl HP2.out (by simp; have := Hn.out; omega) (by simp) ?_; intro v' w2 hO2 hG2 hV2; replace hG2 : Chg (ob (.slice (some ⟨w.heap.size, 0, none⟩) 0 0)) (w.alloc (.cells #[] 5)) w2 := hG2)
    go_ret
    refine ⟨v', rfl, own_base hO2 (fun _ _ => Nat.zero_le _), fun k hk => (hO2.lt k (mem_ob.1 hk)).1, ((Below.refl _ w).alloc (Nat.le_refl _) _).trans (hG2.below (by simp) (fun x hx => by simp [ob, Value.ownBlock] at hx; omega))⟩
theorem CutAt.one (h : CutAt w p 0 mn mx lo T cs v l hh over) : cs.all (·.oneCell') = true := by
  rw [Array.all_eq_true]
  intro i hi
  have hs := h.size
  have hv1 : v.oneCell' = true := by obtain ⟨ao, cap, rfl, _⟩ := OwnB.mine h.own; rfl
  have key : ∀ x : Value, cs[i]? = some x → x.oneCell' = true → cs[i].oneCell' = true := fun x hx ho => by
    rw [Array.getElem?_eq_getElem hi, Option.some.injEq] at hx
    rw [hx]; exact ho
  by_cases h0 : i = 0
  · subst h0; exact key _ h.c0 rfl
  by_cases h1 : i = 1
  · subst h1; exact key _ h.c1 rfl
  by_cases h2 : i = 2
  · subst h2; exact key _ h.c2 rfl
  by_cases h4 : i = 259
  · subst h4; exact key _ h.c4 hv1
  by_cases h5 : i = 260
  · subst h5; exact key _ h.c5 rfl
  by_cases h6 : i = 261
  · subst h6; exact key _ h.c6 rfl
  · have := h.tab (i - 3) (by omega)
    rw [show 3 + (i - 3) = i by omega] at this
    exact key _ this rfl
theorem info55 : (Try.prog.info? 55).map (·.size) = some 262 := by kernel_rfl
set_option maxHeartbeats 1000000 in
set_option maxRecDepth 100000 in
theorem fork_any (h : CutAt w p 0 mn mx lo T cs v l hh over) (hbl : Byt l) (hl : l.length ≤ 1000000) : Calls Try.prog 23 #[.pointer (some ⟨p, 0, none⟩)] w fun e w' => ∃ p' cs' v', e = .returned (.pointer (some ⟨p', 0, none⟩)) ∧ CutAt w' p' 0 mn mx lo T cs' v' l hh over ∧ w.heap.size ≤ p' ∧ (∀ k ∈ ob v', w.heap.size ≤ k) ∧ Below w.heap.size w w' := by
  obtain ⟨zs, Hzs⟩ : ∃ zs, Hid (zc55 = zs) := ⟨_, ⟨rfl⟩⟩
  have hzv := zv55
  have hzn : ¬ zc55 = #[] := by intro h; have := congrArg Array.size h; rw [zc55_size] at this; simp at this
  rw [Hzs.out] at hzn
  simp only [Hzs.out] at hzv
  have hzsz : zs.size = 262 := by rw [← Hzs.out]; exact zc55_size
  have HH := Hid.mk h
  obtain ⟨ao, cap, rfl, _⟩ := OwnB.mine h.own
  have hrow := h.row
  have hpl : (Try.prog.info? 55).map (·.size) = some cs.size := by rw [h.size]; exact info55
  obtain ⟨w1, HW1⟩ : ∃ w1, Hid (w.alloc (.cells zs 55) = w1) := ⟨_, ⟨rfl⟩⟩
  have hx : w1.heap[w.heap.size]? = some (.cells zs 55 (0, 0)) := by rw [← HW1.out]; exact heap_alloc_new w _
  clear h
  go_enter Try.func23, Try.ntmps23
  have hone := HH.out.one
  go_upto_region 4 with (first | (refine wpList_load_row rfl 55 (.tmp 7) rfl p rfl 55 cs (0, 0) _ hrow Try.underlying55 rfl hpl ?_) | (refine wpList_store_row rfl 55 (.tmp 3) (.tmp 8) rfl w.heap.size cs rfl rfl 55 zs (by rw [HW1.out]; exact hx) hpl (by rw [hzsz, HH.out.size]) hone ?_))
  rw [HW1.out]
  obtain ⟨w2, HW2⟩ : ∃ w2, Hid (w1.setRow w.heap.size cs = w2) := ⟨_, ⟨rfl⟩⟩
  rw [HW2.out]
  have hx2 : w2.heap[w.heap.size]? = some (.cells cs 55 (0, 0)) := by rw [← HW2.out]; exact setRow_heap w1 _ _ cs 55 (0, 0) hx
  have hb2 : Below w.heap.size w w2 := by rw [← HW2.out, ← HW1.out]; exact below_setRow' ((Below.refl _ w).alloc (Nat.le_refl _) _) (Nat.le_refl _) _
  have hsz2 : w2.heap.size = w.heap.size + 1 := by rw [← HW2.out, ← HW1.out]; simp
  have hC2 : CutAt w2 p 0 mn mx lo T cs (.slice ao l.length cap) l hh over := HH.out.far (Chg.ofBelow (X := []) hb2) (by simp) (by simp)
  have t := clone_any (.slice ao l.length cap) l (hC2.own.bs hbl) hC2.own (by omega)
  have HB2 : Hid (Below w.heap.size w w2 ∧ w2.heap.size = w.heap.size + 1 ∧ w2.heap[w.heap.size]? = some (.cells cs 55 (0, 0))) := ⟨hb2, hsz2, hx2⟩
  have c259 : w2.cell? ⟨p, 259, none⟩ = some (.slice ao l.length cap) := (hC2.cell 259).trans hC2.c4
  clear hC2 hb2 hsz2 hx hrow hone hzv hzn hzsz
  go_simp
  go_wp2_with (go_at_call 31; refine t.mono ?_; rintro e w3 ⟨v3, rfl, hO3, hV3, hb3⟩; have hx3 : w3.heap[w.heap.size]? = some (.cells cs 55 (0, 0)) := (hb3.block _ (by rw [HB2.out.2.1]; omega)).trans HB2.out.2.2; have c3 : w3.cell? ⟨w.heap.size, 259, none⟩ = some (.slice ao l.length cap) := (cell_of_row w3 _ 259 cs 55 _ hx3).trans HH.out.c4; have f3 : w3.frozen? ⟨w.heap.size, 259, none⟩ = false := frozen_of_row w3 _ 259 cs 55 hx3; have HX3 := Hid.mk hx3; clear hx3; obtain ⟨a3, cc3, rfl, _⟩ := OwnB.mine hO3)
  go_ret
  have hC3 : CutAt w3 w.heap.size 0 mn mx lo T cs (.slice ao l.length cap) l hh over := by
    have h := HH.out
    exact ⟨HX3.out, h.size, h.c0, h.c1, h.c2, h.tab, h.c4, h.c5, h.c6, own_far (own_far h.own (Chg.ofBelow (X := []) HB2.out.1) (by simp)) (Chg.ofBelow (X := []) hb3) (by simp), Nat.zero_le _⟩
  refine ⟨w.heap.size, _, _, rfl, hC3.put (Chg.refl _ _) hO3, Nat.le_refl _, fun k hk => ?_, ?_⟩
  · have := hV3 k hk
    have := HB2.out.2.1
    omega
  · exact (HB2.out.1.trans (hb3.mono (by rw [HB2.out.2.1]; omega))).setCell (Nat.le_refl _) _
end
end Go.Proofs.Ytngeefipeghjiaa
