/- Package gear's take. -/
import Derived.Test.YtngeefipeghjiaaC3
namespace Go.Proofs.Ytngeefipeghjiaa
open Go.RowKit

/-- Does a chunk end behind l? -/
def endL (mn mx lo : Int) (T : Nat → Int) (l : List Int) : Bool := decide (mx ≤ (l.length : Int) ∨ mn ≤ (l.length : Int) ∧ hsh T l < lo)
section
variable {w : World} {p base : Nat} {mn mx lo : Int} {T : Nat → Int} {cs : Array Value} {v : Value} {l : List Int} {hh : Int} {over : Bool}
theorem CutAt.ty (h : CutAt w p base mn mx lo T cs v l hh over) : Ty w 55 p := ⟨cs, h.row⟩
theorem CutAt.sep (h : CutAt w p base mn mx lo T cs v l hh over) : p ∉ ob v := fun hm => (Ty.ne h.ty (own_ty h.own (mem_ob.1 hm)) (by decide)) rfl
theorem CutAt.far {w' : World} {X : List Nat} (h : CutAt w p base mn mx lo T cs v l hh over) (hc : Chg X w w') (hp : p ∉ X) (hv : ∀ k ∈ ob v, k ∉ X) : CutAt w' p base mn mx lo T cs v l hh over :=
  ⟨(hc.block p h.lt hp).trans h.row, h.size, h.c0, h.c1, h.c2, h.tab, h.c4, h.c5, h.c6, own_far h.own hc (fun g hg => hv g (mem_ob.2 hg)), h.bp⟩
theorem set_ne {cs : Array Value} {i j : Nat} {u x : Value} (hn : i ≠ j) (h : cs[j]? = some x) : (cs.setIfInBounds i u)[j]? = some x := by rw [Array.getElem?_setIfInBounds_ne hn]; exact h
/-- What is held is changed. -/
theorem CutAt.put {w1 : World} (h : CutAt w p base mn mx lo T cs v l hh over) (hc : Chg (ob v) w w1) {v' : Value} {l' : List Int} (hv : OwnB w1 base v' l') : CutAt (w1.setCell ⟨p, 259, none⟩ v') p base mn mx lo T (cs.setIfInBounds 259 v') v' l' hh over := by
  have hr : w1.heap[p]? = some (.cells cs 55 (0, 0)) := (hc.block p h.lt h.sep).trans h.row
  have hs := h.size
  refine ⟨heap_setCell_same w1 p 259 cs 55 v' hr, by simp [hs], set_ne (by decide) h.c0, set_ne (by decide) h.c1, set_ne (by decide) h.c2, fun i hi => set_ne (by omega) (h.tab i hi), by rw [Array.getElem?_setIfInBounds_self_of_lt (by omega)], set_ne (by decide) h.c5, set_ne (by decide) h.c6, ?_, h.bp⟩
  have hp1 : Ty w1 55 p := ⟨cs, hr⟩
  exact own_far hv ((Chg.refl [p] w1).setCell (.inl (by simp)) _) (fun g hg hm => by simp at hm; subst hm; exact (Ty.ne hp1 (own_ty hv hg) (by decide)) rfl)
theorem CutAt.hash (h : CutAt w p base mn mx lo T cs v l hh over) (z : Int) : CutAt (w.setCell ⟨p, 260, none⟩ (.int .u32 z)) p base mn mx lo T (cs.setIfInBounds 260 (.int .u32 z)) v l z over := by
  have hs := h.size
  refine ⟨heap_setCell_same w p 260 cs 55 _ h.row, by simp [hs], set_ne (by decide) h.c0, set_ne (by decide) h.c1, set_ne (by decide) h.c2, fun i hi => set_ne (by omega) (h.tab i hi), set_ne (by decide) h.c4, by rw [Array.getElem?_setIfInBounds_self_of_lt (by omega)], set_ne (by decide) h.c6, ?_, h.bp⟩
  exact own_far h.own ((Chg.refl [p] w).setCell (.inl (by simp)) _) (fun g hg hm => by simp at hm; subst hm; exact (Ty.ne h.ty (own_ty h.own hg) (by decide)) rfl)
theorem CutAt.done (h : CutAt w p base mn mx lo T cs v l hh over) (b : Bool) : CutAt (w.setCell ⟨p, 261, none⟩ (.bool b)) p base mn mx lo T (cs.setIfInBounds 261 (.bool b)) v l hh b := by
  have hs := h.size
  refine ⟨heap_setCell_same w p 261 cs 55 _ h.row, by simp [hs], set_ne (by decide) h.c0, set_ne (by decide) h.c1, set_ne (by decide) h.c2, fun i hi => set_ne (by omega) (h.tab i hi), set_ne (by decide) h.c4, set_ne (by decide) h.c5, by rw [Array.getElem?_setIfInBounds_self_of_lt (by omega)], ?_, h.bp⟩
  exact own_far h.own ((Chg.refl [p] w).setCell (.inl (by simp)) _) (fun g hg hm => by simp at hm; subst hm; exact (Ty.ne h.ty (own_ty h.own hg) (by decide)) rfl)
theorem CutAt.drew (h : CutAt w p base mn mx lo T cs v l hh over) : CutAt w.drew p base mn mx lo T cs v l hh over := h.far (Chg.refl [] w).drew (by simp) (by simp)
theorem CutAt.frozen (h : CutAt w p base mn mx lo T cs v l hh over) (j : Nat) : w.frozen? ⟨p, j, none⟩ = false := frozen_of_row w p j cs 55 h.row
end
theorem chg_drewN (w : World) (n : Nat) : Chg [] w (w.drewN n) := ⟨rfl, rfl, rfl, Nat.le_refl _, fun _ _ _ => rfl⟩
theorem Chg.weak {X : List Nat} {w w' : World} (h : Chg [] w w') : Chg X w w' := h.mono (fun x hx => by cases hx)
section
variable {w : World} {p : Nat} {mn mx lo : Int} {T : Nat → Int} {cs : Array Value} {v : Value} {l : List Int} {over : Bool}
set_option maxHeartbeats 2000000 in
set_option maxRecDepth 100000 in
theorem take_any (h : CutAt w p 0 mn mx lo T cs v l (hsh T l) over) (k : Nat) (hk : k < 256) (hl : l.length ≤ 1000000) :
    Calls Try.prog 28 #[.pointer (some ⟨p, 0, none⟩), .int .u8 (k : Int)] w fun e w' => e = .returned (.bool (endL mn mx lo T (l ++ [(k : Int)]))) ∧ ∃ cs' v', CutAt w' p 0 mn mx lo T cs' v' (l ++ [(k : Int)]) (hsh T (l ++ [(k : Int)])) over ∧ Chg (p :: ob v) w w' ∧ (v'.ownBlock = v.ownBlock ∨ v'.ownBlock = some (w.heap.size + 1)) := by
  have HH : Hid (CutAt w p 0 mn mx lo T cs v l (hsh T l) over) := ⟨h⟩
  obtain ⟨ao, cap, rfl, hmine⟩ := OwnB.mine h.own
  have hkz : (k : Int) < 256 := by omega
  have c259 : (w.alloc (.cells #[.int .u8 (k : Int)] 5)).cell? ⟨p, 259, none⟩ = some (.slice ao l.length cap) := (((Below.refl _ w).alloc (Nat.le_refl _) _).cell (p := ⟨p, 259, none⟩) h.lt).trans ((h.cell 259).trans h.c4)
  have d259 : w.cell? ⟨p, 259, none⟩ = some (.slice ao l.length cap) := (h.cell 259).trans h.c4
  clear hmine h
  go_enter Try.func28, Try.ntmps28
  go_wp2_with (at_builtin; refine wp_app1at (base := 0) (xs := l) (y := (k : Int)) rfl (.tmp 10) (.tmp 12) rfl rfl HH.out.own rfl (by omega) (Nat.zero_le _) ?_; intro v' w1 hv' hc1 hb1; have HC1 : Hid (CutAt (w1.setCell ⟨p, 259, none⟩ v') p 0 mn mx lo T (cs.setIfInBounds 259 v') v' (l ++ [(k : Int)]) (hsh T l) over ∧ Chg (ob (.slice ao l.length cap)) w w1 ∧ (v'.ownBlock = Value.ownBlock (.slice ao l.length cap) ∨ v'.ownBlock = some (w.heap.size + 1))) := ⟨HH.out.put hc1 hv', hc1, hb1⟩; have e259 : w1.cell? ⟨p, 259, none⟩ = some (.slice ao l.length cap) := (hc1.cell (a := ⟨p, 259, none⟩) HH.out.lt HH.out.sep).trans d259; have f259 : w1.frozen? ⟨p, 259, none⟩ = false := frozen_of_row w1 p 259 cs 55 ((hc1.block p HH.out.lt HH.out.sep).trans HH.out.row); obtain ⟨ao1, cap1, rfl, hmine⟩ := OwnB.mine hv'; clear hmine hv' hc1 hb1 c259 d259)
  obtain ⟨n1, HN1⟩ : ∃ n1 : Nat, Hid (l.length + 1 = n1) := ⟨_, ⟨rfl⟩⟩
  have HL1 : Hid ((l ++ [(k : Int)]).length = n1) := ⟨by rw [← HN1.out]; simp⟩
  rw [HL1.out] at HC1
  have hn1 : n1 ≤ 1000001 := by have := HN1.out; omega
  rw [HN1.out]
  obtain ⟨w2, HW2⟩ : ∃ w2, Hid (w1.setCell ⟨p, 259, none⟩ (.slice ao1 n1 cap1) = w2) := ⟨_, ⟨rfl⟩⟩
  rw [HW2.out] at HC1 ⊢
  have hA := HC1.out.1
  have HC2 : Hid (Chg (p :: ob (.slice ao l.length cap)) w w2) := ⟨by
    rw [← HW2.out]
    exact (HC1.out.2.1.mono (Y := p :: ob (.slice ao l.length cap)) (fun x hx => .inl (List.mem_cons_of_mem _ hx))).setCell (.inl (by simp)) _⟩
  clear e259 f259
  obtain ⟨hh, Hhh⟩ : ∃ hh, Hid (hsh T l = hh) := ⟨_, ⟨rfl⟩⟩
  rw [Hhh.out] at hA
  have hrg := hsh_rng T l
  rw [Hhh.out] at hrg
  obtain ⟨tk, Htk⟩ : ∃ tk, Hid (T k = tk) := ⟨_, ⟨rfl⟩⟩
  have htab := hA.tab k hk
  rw [Htk.out] at htab
  obtain ⟨nh, Hnh⟩ : ∃ nh, Hid (hsh T (l ++ [(k : Int)]) = nh) := ⟨_, ⟨rfl⟩⟩
  have hnr := hsh_rng T (l ++ [(k : Int)])
  rw [Hnh.out] at hnr
  have hsum : IntKind.u32.wrap (IntKind.u32.wrap (2 * hh) + tk) = nh := by
    rw [← Hnh.out, hsh_snoc, Hhh.out, wrap_u32, wrap_u32, Int.toNat_natCast, Htk.out]; omega
  have h260 : w2.drew.cell? ⟨p, 260, none⟩ = some (.int .u32 hh) := (hA.drew.cell 260).trans hA.c5
  have hS0 : w2.drew.cell? ⟨p, 3 + k, none⟩ = some (.int .u32 tk) ∧ w2.drew.frozen? ⟨p, 260, none⟩ = false := ⟨(hA.drew.cell (3 + k)).trans htab, hA.drew.frozen 260⟩
  have hA3 := hA.drew.hash nh
  have hS2 : (w2.drew.setCell ⟨p, 260, none⟩ (.int .u32 nh)).cell? ⟨p, 3 + k, none⟩ = some (.int .u32 tk) ∧ (w2.drew.setCell ⟨p, 260, none⟩ (.int .u32 nh)).frozen? ⟨p, 260, none⟩ = false := ⟨by have := hA3.tab k hk; rw [Htk.out] at this; exact (hA3.cell (3 + k)).trans this, hA3.frozen 260⟩
  have HA3 : Hid (CutAt (w2.drew.setCell ⟨p, 260, none⟩ (.int .u32 nh)) p 0 mn mx lo T ((cs.setIfInBounds 259 (.slice ao1 n1 cap1)).setIfInBounds 260 (.int .u32 nh)) (.slice ao1 n1 cap1) (l ++ [(k : Int)]) nh over) := ⟨hA3⟩
  clear htab hA3
  refine wp_region_held_drew (S := (fun w' => w'.cell? ⟨p, 3 + k, none⟩ = some (.int .u32 tk) ∧ w'.frozen? ⟨p, 260, none⟩ = false)) (by kernel_rfl) hS0 (fun hS => ?_)
  refine wpAnyH_take (i := 0) (v := .pointer (some ⟨p, 0, none⟩)) rfl (by kernel_rfl) (by kernel_rfl) (by kernel_rfl) (fun _ _ _ h => h) (Or.inl ⟨by kernel_rfl, fun _ _ => by kernel_rfl⟩) hS ?_
  refine wpAnyH_take (i := 1) (v := .pointer (some ⟨p, 0, none⟩)) rfl (by kernel_rfl) (by kernel_rfl) (by kernel_rfl) (fun _ _ _ h => h) (Or.inl ⟨by kernel_rfl, fun _ _ => by kernel_rfl⟩) hS ?_
  refine wpAnyH_take (i := 2) (v := .pointer (some ⟨p, 0, none⟩)) rfl (by kernel_rfl) (by kernel_rfl) (by kernel_rfl) (fun _ _ _ h => h) (Or.inl ⟨by kernel_rfl, fun wx hx => by go_simp⟩) hS ?_
  refine wpAnyH_take (i := 3) (v := .pointer (some ⟨p, 260, none⟩)) rfl (by kernel_rfl) (by kernel_rfl) (by kernel_rfl) (fun _ _ _ h => h) (Or.inl ⟨by kernel_rfl, fun wx hx => by go_simp⟩) hS ?_
  refine wpAnyH_take (i := 6) (v := .pointer (some ⟨p, 0, none⟩)) rfl (by kernel_rfl) (by kernel_rfl) (by kernel_rfl) (fun _ _ _ h => h) (Or.inl ⟨by kernel_rfl, fun _ _ => by kernel_rfl⟩) hS ?_
  refine wpAnyH_take (i := 7) (v := .int .u8 (k : Int)) rfl (by kernel_rfl) (by kernel_rfl) (by kernel_rfl) (fun _ _ _ h => h) (Or.inl ⟨by kernel_rfl, fun _ _ => by kernel_rfl⟩) hS ?_
  refine wpAnyH_take (i := 8) (v := .pointer (some ⟨p, 0, none⟩)) rfl (by kernel_rfl) (by kernel_rfl) (by kernel_rfl) (fun _ _ _ h => h) (Or.inl ⟨by kernel_rfl, fun wx hx => by go_simp⟩) hS ?_
  refine wpAnyH_take (i := 9) (v := .pointer (some ⟨p, 3, none⟩)) rfl (by kernel_rfl) (by kernel_rfl) (by kernel_rfl) (fun _ _ _ h => h) (Or.inl ⟨by kernel_rfl, fun wx hx => by go_simp⟩) hS ?_
  refine wpAnyH_take (i := 10) (v := .pointer (some ⟨p, 3 + k, none⟩)) rfl (by kernel_rfl) (by kernel_rfl) (by kernel_rfl) (fun _ _ _ h => h) (Or.inl ⟨by kernel_rfl, fun wx hx => by go_simp⟩) hS ?_
  refine wpAnyH_take (i := 11) (v := .int .u32 tk) rfl (by kernel_rfl) (by kernel_rfl) (by kernel_rfl) (fun _ _ _ h => h) (Or.inl ⟨by kernel_rfl, fun wx hx => by obtain ⟨hx1, hx2⟩ := hx; go_simp⟩) hS ?_
  refine wpAnyH_ready (rs := [4]) (by kernel_rfl) (by simp) (AllReadyH.cons rfl (fun Kc hK => ?_) AllReadyH.nil)
  go_simp
  refine hK.out _ _ hS0 (fun hS => ?_)
  clear hK
  refine wpAnyH_take (i := 5) (v := .int .u32 (IntKind.u32.wrap (2 * hh))) rfl (by kernel_rfl) (by kernel_rfl) (by kernel_rfl) (fun _ _ _ h => h) (Or.inl ⟨by kernel_rfl, fun wx hx => by go_simp⟩) hS ?_
  refine wpAnyH_take (i := 12) (v := .int .u32 nh) rfl (by kernel_rfl) (by kernel_rfl) (by kernel_rfl) (fun _ _ _ h => h) (Or.inl ⟨by kernel_rfl, fun wx hx => by go_simp⟩) hS ?_
  refine wpAnyH_take (i := 13) (v := .pointer (some ⟨p, 0, none⟩)) rfl (by kernel_rfl) (by kernel_rfl) (by kernel_rfl) (fun _ _ _ h => h) (Or.inl ⟨by kernel_rfl, fun wx hx => by go_simp⟩) hS ?_
  refine wpAnyH_take (i := 14) (v := .pointer (some ⟨p, 260, none⟩)) rfl (by kernel_rfl) (by kernel_rfl) (by kernel_rfl) (fun _ _ _ h => h) (Or.inl ⟨by kernel_rfl, fun wx hx => by go_simp⟩) hS ?_
  refine wpAnyH_ready (rs := [15]) (by kernel_rfl) (by simp) (AllReadyH.cons rfl (fun Kc hK => ?_) AllReadyH.nil)
  go_simp
  refine hK.out _ _ hS2 (fun hS => ?_)
  clear hK
  refine wpAnyH_done (by kernel_rfl) ?_ _
  clear hS hS0 hS2
  go_simp
  obtain ⟨w3, HW3⟩ : ∃ w3, Hid ((w2.setCell ⟨p, 260, none⟩ (.int .u32 nh)).drew = w3) := ⟨_, ⟨rfl⟩⟩
  replace HA3 : Hid (CutAt w3 p 0 mn mx lo T ((cs.setIfInBounds 259 (.slice ao1 n1 cap1)).setIfInBounds 260 (.int .u32 nh)) (.slice ao1 n1 cap1) (l ++ [(k : Int)]) nh over) := ⟨by rw [← HW3.out]; exact HA3.out⟩
  rw [HW3.out]
  have c259 : w3.cell? ⟨p, 259, none⟩ = some (.slice ao1 n1 cap1) := (HA3.out.cell 259).trans HA3.out.c4
  have c0 : w3.cell? ⟨p, 0, none⟩ = some (.int .i64 mn) := (HA3.out.cell 0).trans HA3.out.c0
  have c1 : w3.cell? ⟨p, 1, none⟩ = some (.int .i64 mx) := (HA3.out.cell 1).trans HA3.out.c1
  have c2 : w3.cell? ⟨p, 2, none⟩ = some (.int .u64 lo) := (HA3.out.cell 2).trans HA3.out.c2
  have c3 : w3.cell? ⟨p, 260, none⟩ = some (.int .u32 nh) := (HA3.out.cell 260).trans HA3.out.c5
  have HE : Hid (endL mn mx lo T (l ++ [(k : Int)]) = decide (mx ≤ (n1 : Int) ∨ mn ≤ (n1 : Int) ∧ nh < lo)) := ⟨by unfold endL; rw [HL1.out, Hnh.out]⟩
  have HCC : Hid (Chg (p :: ob (.slice ao l.length cap)) w w3) := ⟨by rw [← HW3.out]; exact (HC2.out.setCell (.inl (by simp)) _).drew⟩
  have HF : ∀ n, Hid (CutAt (w3.drewN n) p 0 mn mx lo T ((cs.setIfInBounds 259 (.slice ao1 n1 cap1)).setIfInBounds 260 (.int .u32 nh)) (.slice ao1 n1 cap1) (l ++ [(k : Int)]) (hsh T (l ++ [(k : Int)])) over ∧ Chg (p :: ob (.slice ao l.length cap)) w (w3.drewN n) ∧ (Value.ownBlock (.slice ao1 n1 cap1) = Value.ownBlock (.slice ao l.length cap) ∨ Value.ownBlock (.slice ao1 n1 cap1) = some (w.heap.size + 1))) := fun n => ⟨by
    rw [Hnh.out]
    exact ⟨HA3.out.far (chg_drewN w3 n) (by simp) (by simp), HCC.out.trans (chg_drewN w3 n).weak, HC1.out.2.2⟩⟩
  have hw8 : IntKind.u64.wrap nh = nh := by rw [wrap_u64]; omega
  clear hA hsum h260
  by_cases q1 : mx ≤ (n1 : Int)
  · have HE1 : Hid (endL mn mx lo T (l ++ [(k : Int)]) = true) := ⟨by rw [HE.out, decide_eq_true (.inl q1)]⟩
    go_wp2
    go_quiet (fail)
    go_wp2
    go_ret
    exact ⟨by rw [HE1.out]; rfl, _, _, (HF _).out⟩
  have d1 : decide (mx ≤ (n1 : Int)) = false := by simpa using q1
  by_cases q2 : mn ≤ (n1 : Int)
  · by_cases q3 : nh < lo
    · have HE1 : Hid (endL mn mx lo T (l ++ [(k : Int)]) = true) := ⟨by rw [HE.out, decide_eq_true (.inr ⟨q2, q3⟩)]⟩
      go_wp2
      go_quiet (fail)
      go_wp2
      go_ret
      exact ⟨by rw [HE1.out]; rfl, _, _, (HF _).out⟩
    · have HE1 : Hid (endL mn mx lo T (l ++ [(k : Int)]) = false) := ⟨by rw [HE.out, decide_eq_false (by omega)]⟩
      have d3 : decide (nh < lo) = false := by simpa using q3
      go_wp2
      go_quiet (fail)
      go_wp2
      go_ret
      exact ⟨by rw [HE1.out]; rfl, _, _, (HF _).out⟩
  · have HE1 : Hid (endL mn mx lo T (l ++ [(k : Int)]) = false) := ⟨by rw [HE.out, decide_eq_false (by omega)]⟩
    have d2 : decide (mn ≤ (n1 : Int)) = false := by simpa using q2
    go_wp2
    go_quiet (fail)
    go_wp2
    go_ret
    exact ⟨by rw [HE1.out]; rfl, _, _, (HF _).out⟩
end
end Go.Proofs.Ytngeefipeghjiaa
