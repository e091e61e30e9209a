/- The taker: a tick is taken. -/
import Derived.Test.YtdcmagdglmmdkaaN6
namespace Go.Proofs.Ytdcmagdglmmdkaa
open Go.RowKit
/-- The facts in a list, here ticks: a tick's cells. -/
def fc (T : Int) : List Value := (tk T).toList
theorem eltF : Elt Try.prog 39 35 14 168 := ⟨Try.underlying39, by
  obtain ⟨i, h1, h2, h3, h4⟩ := info_parts' (show (Try.prog.info? 35).map (fun i => (i.zero, i.size, i.bytes)) = some (some (.agg (#[.int .i64 0, .int .i64 0, .int .i64 0, .int .i64 0, .string { data := #[] }, .int .i64 0, .int .i64 0, .slice none 0 0, .slice none 0 0, .slice none 0 0, .int .i64 0, .int .i64 0, .int .i64 0, .int .i64 0])), 14, 168) by kernel_rfl)
  exact ⟨i, _, h1, h2, h3, h4, rfl⟩, by decide⟩
theorem Chg.setRow {X : List Nat} {w w' : World} (h : Chg X w w') {g : Nat} (hg : g ∈ X ∨ w.heap.size ≤ g) (cs : Array Value) : Chg X w (w'.setRow g cs) :=
  ⟨h.os, h.tape, h.output, by simpa using h.size, fun k hk hx => (setRow_other w' g k cs (fun e => by subst e; rcases hg with q | q; exact hx q; omega)).trans (h.block k hk hx)⟩
theorem bs_far {w w' : World} {v : Value} {bs : List Int} {X : List Nat} (h : Oct.Bs w v bs) (hc : Chg X w w') (hx : ∀ k, v.ownBlock = some k → k ∉ X) : Oct.Bs w' v bs := by
  obtain ⟨a, cap, rfl, h1, h2, h3, h4⟩ := h
  refine ⟨a, cap, rfl, h1, h2, h3, fun x hxa i hi => ?_⟩
  have q := h4 x hxa i hi
  refine (hc.cell (World.block_lt_of_cell? _ _ q) ?_).trans q
  rw [add_block]
  exact hx _ (by rw [hxa]; rfl)
section
variable {w : World}
theorem results_row {P : Program} {fn : Func} {p : Tmp} {ty : TypeId} (h : fn.results = #[.cell p ty]) (tmps : Array Value) (w : World) (g : Nat) (t : TypeId) (cs : Array Value) (fr : Nat × Nat) (d : TypeDesc)
    (hp : tmps.getD p undef = .pointer (some ⟨g, 0, none⟩)) (hg : w.heap[g]? = some (.cells cs t fr))
    (hu : P.underlying ty = some d) (hd : (match d with | .struct _ | .array _ _ => true | _ => false) = true) (hi : (P.info? ty).map (·.size) = some cs.size) :
    (results fn tmps).run P w = .ok (.agg cs) w := by
  have hp' : tmps[p]?.getD undef = .pointer (some ⟨g, 0, none⟩) := by simpa using hp
  simp [results, h, hp', asAddr, run_loadVar_row w g t ty cs fr d hg hu hd hi]
set_option maxHeartbeats 8000000 in
set_option maxRecDepth 100000 in
theorem fact_tick {p : Nat} {v : Value} {bs : List Int} {i n j k : Int} (hT : TkAt w p v i) (hv : Oct.Bs w v bs) (hvb : ∀ g, v.ownBlock = some g → g < w.heap.size ∧ g ≠ p) (hby : ∀ x ∈ bs, 0 ≤ x ∧ x < 256) (h1 : nm bs i = .ok (8, j)) (h2 : nm bs j = .ok (n, k)) :
    Calls Try.prog 74 #[.pointer (some ⟨p, 0, none⟩)] w fun e w' => e = .returned (.agg (tk n)) ∧ TkAt w' p v k ∧ Chg [p] w w' := by
  have HV : Hid (Oct.Bs w v bs) := ⟨hv⟩
  have HVb := Hid.mk hvb
  have HBY := Hid.mk hby
  have H2 : Hid (nm bs j = .ok (n, k)) := ⟨h2⟩
  have Hn : Hid (0 ≤ n ∧ n ≤ 9007199254740991) := ⟨by have := (nmn_ok hby h2).2; omega⟩
  have Hpl : Hid (p < w.heap.size) := ⟨hT.lt⟩
  obtain ⟨rb, Hrb⟩ : ∃ x, Hid (w.heap.size = x) := ⟨_, ⟨rfl⟩⟩
  obtain ⟨Z, HZ⟩ : ∃ Z : Array Value, Hid (#[.int .i64 0, .int .i64 0, .int .i64 0, .int .i64 0, .string { data := #[] }, .int .i64 0, .int .i64 0, .slice none 0 0, .slice none 0 0, .slice none 0 0, .int .i64 0, .int .i64 0, .int .i64 0, .int .i64 0] = Z) := ⟨_, ⟨rfl⟩⟩
  obtain ⟨w1, Hw1⟩ : ∃ x, Hid (w.alloc (.cells #[.int .i64 0, .int .i64 0, .int .i64 0, .int .i64 0, .string { data := #[] }, .int .i64 0, .int .i64 0, .slice none 0 0, .slice none 0 0, .slice none 0 0, .int .i64 0, .int .i64 0, .int .i64 0, .int .i64 0] 35) = x) := ⟨_, ⟨rfl⟩⟩
  have HR1 : Hid (w1.heap[rb]? = some (.cells Z 35 (0, 0))) := ⟨by rw [← Hw1.out, ← Hrb.out, ← HZ.out]; exact heap_alloc_new w _⟩
  have HB1 : Hid (Below w.heap.size w w1) := ⟨by rw [← Hw1.out]; exact (Below.refl _ w).alloc (Nat.le_refl _) _⟩
  have t1 := num_ok (w := w1) (hT.far (Chg.ofBelow (X := []) HB1.out) (by simp)) (hv.below HB1.out) hby h1
  have t18 := fun (w : World) => kind_any (w := w) 8
  rw [decide_eq_true (by omega : (1 : Int) ≤ 8 ∧ (8 : Int) ≤ 9)] at t18
  have t29 := fun (w : World) => way_tick (w := w)
  clear hT hv hvb hby h1 h2
  go_enter Try.func74, Try.ntmps74
  go_upto_region 1 with fail
  rw [Hw1.out]
  first | rw [Hrb.out] | skip
  go_upto_region 4 with (first
    | (go_at_call 80; refine t1.mono ?_; rintro e w2 ⟨rfl, hT2, hc2⟩; clear t1; have HT2 : Hid (TkAt w2 p v j) := ⟨hT2⟩; have HC2 : Hid (Chg [p] w1 w2) := ⟨hc2⟩; clear hT2 hc2)
    | (go_at_call 18; refine (t18 _).mono ?_; rintro e w' ⟨rfl, ex⟩; subst ex))
  obtain ⟨fb, Hfb⟩ : ∃ x, Hid (w2.heap.size = x) := ⟨_, ⟨rfl⟩⟩
  obtain ⟨w3, Hw3⟩ : ∃ x, Hid (w2.alloc (.cells (tk 0) 35) = x) := ⟨_, ⟨rfl⟩⟩
  have HF3 : Hid (w3.heap[fb]? = some (.cells (tk 0) 35 (0, 0))) := ⟨by rw [← Hw3.out, ← Hfb.out]; exact heap_alloc_new w2 _⟩
  have HB3 : Hid (Below w2.heap.size w2 w3) := ⟨by rw [← Hw3.out]; exact (Below.refl _ w2).alloc (Nat.le_refl _) _⟩
  rw [Hw3.out]
  first | rw [Hfb.out] | skip
  have k3 : w3.cell? ⟨fb, 0, none⟩ = some (.int .i64 8) := (cell_of_row _ _ _ _ _ _ HF3.out).trans rfl
  go_upto_region 5 with (first
    | (refine wpl_field rfl 69 (.tmp 15) 1 rfl _ _ rfl (way_take _) ?_)
    | (go_at_call 29; refine (t29 _).mono ?_; rintro e w4 ⟨rfl, hb4⟩; have HB34 : Hid (Below w3.heap.size w3 w4) := ⟨hb4⟩; clear hb4))
  have HB24 : Hid (Below w2.heap.size w2 w4) := ⟨HB3.out.trans (HB34.out.mono HB3.out.size)⟩
  have HF4 : Hid (w4.heap[fb]? = some (.cells (tk 0) 35 (0, 0))) := ⟨(HB34.out.block fb (Array.getElem?_eq_some_iff.1 HF3.out).1).trans HF3.out⟩
  have HT4 : Hid (TkAt w4 p v j) := ⟨HT2.out.far (Chg.ofBelow (X := []) HB24.out) (by simp)⟩
  have HV4 : Hid (Oct.Bs w4 v bs) := ⟨(bs_far (HV.out.below HB1.out) HC2.out (fun g hg => by simpa using (HVb.out g hg).2)).below HB24.out⟩
  have t66 := ticked_ok HT4.out HV4.out HBY.out H2.out HF4.out
  have Hfl : Hid (w.heap.size ≤ fb) := ⟨by rw [← Hfb.out]; exact Nat.le_trans HB1.out.size HC2.out.size⟩
  go_upto_region 6 with (go_at_call 66; refine t66.mono ?_; rintro e w5 ⟨rfl, hT5, hF5, hc5⟩; clear t66)
  have HT5 : Hid (TkAt w5 p v k) := ⟨hT5⟩
  have HF5 : Hid (w5.heap[fb]? = some (.cells (tk n) 35 (0, 0))) := ⟨hF5⟩
  have HC4 : Hid (Chg [p] w w4) := ⟨((Chg.ofBelow (X := [p]) HB1.out).trans HC2.out).trans (Chg.ofBelow HB24.out)⟩
  have HC5 : Hid (Chg [p] w w5) := ⟨HC4.out.thenNew hc5 (fun x hx => by simp at hx; rcases hx with q | q; exact .inl (by simp [q]); exact .inr (by rw [q]; exact Hfl.out))⟩
  have HRl : Hid (rb < w1.heap.size) := ⟨(Array.getElem?_eq_some_iff.1 HR1.out).1⟩
  have Hpr : Hid (rb ≠ p ∧ rb ≠ fb) := ⟨by have h1 := Hpl.out; have h2 := Hrb.out; have h3 := Hfb.out; have h4 := HC2.out.size; have h5 := HRl.out; omega⟩
  have HR2 : Hid (w2.heap[rb]? = some (.cells Z 35 (0, 0))) := ⟨(HC2.out.block rb HRl.out (by simpa using Hpr.out.1)).trans HR1.out⟩
  have HR4 : Hid (w4.heap[rb]? = some (.cells Z 35 (0, 0))) := ⟨(HB24.out.block rb (Array.getElem?_eq_some_iff.1 HR2.out).1).trans HR2.out⟩
  have HR5 : Hid (w5.heap[rb]? = some (.cells Z 35 (0, 0))) := ⟨(hc5.block rb (Array.getElem?_eq_some_iff.1 HR4.out).1 (by simpa using Hpr.out)).trans HR4.out⟩
  clear hT5 hF5 hc5
  have t11 := chk_tick (w := w5) n Hn.out.1 Hn.out.2
  go_upto_region 7 with (first
    | (refine wpList_load_row rfl 35 (.tmp 3) rfl fb rfl 35 (tk n) (0, 0) _ HF5.out Try.underlying35 rfl info35 ?_)
    | (go_at_call 11; refine t11.mono ?_; rintro e w6 ⟨rfl, hb6⟩; clear t11; have HB56 : Hid (Below w5.heap.size w5 w6) := ⟨hb6⟩; clear hb6)
    | (go_at_call 73; refine (stop_ok (w := w6)).mono ?_; rintro e w' ⟨rfl, ex⟩; subst ex))
  have HF6 : Hid (w6.heap[fb]? = some (.cells (tk n) 35 (0, 0))) := ⟨(HB56.out.block fb (Array.getElem?_eq_some_iff.1 HF5.out).1).trans HF5.out⟩
  have HR6 : Hid (w6.heap[rb]? = some (.cells Z 35 (0, 0))) := ⟨(HB56.out.block rb (Array.getElem?_eq_some_iff.1 HR5.out).1).trans HR5.out⟩
  have HZs : Hid (Z.size = 14) := ⟨by rw [← HZ.out]; rfl⟩
  go_wp2_with (first
    | (refine wpList_load_row rfl 35 (.tmp 3) rfl fb rfl 35 (tk n) (0, 0) _ HF6.out Try.underlying35 rfl info35 ?_)
    | (refine wpList_store_row rfl 35 (.tmp 2) (.tmp 23) rfl rb (tk n) rfl rfl 35 Z HR6.out info35 (HZs.out.trans rfl) (by kernel_rfl) ?_))
  refine bodyPost_ret (v := .agg (tk n)) (results_row Try.results74 _ _ rb 35 _ (0, 0) _ (by kernel_rfl) (setRow_heap _ _ _ _ 35 (0, 0) HR6.out) Try.underlying35 rfl info35) rfl ⟨rfl, ?_, ?_⟩
  · exact (HT5.out.far (Chg.ofBelow (X := []) HB56.out) (by simp)).far ((Chg.refl [rb] w6).setRow (.inl (by simp)) _) (by simpa using fun e => Hpr.out.1 e.symm)
  · exact (HC5.out.trans (Chg.ofBelow HB56.out)).setRow (.inr (by rw [Hrb.out]; exact Nat.le_refl _)) _
end
end Go.Proofs.Ytdcmagdglmmdkaa
