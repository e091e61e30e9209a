/- The sector that counts. -/
import Derived.Test.YtgjjjkokmgdmjaaDoorS11
namespace Go.Proofs.YtgjjjkokmgdmjaaDoor
open Go.RowKit
/-- Which counts: its place, its mark, its text; a sector more. -/
def cstep (x : Int × Nat × List Int) (k : Int) (y : Nat × List Int) : Int × Nat × List Int := if x.2.1 < y.1 then (k, y.1, y.2) else x
def cn0 : Int × Nat × List Int := (-1, 0, [])
def cn1 (l0 : List Int) : Int × Nat × List Int := cstep cn0 0 (Sl.sayB crB l0)
def cn2 (l0 l1 : List Int) : Int × Nat × List Int := cstep (cn1 l0) 1 (Sl.sayB crB l1)
def cnk (l0 l1 : List Int) : Nat → Int × Nat × List Int
  | 0 => cn0
  | 1 => cn1 l0
  | _ => cn2 l0 l1
theorem run_box60 (w : World) (cs : Array Value) : (Instr.box 60 (.agg cs)).run Tryd.prog w = .ok (.pointer (some ⟨w.heap.size, 0, none⟩)) (w.alloc (.cells cs 60)) := by
  simp [Instr.box, newVar, newRow, Value.cells]
theorem agg59 (w : World) : (isAgg 59).run Tryd.prog w = .ok true w := by kernel_rfl
theorem size59 (w : World) : (sizeOf 59).run Tryd.prog w = .ok 128 w := by kernel_rfl
theorem under60 : Tryd.prog.underlying 60 = some (.array 2 59) := by kernel_rfl
theorem run_ix0 (w : World) {l0 l1 : List Int} (h0 : l0.length = 128) : (Instr.index 60 (.agg (Dk.pa (l0 ++ l1))) (.int .i64 0)).run Tryd.prog w = .ok (.agg (Dk.pa l0)) w := by
  have hp := partA w 59 0 128 (l0 ++ l1) (agg59 w) (size59 w)
  rw [List.drop_zero, List.take_append_of_le_length (by omega), List.take_of_length_le (by omega)] at hp
  simp only [Instr.index, asIntOf, Sem.run_bind, Sem.run_pure, Result.andThen_ok, run_underlying under60]
  rw [if_pos (by decide)]
  simp only [Sem.run_bind, size59, Result.andThen_ok]
  have e : (0 : Int).toNat * 128 = 0 := rfl
  rw [e]
  exact hp
theorem run_ix1 (w : World) {l0 l1 : List Int} (h0 : l0.length = 128) (h1 : l1.length = 128) : (Instr.index 60 (.agg (Dk.pa (l0 ++ l1))) (.int .i64 1)).run Tryd.prog w = .ok (.agg (Dk.pa l1)) w := by
  have hp := partA w 59 128 128 (l0 ++ l1) (agg59 w) (size59 w)
  rw [List.drop_append_of_le_length (by omega), List.drop_of_length_le (by omega), List.nil_append, List.take_of_length_le (by omega)] at hp
  simp only [Instr.index, asIntOf, Sem.run_bind, Sem.run_pure, Result.andThen_ok, run_underlying under60]
  rw [if_pos (by decide)]
  simp only [Sem.run_bind, size59, Result.andThen_ok]
  have e : (1 : Int).toNat * 128 = 128 := rfl
  rw [e]
  exact hp
theorem own_setRow' {w : World} {base : Nat} {v : Value} {bs : List Int} {r : Nat} {c : Array Value} (h : OwnB w base v bs) (hr : w.heap[r]? = some (.cells c 64 (0, 0))) (cs : Array Value) : OwnB (w.setRow r cs) base v bs := by
  refine ⟨h.1, ?_⟩
  rcases h.2 with hn | ⟨g, cap, cur, rfl, hb', hh, q⟩
  · exact .inl hn
  · refine .inr ⟨g, cap, cur, rfl, hb', ?_, q⟩
    rw [setRow_other _ _ _ _ (fun e => by subst e; rw [hr] at hh; simp at hh)]
    exact hh
theorem results_tmp_row {P : Program} {fn : Func} {p u : Tmp} {ty : TypeId} (h : fn.results = #[.tmp u, .cell p ty]) (tmps : Array Value) (w : World) (g : Nat) (t : TypeId) (cs : Array Value) (fr : Nat × Nat) (d : TypeDesc)
    (hp : tmps.getD p undef = .pointer (some ⟨g, 0, none⟩)) (hg : w.heap[g]? = some (.cells cs t fr))
    (hu : P.underlying ty = some d) (hd : (match d with | .struct _ | .array _ _ => true | _ => false) = true) (hi : (P.info? ty).map (·.size) = some cs.size) :
    (results fn tmps).run P w = .ok (.tuple #[tmps.getD u undef, .agg cs]) w := by
  have hp' : tmps[p]?.getD undef = .pointer (some ⟨g, 0, none⟩) := by simpa using hp
  simp [results, h, hp', asAddr, run_loadVar_row w g t ty cs fr d hg hu hd hi]
theorem own_other {w w' : World} {base : Nat} {v : Value} {bs : List Int} {r : Nat} {c : Array Value} (h : OwnB w base v bs) (hr : w.heap[r]? = some (.cells c 64 (0, 0))) (hk : ∀ k, k ≠ r → w'.heap[k]? = w.heap[k]?) : OwnB w' base v bs := by
  refine ⟨h.1, ?_⟩
  rcases h.2 with hn | ⟨g, cap, cur, rfl, hb', hh, q⟩
  · exact .inl hn
  · refine .inr ⟨g, cap, cur, rfl, hb', ?_, q⟩
    rw [hk g (fun e => by subst e; rw [hr] at hh; simp at hh)]
    exact hh
theorem below_set2 {B : Nat} {w0 w : World} {s : Nat} (h : Below B w0 w) (hs : B ≤ s) (i j : Nat) (u v : Value) : Below B w0 ((w.setCell ⟨s, i, none⟩ u).setCell ⟨s, j, none⟩ v).drew := ((h.setCell (p := ⟨s, i, none⟩) hs u).setCell (p := ⟨s, j, none⟩) hs v).drew
section
variable {w : World}
set_option maxHeartbeats 8000000 in
set_option maxRecDepth 100000 in
theorem counting_any (l0 l1 : List Int) (h0 : l0.length = 128) (h1 : l1.length = 128) (b0 : Dk.Byt l0) (b1 : Dk.Byt l1) (hV : Vars w) : Calls Tryd.prog 22 #[.agg (Dk.pa (l0 ++ l1))] w fun e w' => ∃ v, e = .returned (.tuple #[.int .i64 (cn2 l0 l1).1, .agg (ent ((cn2 l0 l1).2.1 : Int) v)]) ∧ OwnB w' w.heap.size v (cn2 l0 l1).2.2 ∧ Below w.heap.size w w' := by
  have hbox := run_box60
  have HV : Hid (Vars w) := ⟨hV⟩
  have H0 : Hid (l0.length = 128 ∧ Dk.Byt l0) := ⟨h0, b0⟩
  have H1 : Hid (l1.length = 128 ∧ Dk.Byt l1) := ⟨h1, b1⟩
  have hx0 := fun (w : World) => run_ix0 w (l1 := l1) h0
  have hx1 := fun (w : World) => run_ix1 w h0 h1
  obtain ⟨PL, HPL⟩ : ∃ P, Hid (Dk.pa (l0 ++ l1) = P) := ⟨_, ⟨rfl⟩⟩
  have Hsz : Hid (PL.size = 256) := ⟨by rw [← HPL.out, Dk.pa_size, List.length_append, h0, h1]⟩
  rw [HPL.out] at hx0 hx1 ⊢
  clear h0 h1 b0 b1 hV
  obtain ⟨b, Hb⟩ : ∃ b, Hid (w.heap.size = b) := ⟨_, ⟨rfl⟩⟩
  obtain ⟨w1, Hw1⟩ : ∃ w1, Hid (w.alloc (.cells PL 60) = w1) := ⟨_, ⟨rfl⟩⟩
  have HR1 : Hid (w1.heap[b]? = some (.cells PL 60 (0, 0))) := ⟨by rw [← Hw1.out, ← Hb.out]; exact heap_alloc_new w _⟩
  have HB1 : Hid (Below w.heap.size w w1) := ⟨by rw [← Hw1.out]; exact (Below.refl _ w).alloc (Nat.le_refl _) _⟩
  have Hs1 : Hid (w1.heap.size = b + 1) := ⟨by rw [← Hw1.out, ← Hb.out]; simp⟩
  obtain ⟨r, Hr⟩ : ∃ r, Hid (w1.heap.size = r) := ⟨_, ⟨rfl⟩⟩
  obtain ⟨w2, Hw2⟩ : ∃ x, Hid (w1.alloc (.cells (ent 0 (.slice none 0 0)) 64) = x) := ⟨_, ⟨rfl⟩⟩
  have HE2 : Hid (w2.heap[r]? = some (.cells (ent 0 (.slice none 0 0)) 64 (0, 0))) := ⟨by rw [← Hw2.out, ← Hr.out]; exact heap_alloc_new w1 _⟩
  have HB12 : Hid (Below w1.heap.size w1 w2) := ⟨by rw [← Hw2.out]; exact (Below.refl _ w1).alloc (Nat.le_refl _) _⟩
  have Hs2 : Hid (w2.heap.size = b + 2) := ⟨by rw [← Hw2.out]; simp [Hs1.out]⟩
  obtain ⟨s, Hs⟩ : ∃ s, Hid (w2.heap.size = s) := ⟨_, ⟨rfl⟩⟩
  obtain ⟨w3, Hw3⟩ : ∃ x, Hid (w2.alloc (.cells (ent 0 (.slice none 0 0)) 64) = x) := ⟨_, ⟨rfl⟩⟩
  have HS3 : Hid (w3.heap[s]? = some (.cells (ent 0 (.slice none 0 0)) 64 (0, 0))) := ⟨by rw [← Hw3.out, ← Hs.out]; exact heap_alloc_new w2 _⟩
  have HB23 : Hid (Below w2.heap.size w2 w3) := ⟨by rw [← Hw3.out]; exact (Below.refl _ w2).alloc (Nat.le_refl _) _⟩
  have HB13 : Hid (Below w1.heap.size w1 w3) := ⟨HB12.out.trans (HB23.out.mono HB12.out.size)⟩
  have HB3 : Hid (Below w.heap.size w w3) := ⟨HB1.out.trans (HB13.out.mono HB1.out.size)⟩
  have HR3 : Hid (w3.heap[b]? = some (.cells PL 60 (0, 0))) := ⟨(HB13.out.block b (Array.getElem?_eq_some_iff.1 HR1.out).1).trans HR1.out⟩
  have HE3 : Hid (w3.heap[r]? = some (.cells (ent 0 (.slice none 0 0)) 64 (0, 0))) := ⟨(HB23.out.block r (Array.getElem?_eq_some_iff.1 HE2.out).1).trans HE2.out⟩
  have Hrs : Hid (r = b + 1 ∧ s = b + 2) := ⟨by have h1 := Hs1.out; have h2 := Hr.out; have h3 := Hs2.out; have h4 := Hs.out; omega⟩
  have hself : w3.setRow s (ent 0 (.slice none 0 0)) = w3 := setRow_self _ _ _ _ _ HS3.out
  have hi64 : ∀ m v, (Tryd.prog.info? 64).map (·.size) = some (ent m v).size := fun _ _ => info64
  have hi60 : (Tryd.prog.info? 60).map (·.size) = some PL.size := by rw [Hsz.out]; exact info60
  go_enter Tryd.func22, Tryd.ntmps22
  go_upto_region 1 with fail
  rw [Hw1.out]
  first | rw [Hb.out] | skip
  rw [Hw2.out]
  have er : b + 1 = r := Hrs.out.1.symm
  first | rw [er] | rw [Hr.out]
  clear er
  go_upto_region 2 with (first
    | (refine wpList_store_row rfl 64 (.tmp 5) (.tmp 9) rfl s (ent 0 (.slice none 0 0)) rfl rfl 64 (ent 0 (.slice none 0 0)) HS3.out (hi64 _ _) rfl (by kernel_rfl) ?_; rw [hself])
    | (rw [Hw3.out, Hs.out]; refine wpList_store_row rfl 64 (.tmp 5) (.tmp 9) rfl s (ent 0 (.slice none 0 0)) rfl rfl 64 (ent 0 (.slice none 0 0)) HS3.out (hi64 _ _) rfl (by kernel_rfl) ?_; rw [hself]))
  go_upto_region 3 with (refine wpList_load_row rfl 60 (.tmp 1) rfl b rfl 60 PL (0, 0) _ HR3.out Tryd.underlying60 rfl hi60 ?_)
  go_loopg [4, 11] 2 (fun gg s4 s11 wr => ∃ k : Nat, k ≤ 2 ∧ 2 - k ≤ gg ∧ s11 = .int .i64 (k : Int) ∧ s4 = .int .i64 (cnk l0 l1 k).1 ∧ ∃ av nv cv, Hid (wr.heap[s]? = some (.cells (ent ((cnk l0 l1 k).2.1 : Int) (.slice av nv cv)) 64 (0, 0))) ∧ Hid (OwnB wr w.heap.size (.slice av nv cv) (cnk l0 l1 k).2.2) ∧ Hid (wr.heap[r]? = some (.cells (ent 0 (.slice none 0 0)) 64 (0, 0))) ∧ Hid (Below w.heap.size w wr))
  case atStart => exact ⟨0, by decide, by decide, rfl, rfl, none, 0, 0, HS3, ⟨Oc.OwnB.nil _ _ _⟩, HE3, HB3⟩
  case round =>
    obtain ⟨k, hk, hgg, rfl, rfl, av, nv, cv, HSr, HOr, HEr, HBr⟩ := hrel
    rcases (by omega : k = 0 ∨ k = 1 ∨ k = 2) with rfl | rfl | rfl
    · skip
      have hxk : ∀ w, (Instr.index 60 (.agg PL) (.int .i64 ((0 : Nat) : Int))).run Tryd.prog w = .ok (.agg (Dk.pa l0)) w := hx0
      obtain ⟨X, HX⟩ : ∃ X, Hid (cnk l0 l1 0 = X) := ⟨_, ⟨rfl⟩⟩
      rw [HX.out] at HSr HOr ⊢
      obtain ⟨ac, m, T⟩ := X
      have HXn : Hid (cnk l0 l1 1 = cstep (ac, m, T) 0 (Sl.sayB crB l0)) := ⟨by rw [← HX.out]; rfl⟩
      obtain ⟨c, Hc⟩ : ∃ c, Hid (wr.heap.size = c) := ⟨_, ⟨rfl⟩⟩
      obtain ⟨w4, Hw4⟩ : ∃ x, Hid (wr.alloc (.cells (Dk.pa Dk.zp) 59) = x) := ⟨_, ⟨rfl⟩⟩
      have HC4 : Hid (w4.heap[c]? = some (.cells (Dk.pa Dk.zp) 59 (0, 0))) := ⟨by rw [← Hw4.out, ← Hc.out]; exact heap_alloc_new wr _⟩
      have HB4 : Hid (Below wr.heap.size wr w4) := ⟨by rw [← Hw4.out]; exact (Below.refl _ wr).alloc (Nat.le_refl _) _⟩
      obtain ⟨w5, Hw5⟩ : ∃ x, Hid (w4.setRow c (Dk.pa l0) = x) := ⟨_, ⟨rfl⟩⟩
      have HC5 : Hid (w5.heap[c]? = some (.cells (Dk.pa l0) 59 (0, 0))) := ⟨by rw [← Hw5.out]; exact setRow_heap _ _ _ _ 59 (0, 0) HC4.out⟩
      have HB5 : Hid (Below wr.heap.size wr w5) := ⟨by rw [← Hw5.out]; exact Dk.below_setRow' HB4.out (by rw [Hc.out]; exact Nat.le_refl _) _⟩
      have HB05 : Hid (Below w.heap.size w w5) := ⟨HBr.out.trans (HB5.out.mono HBr.out.size)⟩
      have hi59 : (Tryd.prog.info? 59).map (·.size) = some (Dk.pa l0).size := by rw [Dk.pa_size, H0.out.1]; exact info59
      have t5 := says_any (w := w5) l0 H0.out.1 H0.out.2 (Dg.NibsAt.below HV.out HB05.out)
      go_upto_region 6 with (first
        | (refine wpl_alloc59 rfl rfl ?_; rw [Hw4.out, Hc.out])
        | (refine wpList_store_row rfl 59 (.tmp 7) (.tmp 14) rfl c (Dk.pa l0) rfl rfl 59 (Dk.pa Dk.zp) HC4.out hi59 (by rw [Dk.pa_size, Dk.pa_size, H0.out.1]; simp [Dk.zp]) (Dk.pa_one _) ?_; rw [Hw5.out])
        | (refine wpList_load_row rfl 59 (.tmp 7) rfl c rfl 59 (Dk.pa l0) (0, 0) _ HC5.out Tryd.underlying59 rfl hi59 ?_)
        | (go_at_call 36; refine t5.mono ?_; rintro e w6 ⟨v6, rfl, hO6, hB6⟩; obtain ⟨a6, c6, rfl⟩ := Oc.OwnB.slice hO6; have HO6 : Hid (OwnB w6 w5.heap.size (.slice a6 (Sl.sayB crB l0).2.length c6) (Sl.sayB crB l0).2) := ⟨hO6⟩; have HB6 : Hid (Below w5.heap.size w5 w6) := ⟨hB6⟩; clear hO6 hB6 t5; obtain ⟨f, Hf⟩ : ∃ f, Hid (w6.heap.size = f) := ⟨_, ⟨rfl⟩⟩; obtain ⟨w7, Hw7⟩ : ∃ x, Hid (w6.alloc (.cells (ent 0 (.slice none 0 0)) 64) = x) := ⟨_, ⟨rfl⟩⟩; have HF7 : Hid (w7.heap[f]? = some (.cells (ent 0 (.slice none 0 0)) 64 (0, 0))) := ⟨by rw [← Hw7.out, ← Hf.out]; exact heap_alloc_new w6 _⟩; have HB7 : Hid (Below w6.heap.size w6 w7) := ⟨by rw [← Hw7.out]; exact (Below.refl _ w6).alloc (Nat.le_refl _) _⟩; obtain ⟨w8, Hw8⟩ : ∃ x, Hid (w7.setRow f (ent ((Sl.sayB crB l0).1 : Int) (.slice a6 (Sl.sayB crB l0).2.length c6)) = x) := ⟨_, ⟨rfl⟩⟩)
        | (rw [Hw7.out, Hf.out]; refine wpList_store_row rfl 64 (.tmp 8) (.tmp 16) rfl f (ent ((Sl.sayB crB l0).1 : Int) (.slice a6 (Sl.sayB crB l0).2.length c6)) rfl rfl 64 (ent 0 (.slice none 0 0)) HF7.out (hi64 _ _) rfl (by kernel_rfl) ?_; rw [Hw8.out]))
      have HF8 : Hid (w8.heap[f]? = some (.cells (ent ((Sl.sayB crB l0).1 : Int) (.slice a6 (Sl.sayB crB l0).2.length c6)) 64 (0, 0))) := ⟨by rw [← Hw8.out]; exact setRow_heap _ _ _ _ 64 (0, 0) HF7.out⟩
      have HB68 : Hid (Below w6.heap.size w6 w8) := ⟨by rw [← Hw8.out]; exact Dk.below_setRow' HB7.out (by rw [Hf.out]; exact Nat.le_refl _) _⟩
      have HBr8 : Hid (Below wr.heap.size wr w8) := ⟨HB5.out.trans ((HB6.out.trans (HB68.out.mono HB6.out.size)).mono HB5.out.size)⟩
      have HB08 : Hid (Below w.heap.size w w8) := ⟨HBr.out.trans (HBr8.out.mono HBr.out.size)⟩
      have HS8 : Hid (w8.heap[s]? = some (.cells (ent (m : Int) (.slice av nv cv)) 64 (0, 0))) := ⟨(HBr8.out.block s (Array.getElem?_eq_some_iff.1 HSr.out).1).trans HSr.out⟩
      have HE8 : Hid (w8.heap[r]? = some (.cells (ent 0 (.slice none 0 0)) 64 (0, 0))) := ⟨(HBr8.out.block r (Array.getElem?_eq_some_iff.1 HEr.out).1).trans HEr.out⟩
      have HO8 : Hid (OwnB w8 w.heap.size (.slice a6 (Sl.sayB crB l0).2.length c6) (Sl.sayB crB l0).2) := ⟨Oc.OwnB.mono (Oc.OwnB.below HO6.out HB68.out) HB05.out.size⟩
      have HOr8 : Hid (OwnB w8 w.heap.size (.slice av nv cv) T) := ⟨Oc.OwnB.below HOr.out HBr8.out⟩
      obtain ⟨y, Hy⟩ : ∃ y, Hid (Sl.sayB crB l0 = y) := ⟨_, ⟨rfl⟩⟩
      rw [Hy.out] at HXn HO8 HF8 ⊢
      obtain ⟨my, Ty⟩ := y
      have hcf : w8.cell? ⟨f, 0, none⟩ = some (.int .i64 (my : Int)) := by rw [cell_of_row _ _ _ _ _ _ HF8.out]; rfl
      have hcs : w8.cell? ⟨s, 0, none⟩ = some (.int .i64 (m : Int)) := by rw [cell_of_row _ _ _ _ _ _ HS8.out]; rfl
      have Hfs : Hid (f ≠ s) := ⟨by have h1 := (Array.getElem?_eq_some_iff.1 HSr.out).1; have h2 := HB5.out.size; have h3 := HB6.out.size; have h4 := Hf.out; omega⟩
      have hcs1 : w8.cell? ⟨s, 1, none⟩ = some (.slice av nv cv) := by rw [cell_of_row _ _ _ _ _ _ HS8.out]; rfl
      have hfs0 : w8.frozen? ⟨s, 0, none⟩ = false := by simp [World.frozen?, HS8.out]
      have hfs1 : w8.frozen? ⟨s, 1, none⟩ = false := by simp [World.frozen?, HS8.out]
      by_cases hlt : m < my
      · have hlti : (m : Int) < (my : Int) := by omega
        have hS0 : (loadVar 64 ⟨f, 0, none⟩).run Tryd.prog w8.drew = .ok (.agg (ent (my : Int) (.slice a6 Ty.length c6))) w8.drew := run_loadVar_row w8.drew f 64 64 _ (0, 0) _ HF8.out Tryd.underlying64 rfl info64
        go_upto_region 7 with fail
        refine wp_region_held_drew (S := (fun w' => (loadVar 64 ⟨f, 0, none⟩).run Tryd.prog w' = .ok (.agg (ent (my : Int) (.slice a6 Ty.length c6))) w')) (by kernel_rfl) hS0 (fun hS => ?_)
        refine wpAnyH_take (i := 0) (v := .int .i64 ((0 : Nat) : Int)) rfl (by kernel_rfl) (by kernel_rfl) (by kernel_rfl) (fun _ _ _ h => h) (Or.inl ⟨by kernel_rfl, fun _ _ => by kernel_rfl⟩) hS ?_
        refine wpAnyH_take (i := 1) (v := .agg (ent (my : Int) (.slice a6 Ty.length c6))) rfl (by kernel_rfl) (by kernel_rfl) (by kernel_rfl) (fun _ _ _ h => h) (Or.inl ⟨by kernel_rfl, fun wx hx => exec_load rfl f 0 (by kernel_rfl) hx⟩) hS ?_
        refine wpAnyH_take (i := 2) (v := .int .i64 ((0 : Nat) : Int)) rfl (by kernel_rfl) (by kernel_rfl) (by kernel_rfl) (fun _ _ _ h => h) (Or.inl ⟨by kernel_rfl, fun _ _ => by kernel_rfl⟩) hS ?_
        refine wpAnyH_ready (rs := [3]) (by kernel_rfl) (by simp) (AllReadyH.cons rfl (fun Kc hK => ?_) AllReadyH.nil)
        go_simp
        obtain ⟨w9, Hw9⟩ : ∃ x, Hid (((w8.setCell ⟨s, 0, none⟩ (.int .i64 (my : Int))).setCell ⟨s, 1, none⟩ (.slice a6 Ty.length c6)).drew = x) := ⟨_, ⟨rfl⟩⟩
        rw [Hw9.out]
        have HS9 : Hid (w9.heap[s]? = some (.cells (ent (my : Int) (.slice a6 Ty.length c6)) 64 (0, 0))) := ⟨by
          rw [← Hw9.out]
          exact heap_setCell_same _ s 1 _ 64 _ (heap_setCell_same _ s 0 _ 64 _ HS8.out)⟩
        have HK9 : Hid (∀ k, k ≠ s → w9.heap[k]? = w8.heap[k]?) := ⟨fun k hk => by
          rw [← Hw9.out]
          exact (heap_setCell_other _ ⟨s, 1, none⟩ k _ (by simpa using hk)).trans (heap_setCell_other _ ⟨s, 0, none⟩ k _ (by simpa using hk))⟩
        have HF9 : Hid (w9.heap[f]? = some (.cells (ent (my : Int) (.slice a6 Ty.length c6)) 64 (0, 0))) := ⟨(HK9.out f Hfs.out).trans HF8.out⟩
        refine hK.out _ _ (run_loadVar_row w9 f 64 64 _ (0, 0) _ HF9.out Tryd.underlying64 rfl info64) (fun hS => ?_)
        clear hK
        refine wpAnyH_done (by kernel_rfl) ?_ _
        clear hS hS0
        have HE9 : Hid (w9.heap[r]? = some (.cells (ent 0 (.slice none 0 0)) 64 (0, 0))) := ⟨(HK9.out r (by have := Hrs.out; omega)).trans HE8.out⟩
        have HB9 : Hid (Below w.heap.size w w9) := ⟨by rw [← Hw9.out]; exact below_set2 HB08.out (by have := Hrs.out; have := Hb.out; omega) _ _ _ _⟩
        have HO9 : Hid (OwnB w9 w.heap.size (.slice a6 Ty.length c6) Ty) := ⟨own_other HO8.out HS8.out HK9.out⟩
        go_simp
        go_wp2_with fail
        go_roundg 1
        case measure => omega
        case rel => exact ⟨1, by decide, by decide, by go_num, by rw [HXn.out]; simp only [cstep]; rw [if_pos hlt], a6, Ty.length, c6, ⟨by rw [HXn.out]; simp only [cstep]; rw [if_pos hlt]; exact HS9.out⟩, ⟨by rw [HXn.out]; simp only [cstep]; rw [if_pos hlt]; exact HO9.out⟩, HE9, HB9⟩
      · have hlti : ¬ (m : Int) < (my : Int) := by omega
        go_wp2_with fail
        go_roundg 1
        case measure => omega
        case rel => exact ⟨1, by decide, by decide, by go_num, by rw [HXn.out]; simp only [cstep]; rw [if_neg hlt], av, nv, cv, ⟨by rw [HXn.out]; simp only [cstep]; rw [if_neg hlt]; exact HS8.out⟩, ⟨by rw [HXn.out]; simp only [cstep]; rw [if_neg hlt]; exact HOr8.out⟩, HE8, HB08⟩
    · skip
      have hxk : ∀ w, (Instr.index 60 (.agg PL) (.int .i64 ((1 : Nat) : Int))).run Tryd.prog w = .ok (.agg (Dk.pa l1)) w := hx1
      obtain ⟨X, HX⟩ : ∃ X, Hid (cnk l0 l1 1 = X) := ⟨_, ⟨rfl⟩⟩
      rw [HX.out] at HSr HOr ⊢
      obtain ⟨ac, m, T⟩ := X
      have HXn : Hid (cnk l0 l1 2 = cstep (ac, m, T) 1 (Sl.sayB crB l1)) := ⟨by rw [← HX.out]; rfl⟩
      obtain ⟨c, Hc⟩ : ∃ c, Hid (wr.heap.size = c) := ⟨_, ⟨rfl⟩⟩
      obtain ⟨w4, Hw4⟩ : ∃ x, Hid (wr.alloc (.cells (Dk.pa Dk.zp) 59) = x) := ⟨_, ⟨rfl⟩⟩
      have HC4 : Hid (w4.heap[c]? = some (.cells (Dk.pa Dk.zp) 59 (0, 0))) := ⟨by rw [← Hw4.out, ← Hc.out]; exact heap_alloc_new wr _⟩
      have HB4 : Hid (Below wr.heap.size wr w4) := ⟨by rw [← Hw4.out]; exact (Below.refl _ wr).alloc (Nat.le_refl _) _⟩
      obtain ⟨w5, Hw5⟩ : ∃ x, Hid (w4.setRow c (Dk.pa l1) = x) := ⟨_, ⟨rfl⟩⟩
      have HC5 : Hid (w5.heap[c]? = some (.cells (Dk.pa l1) 59 (0, 0))) := ⟨by rw [← Hw5.out]; exact setRow_heap _ _ _ _ 59 (0, 0) HC4.out⟩
      have HB5 : Hid (Below wr.heap.size wr w5) := ⟨by rw [← Hw5.out]; exact Dk.below_setRow' HB4.out (by rw [Hc.out]; exact Nat.le_refl _) _⟩
      have HB05 : Hid (Below w.heap.size w w5) := ⟨HBr.out.trans (HB5.out.mono HBr.out.size)⟩
      have hi59 : (Tryd.prog.info? 59).map (·.size) = some (Dk.pa l1).size := by rw [Dk.pa_size, H1.out.1]; exact info59
      have t5 := says_any (w := w5) l1 H1.out.1 H1.out.2 (Dg.NibsAt.below HV.out HB05.out)
      go_upto_region 6 with (first
        | (refine wpl_alloc59 rfl rfl ?_; rw [Hw4.out, Hc.out])
        | (refine wpList_store_row rfl 59 (.tmp 7) (.tmp 14) rfl c (Dk.pa l1) rfl rfl 59 (Dk.pa Dk.zp) HC4.out hi59 (by rw [Dk.pa_size, Dk.pa_size, H1.out.1]; simp [Dk.zp]) (Dk.pa_one _) ?_; rw [Hw5.out])
        | (refine wpList_load_row rfl 59 (.tmp 7) rfl c rfl 59 (Dk.pa l1) (0, 0) _ HC5.out Tryd.underlying59 rfl hi59 ?_)
        | (go_at_call 36; refine t5.mono ?_; rintro e w6 ⟨v6, rfl, hO6, hB6⟩; obtain ⟨a6, c6, rfl⟩ := Oc.OwnB.slice hO6; have HO6 : Hid (OwnB w6 w5.heap.size (.slice a6 (Sl.sayB crB l1).2.length c6) (Sl.sayB crB l1).2) := ⟨hO6⟩; have HB6 : Hid (Below w5.heap.size w5 w6) := ⟨hB6⟩; clear hO6 hB6 t5; obtain ⟨f, Hf⟩ : ∃ f, Hid (w6.heap.size = f) := ⟨_, ⟨rfl⟩⟩; obtain ⟨w7, Hw7⟩ : ∃ x, Hid (w6.alloc (.cells (ent 0 (.slice none 0 0)) 64) = x) := ⟨_, ⟨rfl⟩⟩; have HF7 : Hid (w7.heap[f]? = some (.cells (ent 0 (.slice none 0 0)) 64 (0, 0))) := ⟨by rw [← Hw7.out, ← Hf.out]; exact heap_alloc_new w6 _⟩; have HB7 : Hid (Below w6.heap.size w6 w7) := ⟨by rw [← Hw7.out]; exact (Below.refl _ w6).alloc (Nat.le_refl _) _⟩; obtain ⟨w8, Hw8⟩ : ∃ x, Hid (w7.setRow f (ent ((Sl.sayB crB l1).1 : Int) (.slice a6 (Sl.sayB crB l1).2.length c6)) = x) := ⟨_, ⟨rfl⟩⟩)
        | (rw [Hw7.out, Hf.out]; refine wpList_store_row rfl 64 (.tmp 8) (.tmp 16) rfl f (ent ((Sl.sayB crB l1).1 : Int) (.slice a6 (Sl.sayB crB l1).2.length c6)) rfl rfl 64 (ent 0 (.slice none 0 0)) HF7.out (hi64 _ _) rfl (by kernel_rfl) ?_; rw [Hw8.out]))
      have HF8 : Hid (w8.heap[f]? = some (.cells (ent ((Sl.sayB crB l1).1 : Int) (.slice a6 (Sl.sayB crB l1).2.length c6)) 64 (0, 0))) := ⟨by rw [← Hw8.out]; exact setRow_heap _ _ _ _ 64 (0, 0) HF7.out⟩
      have HB68 : Hid (Below w6.heap.size w6 w8) := ⟨by rw [← Hw8.out]; exact Dk.below_setRow' HB7.out (by rw [Hf.out]; exact Nat.le_refl _) _⟩
      have HBr8 : Hid (Below wr.heap.size wr w8) := ⟨HB5.out.trans ((HB6.out.trans (HB68.out.mono HB6.out.size)).mono HB5.out.size)⟩
      have HB08 : Hid (Below w.heap.size w w8) := ⟨HBr.out.trans (HBr8.out.mono HBr.out.size)⟩
      have HS8 : Hid (w8.heap[s]? = some (.cells (ent (m : Int) (.slice av nv cv)) 64 (0, 0))) := ⟨(HBr8.out.block s (Array.getElem?_eq_some_iff.1 HSr.out).1).trans HSr.out⟩
      have HE8 : Hid (w8.heap[r]? = some (.cells (ent 0 (.slice none 0 0)) 64 (0, 0))) := ⟨(HBr8.out.block r (Array.getElem?_eq_some_iff.1 HEr.out).1).trans HEr.out⟩
      have HO8 : Hid (OwnB w8 w.heap.size (.slice a6 (Sl.sayB crB l1).2.length c6) (Sl.sayB crB l1).2) := ⟨Oc.OwnB.mono (Oc.OwnB.below HO6.out HB68.out) HB05.out.size⟩
      have HOr8 : Hid (OwnB w8 w.heap.size (.slice av nv cv) T) := ⟨Oc.OwnB.below HOr.out HBr8.out⟩
      obtain ⟨y, Hy⟩ : ∃ y, Hid (Sl.sayB crB l1 = y) := ⟨_, ⟨rfl⟩⟩
      rw [Hy.out] at HXn HO8 HF8 ⊢
      obtain ⟨my, Ty⟩ := y
      have hcf : w8.cell? ⟨f, 0, none⟩ = some (.int .i64 (my : Int)) := by rw [cell_of_row _ _ _ _ _ _ HF8.out]; rfl
      have hcs : w8.cell? ⟨s, 0, none⟩ = some (.int .i64 (m : Int)) := by rw [cell_of_row _ _ _ _ _ _ HS8.out]; rfl
      have Hfs : Hid (f ≠ s) := ⟨by have h1 := (Array.getElem?_eq_some_iff.1 HSr.out).1; have h2 := HB5.out.size; have h3 := HB6.out.size; have h4 := Hf.out; omega⟩
      have hcs1 : w8.cell? ⟨s, 1, none⟩ = some (.slice av nv cv) := by rw [cell_of_row _ _ _ _ _ _ HS8.out]; rfl
      have hfs0 : w8.frozen? ⟨s, 0, none⟩ = false := by simp [World.frozen?, HS8.out]
      have hfs1 : w8.frozen? ⟨s, 1, none⟩ = false := by simp [World.frozen?, HS8.out]
      by_cases hlt : m < my
      · have hlti : (m : Int) < (my : Int) := by omega
        have hS0 : (loadVar 64 ⟨f, 0, none⟩).run Tryd.prog w8.drew = .ok (.agg (ent (my : Int) (.slice a6 Ty.length c6))) w8.drew := run_loadVar_row w8.drew f 64 64 _ (0, 0) _ HF8.out Tryd.underlying64 rfl info64
        go_upto_region 7 with fail
        refine wp_region_held_drew (S := (fun w' => (loadVar 64 ⟨f, 0, none⟩).run Tryd.prog w' = .ok (.agg (ent (my : Int) (.slice a6 Ty.length c6))) w')) (by kernel_rfl) hS0 (fun hS => ?_)
        refine wpAnyH_take (i := 0) (v := .int .i64 ((1 : Nat) : Int)) rfl (by kernel_rfl) (by kernel_rfl) (by kernel_rfl) (fun _ _ _ h => h) (Or.inl ⟨by kernel_rfl, fun _ _ => by kernel_rfl⟩) hS ?_
        refine wpAnyH_take (i := 1) (v := .agg (ent (my : Int) (.slice a6 Ty.length c6))) rfl (by kernel_rfl) (by kernel_rfl) (by kernel_rfl) (fun _ _ _ h => h) (Or.inl ⟨by kernel_rfl, fun wx hx => exec_load rfl f 0 (by kernel_rfl) hx⟩) hS ?_
        refine wpAnyH_take (i := 2) (v := .int .i64 ((1 : Nat) : Int)) rfl (by kernel_rfl) (by kernel_rfl) (by kernel_rfl) (fun _ _ _ h => h) (Or.inl ⟨by kernel_rfl, fun _ _ => by kernel_rfl⟩) hS ?_
        refine wpAnyH_ready (rs := [3]) (by kernel_rfl) (by simp) (AllReadyH.cons rfl (fun Kc hK => ?_) AllReadyH.nil)
        go_simp
        obtain ⟨w9, Hw9⟩ : ∃ x, Hid (((w8.setCell ⟨s, 0, none⟩ (.int .i64 (my : Int))).setCell ⟨s, 1, none⟩ (.slice a6 Ty.length c6)).drew = x) := ⟨_, ⟨rfl⟩⟩
        rw [Hw9.out]
        have HS9 : Hid (w9.heap[s]? = some (.cells (ent (my : Int) (.slice a6 Ty.length c6)) 64 (0, 0))) := ⟨by
          rw [← Hw9.out]
          exact heap_setCell_same _ s 1 _ 64 _ (heap_setCell_same _ s 0 _ 64 _ HS8.out)⟩
        have HK9 : Hid (∀ k, k ≠ s → w9.heap[k]? = w8.heap[k]?) := ⟨fun k hk => by
          rw [← Hw9.out]
          exact (heap_setCell_other _ ⟨s, 1, none⟩ k _ (by simpa using hk)).trans (heap_setCell_other _ ⟨s, 0, none⟩ k _ (by simpa using hk))⟩
        have HF9 : Hid (w9.heap[f]? = some (.cells (ent (my : Int) (.slice a6 Ty.length c6)) 64 (0, 0))) := ⟨(HK9.out f Hfs.out).trans HF8.out⟩
        refine hK.out _ _ (run_loadVar_row w9 f 64 64 _ (0, 0) _ HF9.out Tryd.underlying64 rfl info64) (fun hS => ?_)
        clear hK
        refine wpAnyH_done (by kernel_rfl) ?_ _
        clear hS hS0
        have HE9 : Hid (w9.heap[r]? = some (.cells (ent 0 (.slice none 0 0)) 64 (0, 0))) := ⟨(HK9.out r (by have := Hrs.out; omega)).trans HE8.out⟩
        have HB9 : Hid (Below w.heap.size w w9) := ⟨by rw [← Hw9.out]; exact below_set2 HB08.out (by have := Hrs.out; have := Hb.out; omega) _ _ _ _⟩
        have HO9 : Hid (OwnB w9 w.heap.size (.slice a6 Ty.length c6) Ty) := ⟨own_other HO8.out HS8.out HK9.out⟩
        go_simp
        go_wp2_with fail
        go_roundg 0
        case measure => omega
        case rel => exact ⟨2, by decide, by decide, by go_num, by rw [HXn.out]; simp only [cstep]; rw [if_pos hlt], a6, Ty.length, c6, ⟨by rw [HXn.out]; simp only [cstep]; rw [if_pos hlt]; exact HS9.out⟩, ⟨by rw [HXn.out]; simp only [cstep]; rw [if_pos hlt]; exact HO9.out⟩, HE9, HB9⟩
      · have hlti : ¬ (m : Int) < (my : Int) := by omega
        go_wp2_with fail
        go_roundg 0
        case measure => omega
        case rel => exact ⟨2, by decide, by decide, by go_num, by rw [HXn.out]; simp only [cstep]; rw [if_neg hlt], av, nv, cv, ⟨by rw [HXn.out]; simp only [cstep]; rw [if_neg hlt]; exact HS8.out⟩, ⟨by rw [HXn.out]; simp only [cstep]; rw [if_neg hlt]; exact HOr8.out⟩, HE8, HB08⟩
    · have HX2 : Hid (cnk l0 l1 2 = cn2 l0 l1) := ⟨rfl⟩
      rw [HX2.out] at HSr HOr ⊢
      obtain ⟨X, HX⟩ : ∃ X, Hid (cn2 l0 l1 = X) := ⟨_, ⟨rfl⟩⟩
      rw [HX.out] at HSr HOr ⊢
      obtain ⟨ac, m, T⟩ := X
      have hcr0 : wr.cell? ⟨r, 0, none⟩ = some (.int .i64 0) := by rw [cell_of_row _ _ _ _ _ _ HEr.out]; rfl
      have hcr1 : wr.cell? ⟨r, 1, none⟩ = some (.slice none 0 0) := by rw [cell_of_row _ _ _ _ _ _ HEr.out]; rfl
      have hfr0 : wr.frozen? ⟨r, 0, none⟩ = false := by simp [World.frozen?, HEr.out]
      have hfr1 : wr.frozen? ⟨r, 1, none⟩ = false := by simp [World.frozen?, HEr.out]
      have hS0 : (loadVar 64 ⟨s, 0, none⟩).run Tryd.prog wr.drew = .ok (.agg (ent (m : Int) (.slice av nv cv))) wr.drew := run_loadVar_row wr.drew s 64 64 _ (0, 0) _ HSr.out Tryd.underlying64 rfl info64
      have Hsr : Hid (s ≠ r) := ⟨by have := Hrs.out; omega⟩
      go_upto_region 9 with fail
      refine wp_region_held_drew (S := (fun w' => (loadVar 64 ⟨s, 0, none⟩).run Tryd.prog w' = .ok (.agg (ent (m : Int) (.slice av nv cv))) w')) (by kernel_rfl) hS0 (fun hS => ?_)
      refine wpAnyH_take (i := 0) (v := .int .i64 ac) rfl (by kernel_rfl) (by kernel_rfl) (by kernel_rfl) (fun _ _ _ h => h) (Or.inl ⟨by kernel_rfl, fun _ _ => by kernel_rfl⟩) hS ?_
      refine wpAnyH_take (i := 1) (v := .agg (ent (m : Int) (.slice av nv cv))) rfl (by kernel_rfl) (by kernel_rfl) (by kernel_rfl) (fun _ _ _ h => h) (Or.inl ⟨by kernel_rfl, fun wx hx => exec_load rfl s 0 (by kernel_rfl) hx⟩) hS ?_
      refine wpAnyH_take (i := 2) (v := .int .i64 ac) rfl (by kernel_rfl) (by kernel_rfl) (by kernel_rfl) (fun _ _ _ h => h) (Or.inl ⟨by kernel_rfl, fun _ _ => by kernel_rfl⟩) hS ?_
      refine wpAnyH_ready (rs := [3]) (by kernel_rfl) (by simp) (AllReadyH.cons rfl (fun Kc hK => ?_) AllReadyH.nil)
      go_simp
      obtain ⟨w9, Hw9⟩ : ∃ x, Hid (((wr.setCell ⟨r, 0, none⟩ (.int .i64 (m : Int))).setCell ⟨r, 1, none⟩ (.slice av nv cv)).drew = x) := ⟨_, ⟨rfl⟩⟩
      rw [Hw9.out]
      have HK9 : Hid (∀ k, k ≠ r → w9.heap[k]? = wr.heap[k]?) := ⟨fun k hk => by
        rw [← Hw9.out]
        exact (heap_setCell_other _ ⟨r, 1, none⟩ k _ (by simpa using hk)).trans (heap_setCell_other _ ⟨r, 0, none⟩ k _ (by simpa using hk))⟩
      refine hK.out _ _ (run_loadVar_row w9 s 64 64 _ (0, 0) _ ((HK9.out s Hsr.out).trans HSr.out) Tryd.underlying64 rfl info64) (fun hS => ?_)
      clear hK
      refine wpAnyH_done (by kernel_rfl) ?_ _
      clear hS hS0
      have HE9 : Hid (w9.heap[r]? = some (.cells (ent (m : Int) (.slice av nv cv)) 64 (0, 0))) := ⟨by rw [← Hw9.out]; exact heap_setCell_same _ r 1 _ 64 _ (heap_setCell_same _ r 0 _ 64 _ HEr.out)⟩
      have HB9 : Hid (Below w.heap.size w w9) := ⟨by rw [← Hw9.out]; exact below_set2 HBr.out (by have := Hrs.out; have := Hb.out; omega) _ _ _ _⟩
      have HO9 : Hid (OwnB w9 w.heap.size (.slice av nv cv) T) := ⟨own_other HOr.out HEr.out HK9.out⟩
      go_simp
      go_wp2_with fail
      refine bodyPost_ret (v := .tuple #[.int .i64 ac, .agg (ent (m : Int) (.slice av nv cv))]) (results_tmp_row Tryd.results22 _ _ r 64 _ (0, 0) _ (by kernel_rfl) HE9.out Tryd.underlying64 rfl info64) rfl ?_
      exact ⟨_, by rw [HX.out], by rw [HX.out]; exact HO9.out, HB9.out⟩
end
end Go.Proofs.YtgjjjkokmgdmjaaDoor
