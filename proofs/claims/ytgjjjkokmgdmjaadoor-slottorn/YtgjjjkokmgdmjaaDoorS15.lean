/- Set of a cell that is ready. -/
import Derived.Test.YtgjjjkokmgdmjaaDoorS14
namespace Go.Proofs.YtgjjjkokmgdmjaaDoor
open Go.RowKit
def oth (ac : Int) : Nat := if ac = 0 then 1 else 0
theorem oth_le (ac : Int) : oth ac ≤ 1 := by unfold oth; split <;> omega
theorem other_any {w : World} (ac : Int) (h : ac = -1 ∨ ac = 0 ∨ ac = 1) : Calls Tryd.prog 24 #[.int .i64 ac] w fun e w' => e = .returned (.int .i64 (oth ac : Int)) ∧ w = w' := by
  rcases h with rfl | rfl | rfl
  · exact other_none
  · exact other_some 0 (by decide)
  · exact other_some 1 (by decide)
theorem wrap_m (m : Nat) (h : m ≤ 9007199254740991) : IntKind.i64.wrap ((m : Int) + 1) = ((m + 1 : Nat) : Int) := by rw [IntKind.wrap_i64]; omega
theorem wrap_bo (b o : Nat) (h : b ≤ 4096) (ho : o ≤ 1) : IntKind.i64.wrap ((b : Int) + (o : Int)) = ((b + o : Nat) : Int) := by rw [IntKind.wrap_i64]; omega
theorem say_le (l : List Int) : (Sl.sayB crB l).1 ≤ 9007199254740991 := by
  by_cases h : (Sl.sayB crB l).1 = 0
  · omega
  · exact (Sl.say_whole h).2.2.1
theorem cn2_at (l0 l1 : List Int) : (cn2 l0 l1).1 = -1 ∨ (cn2 l0 l1).1 = 0 ∨ (cn2 l0 l1).1 = 1 := by
  have h1 : (cn1 l0).1 = -1 ∨ (cn1 l0).1 = 0 := by
    unfold cn1 cstep
    by_cases h : cn0.2.1 < (Sl.sayB crB l0).1
    · rw [if_pos h]; exact .inr rfl
    · rw [if_neg h]; exact .inl rfl
  unfold cn2 cstep
  by_cases h : (cn1 l0).2.1 < (Sl.sayB crB l1).1
  · rw [if_pos h]; exact .inr (.inr rfl)
  · rw [if_neg h]; exact h1.elim .inl (fun q => .inr (.inl q))
theorem cn2_le (l0 l1 : List Int) : (cn2 l0 l1).2.1 ≤ 9007199254740991 := by
  have h0 := say_le l0
  have h1 := say_le l1
  have h2 : (cn1 l0).2.1 ≤ 9007199254740991 := by
    unfold cn1 cstep
    by_cases h : cn0.2.1 < (Sl.sayB crB l0).1
    · rw [if_pos h]; exact h0
    · rw [if_neg h]; decide
  unfold cn2 cstep
  by_cases h : (cn1 l0).2.1 < (Sl.sayB crB l1).1
  · rw [if_pos h]; exact h1
  · rw [if_neg h]; exact h2
theorem byt_seal {m : Nat} {t : List Int} (hn : t.length ≤ 100) (hy : Dk.Byt t) : Dk.Byt (Sl.sealB crB m t) := by
  intro x hx
  unfold Sl.sealB at hx
  rcases List.mem_append.1 hx with q | q
  · exact byt_body rfl hn hy x q
  · rcases List.mem_append.1 q with q | q
    · exact Oc.fixB_byte _ 4 x q
    · exact Oc.fixB_byte _ 8 x q
/-- What Set tells, and the disk behind it. -/
def stI (d : Dk.Dk) (b : Nat) : Nat := b + oth (cn2 (sc0 d b) (sc0 d (b + 1))).1
def stS (d : Dk.Dk) (b : Nat) (t : List Int) : List Int := Sl.sealB crB ((cn2 (sc0 d b) (sc0 d (b + 1))).2.1 + 1) t
def stE (d : Dk.Dk) (b : Nat) (t : List Int) : Int :=
  if 100 < t.length ∨ (cn2 (sc0 d b) (sc0 d (b + 1))).2.1 = 9007199254740991 then 6 else
  if Dk.wrE d (stI d b : Int) 128 ≠ 0 then Dk.wrE d (stI d b : Int) 128 else Dk.fluE (Dk.wrD d (stI d b : Int) (stS d b t))
def stD (d : Dk.Dk) (b : Nat) (t : List Int) : Dk.Dk :=
  if 100 < t.length ∨ (cn2 (sc0 d b) (sc0 d (b + 1))).2.1 = 9007199254740991 then d else
  if Dk.wrE d (stI d b : Int) 128 ≠ 0 then Dk.wrD d (stI d b : Int) (stS d b t) else Dk.fluD (Dk.wrD d (stI d b : Int) (stS d b t))
section
variable {w : World} {q p g bm base b : Nat} {d : Dk.Dk}
theorem CellAt.ne {bs lf : Int} (hc : CellAt w q p bs lf) (h : Dk.At w p g bm base d) : q ≠ p ∧ q ≠ g ∧ q ≠ bm := by
  obtain ⟨_, _, _, _, h⟩ := h
  have hr := h.row
  obtain ⟨_, cur, rest, hg, _⟩ := h.rows
  obtain ⟨es, clock, hb, _⟩ := h.map
  unfold CellAt at hc
  refine ⟨fun e => ?_, fun e => ?_, fun e => ?_⟩
  · rw [← e, hc] at hr; simp at hr
  · rw [← e, hc] at hg; simp at hg
  · rw [← e, hc] at hb; simp at hb
set_option maxHeartbeats 8000000 in
set_option maxRecDepth 100000 in
theorem set_any (h : Dk.At w p g bm base d) (hc : CellAt w q p (b : Int) d.life) (hd : d.down = false) (hbl : b + 2 ≤ d.S.length) (hV : Vars w) (v : Value) (t : List Int) (hv : Oc.Bs w v t) (hy : Dk.Byt t) :
    Calls Tryd.prog 8 #[.pointer (some ⟨q, 0, none⟩), v] w fun e w' => e = .returned (.int .i64 (stE d b t)) ∧ Dk.At w' p g bm base (stD d b t) ∧ Dk.Chg [p, g, bm] w w' := by
  have HA : Hid (Dk.At w p g bm base d) := ⟨h⟩
  have HC : Hid (CellAt w q p (b : Int) d.life) := ⟨hc⟩
  have hb4 : b ≤ 4096 := by obtain ⟨_, _, _, _, q⟩ := h; have := q.len; omega
  have Hac0 : Hid ((cn2 (sc0 d b) (sc0 d (b + 1))).1 = -1 ∨ (cn2 (sc0 d b) (sc0 d (b + 1))).1 = 0 ∨ (cn2 (sc0 d b) (sc0 d (b + 1))).1 = 1) := ⟨cn2_at _ _⟩
  have Hml0 : Hid ((cn2 (sc0 d b) (sc0 d (b + 1))).2.1 ≤ 9007199254740991) := ⟨cn2_le _ _⟩
  have Hst0 : Hid (¬ (100 < t.length ∨ (cn2 (sc0 d b) (sc0 d (b + 1))).2.1 = 9007199254740991) → stE d b t = (if Dk.wrE d (stI d b : Int) 128 ≠ 0 then Dk.wrE d (stI d b : Int) 128 else Dk.fluE (Dk.wrD d (stI d b : Int) (stS d b t))) ∧ stD d b t = (if Dk.wrE d (stI d b : Int) 128 ≠ 0 then Dk.wrD d (stI d b : Int) (stS d b t) else Dk.fluD (Dk.wrD d (stI d b : Int) (stS d b t)))) := ⟨fun hn => ⟨by unfold stE; rw [if_neg hn], by unfold stD; rw [if_neg hn]⟩⟩
  have Hsn0 : Hid ((100 < t.length ∨ (cn2 (sc0 d b) (sc0 d (b + 1))).2.1 = 9007199254740991) → stE d b t = 6 ∧ stD d b t = d) := ⟨fun hn => ⟨by unfold stE; rw [if_pos hn], by unfold stD; rw [if_pos hn]⟩⟩
  unfold stI stS at Hst0
  have HT : Hid (Oc.Bs w v t) := ⟨hv⟩
  have HY : Hid (Dk.Byt t) := ⟨hy⟩
  have Hqn : Hid (q ≠ p ∧ q ≠ g ∧ q ≠ bm) := ⟨hc.ne h⟩
  have Hlt : Hid (p < w.heap.size ∧ g < w.heap.size ∧ bm < w.heap.size) := ⟨h.lt⟩
  obtain ⟨a, c, rfl, _⟩ := hv
  have t1 := look_any h hc hd hbl
  have HV : Hid (Vars w) := ⟨hV⟩
  have P0 := pg_sc0 h b
  have P1 := pg_sc0 h (b + 1)
  obtain ⟨l0, Hl0⟩ : ∃ l, Hid (sc0 d b = l) := ⟨_, ⟨rfl⟩⟩
  obtain ⟨l1, Hl1⟩ : ∃ l, Hid (sc0 d (b + 1) = l) := ⟨_, ⟨rfl⟩⟩
  rw [Hl0.out] at P0
  rw [Hl1.out] at P1
  rw [Hl0.out, Hl1.out] at t1
  have H0 : Hid (Dk.Pg l0) := ⟨P0⟩
  have H1 : Hid (Dk.Pg l1) := ⟨P1⟩
  have t2 : ∀ w5, Below w.heap.size w w5 → _ := fun w5 hB => counting_any (w := w5) l0 l1 P0.1 P1.1 P0.2 P1.2 (Dg.NibsAt.below HV.out hB)
  have hq : ∀ w, (binOp .eql 60 (.agg (Dk.pa (l0 ++ l1))) (.agg (Dk.pa zz))).run Tryd.prog w = .ok (.bool (decide (l0 ++ l1 = zz))) w := fun w => eq60 w (by simp [P0.1, P1.1]) zz_len
  obtain ⟨PL, HPL⟩ : ∃ P, Hid (Dk.pa (l0 ++ l1) = P) := ⟨_, ⟨rfl⟩⟩
  have Hsz : Hid (PL.size = 256) := ⟨by rw [← HPL.out, Dk.pa_size, List.length_append, P0.1, P1.1]⟩
  have HP1 : Hid (PL.all (·.oneCell') = true) := ⟨by rw [← HPL.out]; exact Dk.pa_one _⟩
  have HPZ : Hid ((Dk.pa zz).size = PL.size) := ⟨by rw [Hsz.out, Dk.pa_size, zz_len]⟩
  have hiPL : (Tryd.prog.info? 60).map (·.size) = some PL.size := by rw [Hsz.out]; exact info60
  have hi64 : ∀ m v, (Tryd.prog.info? 64).map (·.size) = some (ent m v).size := fun _ _ => info64
  simp only [HPL.out] at t1 t2 hq
  clear h hc hV P0 P1 hbl hd
  obtain ⟨X, HX⟩ : ∃ X, Hid (cn2 l0 l1 = X) := ⟨_, ⟨rfl⟩⟩
  simp only [HX.out] at t2
  obtain ⟨ac, m, T⟩ := X
  rw [Hl0.out, Hl1.out, HX.out] at Hac0 Hml0 Hst0 Hsn0
  have Hac : Hid (ac = -1 ∨ ac = 0 ∨ ac = 1) := Hac0
  have hml : m ≤ 9007199254740991 := Hml0.out
  clear hq Hac0 Hml0 hy
  by_cases hn : 100 < t.length
  · have hni : (100 : Int) < (t.length : Int) := by omega
    rw [(Hsn0.out (.inl hn)).1, (Hsn0.out (.inl hn)).2]
    go_enter Tryd.func8, Tryd.ntmps8
    go_upto_region 5 with (first
      | (go_at_call 21; refine t1.mono ?_; rintro e w3 ⟨rfl, hB3⟩; have HB3 : Hid (Below w.heap.size w w3) := ⟨hB3⟩; clear hB3 t1)
      | (refine wpl_alloc60 rfl rfl ?_; obtain ⟨b1, Hb1⟩ : ∃ b, Hid (w3.heap.size = b) := ⟨_, ⟨rfl⟩⟩; obtain ⟨w4, Hw4⟩ : ∃ w4, Hid (w3.alloc (.cells (Dk.pa zz) 60) = w4) := ⟨_, ⟨rfl⟩⟩; have HR4 : Hid (w4.heap[b1]? = some (.cells (Dk.pa zz) 60 (0, 0))) := ⟨by rw [← Hw4.out, ← Hb1.out]; exact heap_alloc_new w3 _⟩; have HB4 : Hid (Below w3.heap.size w3 w4) := ⟨by rw [← Hw4.out]; exact (Below.refl _ w3).alloc (Nat.le_refl _) _⟩; rw [Hw4.out, Hb1.out])
      | (refine wpList_store_row rfl 60 (.tmp 5) (.tmp 13) rfl b1 PL rfl rfl 60 (Dk.pa zz) HR4.out hiPL HPZ.out HP1.out ?_; obtain ⟨w5, Hw5⟩ : ∃ x, Hid (w4.setRow b1 PL = x) := ⟨_, ⟨rfl⟩⟩; have HR5 : Hid (w5.heap[b1]? = some (.cells PL 60 (0, 0))) := ⟨by rw [← Hw5.out]; exact setRow_heap _ _ _ _ 60 (0, 0) HR4.out⟩; have HB5 : Hid (Below w.heap.size w w5) := ⟨by rw [← Hw5.out]; exact Dk.below_setRow' (HB3.out.trans (HB4.out.mono HB3.out.size)) (by rw [← Hb1.out]; exact HB3.out.size) _⟩; rw [Hw5.out])
      | (refine wpList_load_row rfl 60 (.tmp 5) rfl b1 rfl 60 PL (0, 0) _ HR5.out Tryd.underlying60 rfl hiPL ?_)
      | (go_at_call 22; refine (t2 w5 HB5.out).mono ?_; rintro e w6 ⟨v6, rfl, hO6, hB6⟩; obtain ⟨a6, c6, rfl⟩ := Oc.OwnB.slice hO6; have HO6 : Hid (OwnB w6 w5.heap.size (.slice a6 T.length c6) T) := ⟨hO6⟩; have HB6 : Hid (Below w5.heap.size w5 w6) := ⟨hB6⟩; clear hO6 hB6 t2; obtain ⟨f, Hf⟩ : ∃ f, Hid (w6.heap.size = f) := ⟨_, ⟨rfl⟩⟩; obtain ⟨w7, Hw7⟩ : ∃ x, Hid (w6.alloc (.cells (ent 0 (.slice none 0 0)) 64) = x) := ⟨_, ⟨rfl⟩⟩; have HF7 : Hid (w7.heap[f]? = some (.cells (ent 0 (.slice none 0 0)) 64 (0, 0))) := ⟨by rw [← Hw7.out, ← Hf.out]; exact heap_alloc_new w6 _⟩; have HB7 : Hid (Below w6.heap.size w6 w7) := ⟨by rw [← Hw7.out]; exact (Below.refl _ w6).alloc (Nat.le_refl _) _⟩; obtain ⟨w8, Hw8⟩ : ∃ x, Hid (w7.setRow f (ent (m : Int) (.slice a6 T.length c6)) = x) := ⟨_, ⟨rfl⟩⟩)
      | (rw [Hw7.out, Hf.out]; refine wpList_store_row rfl 64 (.tmp 8) (.tmp 22) rfl f (ent (m : Int) (.slice a6 T.length c6)) rfl rfl 64 (ent 0 (.slice none 0 0)) HF7.out (hi64 _ _) rfl (by kernel_rfl) ?_; rw [Hw8.out]))
    have HF8 : Hid (w8.heap[f]? = some (.cells (ent (m : Int) (.slice a6 T.length c6)) 64 (0, 0))) := ⟨by rw [← Hw8.out]; exact setRow_heap _ _ _ _ 64 (0, 0) HF7.out⟩
    have HB68 : Hid (Below w6.heap.size w6 w8) := ⟨by rw [← Hw8.out]; exact Dk.below_setRow' HB7.out (by rw [Hf.out]; exact Nat.le_refl _) _⟩
    have HB8 : Hid (Below w.heap.size w w8) := ⟨HB5.out.trans ((HB6.out.trans (HB68.out.mono HB6.out.size)).mono HB5.out.size)⟩
    have HO8 : Hid (OwnB w8 w.heap.size (.slice a6 T.length c6) T) := ⟨Oc.OwnB.mono (Oc.OwnB.below HO6.out HB68.out) HB5.out.size⟩
    have hcf0 : w8.cell? ⟨f, 0, none⟩ = some (.int .i64 (m : Int)) := by rw [cell_of_row _ _ _ _ _ _ HF8.out]; rfl
    have hcf1 : w8.cell? ⟨f, 1, none⟩ = some (.slice a6 T.length c6) := by rw [cell_of_row _ _ _ _ _ _ HF8.out]; rfl
    go_wp2_with fail
    go_ret
    exact ⟨rfl, HA.out.below HB8.out, Dk.Chg.ofBelow HB8.out⟩
  have hni : ¬ (100 : Int) < (t.length : Int) := by omega
  by_cases hm : m = 9007199254740991
  · have hmi : ((m : Int) == 9007199254740991) = true := by rw [hm]; rfl
    rw [(Hsn0.out (.inr hm)).1, (Hsn0.out (.inr hm)).2]
    clear hm Hst0 Hsn0
    go_enter Tryd.func8, Tryd.ntmps8
    go_upto_region 5 with (first
      | (go_at_call 21; refine t1.mono ?_; rintro e w3 ⟨rfl, hB3⟩; have HB3 : Hid (Below w.heap.size w w3) := ⟨hB3⟩; clear hB3 t1)
      | (refine wpl_alloc60 rfl rfl ?_; obtain ⟨b1, Hb1⟩ : ∃ b, Hid (w3.heap.size = b) := ⟨_, ⟨rfl⟩⟩; obtain ⟨w4, Hw4⟩ : ∃ w4, Hid (w3.alloc (.cells (Dk.pa zz) 60) = w4) := ⟨_, ⟨rfl⟩⟩; have HR4 : Hid (w4.heap[b1]? = some (.cells (Dk.pa zz) 60 (0, 0))) := ⟨by rw [← Hw4.out, ← Hb1.out]; exact heap_alloc_new w3 _⟩; have HB4 : Hid (Below w3.heap.size w3 w4) := ⟨by rw [← Hw4.out]; exact (Below.refl _ w3).alloc (Nat.le_refl _) _⟩; rw [Hw4.out, Hb1.out])
      | (refine wpList_store_row rfl 60 (.tmp 5) (.tmp 13) rfl b1 PL rfl rfl 60 (Dk.pa zz) HR4.out hiPL HPZ.out HP1.out ?_; obtain ⟨w5, Hw5⟩ : ∃ x, Hid (w4.setRow b1 PL = x) := ⟨_, ⟨rfl⟩⟩; have HR5 : Hid (w5.heap[b1]? = some (.cells PL 60 (0, 0))) := ⟨by rw [← Hw5.out]; exact setRow_heap _ _ _ _ 60 (0, 0) HR4.out⟩; have HB5 : Hid (Below w.heap.size w w5) := ⟨by rw [← Hw5.out]; exact Dk.below_setRow' (HB3.out.trans (HB4.out.mono HB3.out.size)) (by rw [← Hb1.out]; exact HB3.out.size) _⟩; rw [Hw5.out])
      | (refine wpList_load_row rfl 60 (.tmp 5) rfl b1 rfl 60 PL (0, 0) _ HR5.out Tryd.underlying60 rfl hiPL ?_)
      | (go_at_call 22; refine (t2 w5 HB5.out).mono ?_; rintro e w6 ⟨v6, rfl, hO6, hB6⟩; obtain ⟨a6, c6, rfl⟩ := Oc.OwnB.slice hO6; have HO6 : Hid (OwnB w6 w5.heap.size (.slice a6 T.length c6) T) := ⟨hO6⟩; have HB6 : Hid (Below w5.heap.size w5 w6) := ⟨hB6⟩; clear hO6 hB6 t2; obtain ⟨f, Hf⟩ : ∃ f, Hid (w6.heap.size = f) := ⟨_, ⟨rfl⟩⟩; obtain ⟨w7, Hw7⟩ : ∃ x, Hid (w6.alloc (.cells (ent 0 (.slice none 0 0)) 64) = x) := ⟨_, ⟨rfl⟩⟩; have HF7 : Hid (w7.heap[f]? = some (.cells (ent 0 (.slice none 0 0)) 64 (0, 0))) := ⟨by rw [← Hw7.out, ← Hf.out]; exact heap_alloc_new w6 _⟩; have HB7 : Hid (Below w6.heap.size w6 w7) := ⟨by rw [← Hw7.out]; exact (Below.refl _ w6).alloc (Nat.le_refl _) _⟩; obtain ⟨w8, Hw8⟩ : ∃ x, Hid (w7.setRow f (ent (m : Int) (.slice a6 T.length c6)) = x) := ⟨_, ⟨rfl⟩⟩)
      | (rw [Hw7.out, Hf.out]; refine wpList_store_row rfl 64 (.tmp 8) (.tmp 22) rfl f (ent (m : Int) (.slice a6 T.length c6)) rfl rfl 64 (ent 0 (.slice none 0 0)) HF7.out (hi64 _ _) rfl (by kernel_rfl) ?_; rw [Hw8.out]))
    have HF8 : Hid (w8.heap[f]? = some (.cells (ent (m : Int) (.slice a6 T.length c6)) 64 (0, 0))) := ⟨by rw [← Hw8.out]; exact setRow_heap _ _ _ _ 64 (0, 0) HF7.out⟩
    have HB68 : Hid (Below w6.heap.size w6 w8) := ⟨by rw [← Hw8.out]; exact Dk.below_setRow' HB7.out (by rw [Hf.out]; exact Nat.le_refl _) _⟩
    have HB8 : Hid (Below w.heap.size w w8) := ⟨HB5.out.trans ((HB6.out.trans (HB68.out.mono HB6.out.size)).mono HB5.out.size)⟩
    have HO8 : Hid (OwnB w8 w.heap.size (.slice a6 T.length c6) T) := ⟨Oc.OwnB.mono (Oc.OwnB.below HO6.out HB68.out) HB5.out.size⟩
    have hcf0 : w8.cell? ⟨f, 0, none⟩ = some (.int .i64 (m : Int)) := by rw [cell_of_row _ _ _ _ _ _ HF8.out]; rfl
    have hcf1 : w8.cell? ⟨f, 1, none⟩ = some (.slice a6 T.length c6) := by rw [cell_of_row _ _ _ _ _ _ HF8.out]; rfl
    go_wp2_with fail
    go_ret
    exact ⟨rfl, HA.out.below HB8.out, Dk.Chg.ofBelow HB8.out⟩
  have hmi : ¬ (m : Int) = 9007199254740991 := by omega
  have hmi2 : ((m : Int) == 9007199254740991) = false := by simpa using hmi
  have Hst : Hid (_ ∧ _) := ⟨Hst0.out (fun q => q.elim hn hm)⟩
  clear Hst0 Hsn0
  replace hn : t.length ≤ 100 := by omega
  go_enter Tryd.func8, Tryd.ntmps8
  go_upto_region 5 with (first
    | (go_at_call 21; refine t1.mono ?_; rintro e w3 ⟨rfl, hB3⟩; have HB3 : Hid (Below w.heap.size w w3) := ⟨hB3⟩; clear hB3 t1)
    | (refine wpl_alloc60 rfl rfl ?_; obtain ⟨b1, Hb1⟩ : ∃ b, Hid (w3.heap.size = b) := ⟨_, ⟨rfl⟩⟩; obtain ⟨w4, Hw4⟩ : ∃ w4, Hid (w3.alloc (.cells (Dk.pa zz) 60) = w4) := ⟨_, ⟨rfl⟩⟩; have HR4 : Hid (w4.heap[b1]? = some (.cells (Dk.pa zz) 60 (0, 0))) := ⟨by rw [← Hw4.out, ← Hb1.out]; exact heap_alloc_new w3 _⟩; have HB4 : Hid (Below w3.heap.size w3 w4) := ⟨by rw [← Hw4.out]; exact (Below.refl _ w3).alloc (Nat.le_refl _) _⟩; rw [Hw4.out, Hb1.out])
    | (refine wpList_store_row rfl 60 (.tmp 5) (.tmp 13) rfl b1 PL rfl rfl 60 (Dk.pa zz) HR4.out hiPL HPZ.out HP1.out ?_; obtain ⟨w5, Hw5⟩ : ∃ x, Hid (w4.setRow b1 PL = x) := ⟨_, ⟨rfl⟩⟩; have HR5 : Hid (w5.heap[b1]? = some (.cells PL 60 (0, 0))) := ⟨by rw [← Hw5.out]; exact setRow_heap _ _ _ _ 60 (0, 0) HR4.out⟩; have HB5 : Hid (Below w.heap.size w w5) := ⟨by rw [← Hw5.out]; exact Dk.below_setRow' (HB3.out.trans (HB4.out.mono HB3.out.size)) (by rw [← Hb1.out]; exact HB3.out.size) _⟩; rw [Hw5.out])
    | (refine wpList_load_row rfl 60 (.tmp 5) rfl b1 rfl 60 PL (0, 0) _ HR5.out Tryd.underlying60 rfl hiPL ?_)
    | (go_at_call 22; refine (t2 w5 HB5.out).mono ?_; rintro e w6 ⟨v6, rfl, hO6, hB6⟩; obtain ⟨a6, c6, rfl⟩ := Oc.OwnB.slice hO6; have HO6 : Hid (OwnB w6 w5.heap.size (.slice a6 T.length c6) T) := ⟨hO6⟩; have HB6 : Hid (Below w5.heap.size w5 w6) := ⟨hB6⟩; clear hO6 hB6 t2; obtain ⟨f, Hf⟩ : ∃ f, Hid (w6.heap.size = f) := ⟨_, ⟨rfl⟩⟩; obtain ⟨w7, Hw7⟩ : ∃ x, Hid (w6.alloc (.cells (ent 0 (.slice none 0 0)) 64) = x) := ⟨_, ⟨rfl⟩⟩; have HF7 : Hid (w7.heap[f]? = some (.cells (ent 0 (.slice none 0 0)) 64 (0, 0))) := ⟨by rw [← Hw7.out, ← Hf.out]; exact heap_alloc_new w6 _⟩; have HB7 : Hid (Below w6.heap.size w6 w7) := ⟨by rw [← Hw7.out]; exact (Below.refl _ w6).alloc (Nat.le_refl _) _⟩; obtain ⟨w8, Hw8⟩ : ∃ x, Hid (w7.setRow f (ent (m : Int) (.slice a6 T.length c6)) = x) := ⟨_, ⟨rfl⟩⟩)
    | (rw [Hw7.out, Hf.out]; refine wpList_store_row rfl 64 (.tmp 8) (.tmp 22) rfl f (ent (m : Int) (.slice a6 T.length c6)) rfl rfl 64 (ent 0 (.slice none 0 0)) HF7.out (hi64 _ _) rfl (by kernel_rfl) ?_; rw [Hw8.out]))
  have HF8 : Hid (w8.heap[f]? = some (.cells (ent (m : Int) (.slice a6 T.length c6)) 64 (0, 0))) := ⟨by rw [← Hw8.out]; exact setRow_heap _ _ _ _ 64 (0, 0) HF7.out⟩
  have HB68 : Hid (Below w6.heap.size w6 w8) := ⟨by rw [← Hw8.out]; exact Dk.below_setRow' HB7.out (by rw [Hf.out]; exact Nat.le_refl _) _⟩
  have HB8 : Hid (Below w.heap.size w w8) := ⟨HB5.out.trans ((HB6.out.trans (HB68.out.mono HB6.out.size)).mono HB5.out.size)⟩
  have HO8 : Hid (OwnB w8 w.heap.size (.slice a6 T.length c6) T) := ⟨Oc.OwnB.mono (Oc.OwnB.below HO6.out HB68.out) HB5.out.size⟩
  have hcf0 : w8.cell? ⟨f, 0, none⟩ = some (.int .i64 (m : Int)) := by rw [cell_of_row _ _ _ _ _ _ HF8.out]; rfl
  have hcf1 : w8.cell? ⟨f, 1, none⟩ = some (.slice a6 T.length c6) := by rw [cell_of_row _ _ _ _ _ _ HF8.out]; rfl
  have HC8 : Hid (CellAt w8 q p (b : Int) d.life) := ⟨CellAt.below HC.out HB8.out⟩
  obtain ⟨hc0, hc1, hc2⟩ := HC8.out.cells
  have HT8 : Hid (Oc.Bs w8.drew (.slice a t.length c) t) := ⟨Oc.Bs.below HT.out HB8.out.drew⟩
  have Hfn : Hid (f ≠ p ∧ f ≠ bm) := ⟨by have h1 := Hf.out; have h2 := HB6.out.size; have h3 := HB5.out.size; have h4 := Hlt.out; omega⟩
  go_upto_region 7 with fail
  refine wp_region_held_drew (S := (fun w' => w'.cell? ⟨q, 0, none⟩ = some (.pointer (some ⟨p, 0, none⟩)) ∧ w'.cell? ⟨q, 1, none⟩ = some (.int .i64 (b : Int)) ∧ w'.cell? ⟨f, 0, none⟩ = some (.int .i64 (m : Int)))) (by kernel_rfl) ⟨hc0, hc1, hcf0⟩ (fun hS => ?_)
  refine wpAnyH_take (i := 0) (v := .pointer (some ⟨q, 0, none⟩)) rfl (by kernel_rfl) (by kernel_rfl) (by kernel_rfl) (fun _ _ _ h => h) (Or.inl ⟨by kernel_rfl, fun _ _ => by kernel_rfl⟩) hS ?_
  refine wpAnyH_take (i := 1) (v := .pointer (some ⟨q, 0, none⟩)) rfl (by kernel_rfl) (by kernel_rfl) (by kernel_rfl) (fun _ _ _ h => h) (Or.inl ⟨by kernel_rfl, fun wx hx => by go_simp⟩) hS ?_
  refine wpAnyH_take (i := 2) (v := .pointer (some ⟨q, 0, none⟩)) rfl (by kernel_rfl) (by kernel_rfl) (by kernel_rfl) (fun _ _ _ h => h) (Or.inl ⟨by kernel_rfl, fun wx hx => by go_simp⟩) hS ?_
  refine wpAnyH_take (i := 3) (v := .pointer (some ⟨p, 0, none⟩)) rfl (by kernel_rfl) (by kernel_rfl) (by kernel_rfl) (fun _ _ _ h => h) (Or.inl ⟨by kernel_rfl, fun wx hx => by obtain ⟨k0, k1, k2⟩ := hx; go_simp⟩) hS ?_
  refine wpAnyH_take (i := 4) (v := .pointer (some ⟨q, 0, none⟩)) rfl (by kernel_rfl) (by kernel_rfl) (by kernel_rfl) (fun _ _ _ h => h) (Or.inl ⟨by kernel_rfl, fun _ _ => by kernel_rfl⟩) hS ?_
  refine wpAnyH_take (i := 5) (v := .pointer (some ⟨q, 0, none⟩)) rfl (by kernel_rfl) (by kernel_rfl) (by kernel_rfl) (fun _ _ _ h => h) (Or.inl ⟨by kernel_rfl, fun wx hx => by go_simp⟩) hS ?_
  refine wpAnyH_take (i := 6) (v := .pointer (some ⟨q, 1, none⟩)) rfl (by kernel_rfl) (by kernel_rfl) (by kernel_rfl) (fun _ _ _ h => h) (Or.inl ⟨by kernel_rfl, fun wx hx => by go_simp⟩) hS ?_
  refine wpAnyH_take (i := 7) (v := .int .i64 (b : Int)) rfl (by kernel_rfl) (by kernel_rfl) (by kernel_rfl) (fun _ _ _ h => h) (Or.inl ⟨by kernel_rfl, fun wx hx => by obtain ⟨k0, k1, k2⟩ := hx; go_simp⟩) hS ?_
  refine wpAnyH_take (i := 8) (v := .int .i64 ac) rfl (by kernel_rfl) (by kernel_rfl) (by kernel_rfl) (fun _ _ _ h => h) (Or.inl ⟨by kernel_rfl, fun _ _ => by kernel_rfl⟩) hS ?_
  refine wpAnyH_take (i := 11) (v := .pointer (some ⟨f, 0, none⟩)) rfl (by kernel_rfl) (by kernel_rfl) (by kernel_rfl) (fun _ _ _ h => h) (Or.inl ⟨by kernel_rfl, fun wx hx => by go_simp⟩) hS ?_
  refine wpAnyH_take (i := 12) (v := .int .i64 (m : Int)) rfl (by kernel_rfl) (by kernel_rfl) (by kernel_rfl) (fun _ _ _ h => h) (Or.inl ⟨by kernel_rfl, fun wx hx => by obtain ⟨k0, k1, k2⟩ := hx; go_simp⟩) hS ?_
  refine wpAnyH_take (i := 13) (v := .int .i64 ((m + 1 : Nat) : Int)) rfl (by kernel_rfl) (by kernel_rfl) (by kernel_rfl) (fun _ _ _ h => h) (Or.inl ⟨by kernel_rfl, fun wx hx => by go_simp; exact wrap_m m (by omega)⟩) hS ?_
  refine wpAnyH_take (i := 14) (v := .slice a t.length c) rfl (by kernel_rfl) (by kernel_rfl) (by kernel_rfl) (fun _ _ _ h => h) (Or.inl ⟨by kernel_rfl, fun _ _ => by kernel_rfl⟩) hS ?_
  refine wpAnyH_ready (rs := [9]) (by kernel_rfl) (by simp) (AllReadyH.cons rfl (fun Kc hK => ?_) AllReadyH.nil)
  go_simp
  refine (other_any ac Hac.out).mono ?_
  rintro e wx ⟨rfl, ex⟩
  subst ex
  refine hK.out _ _ ⟨hc0, hc1, hcf0⟩ (fun hS => ?_)
  clear hK
  refine wpAnyH_take (i := 10) (v := .int .i64 ((b + oth ac : Nat) : Int)) rfl (by kernel_rfl) (by kernel_rfl) (by kernel_rfl) (fun _ _ _ h => h) (Or.inl ⟨by kernel_rfl, fun wx hx => by go_simp; exact wrap_bo b (oth ac) (by omega) (oth_le ac)⟩) hS ?_
  refine wpAnyH_ready (rs := [15]) (by kernel_rfl) (by simp) (AllReadyH.cons rfl (fun Kc hK => ?_) AllReadyH.nil)
  go_simp
  refine (sealed_any (w := w8.drew) (m + 1) _ t (by omega) HT8.out HY.out hn (Dg.NibsAt.below HV.out HB8.out.drew)).mono ?_
  rintro e w9 ⟨rfl, hB9⟩
  have HB89 : Hid (Below w8.heap.size w8 w9) := ⟨(Below.refl _ w8).drew.trans hB9⟩
  clear hB9
  have HC9 : Hid (CellAt w9 q p (b : Int) d.life) := ⟨CellAt.below HC8.out HB89.out⟩
  have HF9 : Hid (w9.heap[f]? = some (.cells (ent (m : Int) (.slice a6 T.length c6)) 64 (0, 0))) := ⟨(HB89.out.block f (Array.getElem?_eq_some_iff.1 HF8.out).1).trans HF8.out⟩
  refine hK.out _ _ ⟨HC9.out.cells.1, HC9.out.cells.2.1, by rw [cell_of_row _ _ _ _ _ _ HF9.out]; rfl⟩ (fun hS => ?_)
  clear hK
  refine wpAnyH_ready (rs := [16]) (by kernel_rfl) (by simp) (AllReadyH.cons rfl (fun Kc hK => ?_) AllReadyH.nil)
  go_simp
  refine (bytes_any (w := w9) (Sl.sealB crB (m + 1) t) (Sl.sealB_len (by omega))).mono ?_
  rintro e w10 ⟨v10, rfl, hO10, hB10⟩
  have HB910 : Hid (Below w9.heap.size w9 w10) := ⟨hB10⟩
  have HO10 : Hid (OwnB w10 w9.heap.size v10 (Sl.sealB crB (m + 1) t)) := ⟨hO10⟩
  clear hB10 hO10
  have HC10 : Hid (CellAt w10 q p (b : Int) d.life) := ⟨CellAt.below HC9.out HB910.out⟩
  have HF10 : Hid (w10.heap[f]? = some (.cells (ent (m : Int) (.slice a6 T.length c6)) 64 (0, 0))) := ⟨(HB910.out.block f (Array.getElem?_eq_some_iff.1 HF9.out).1).trans HF9.out⟩
  have HB10 : Hid (Below w.heap.size w w10) := ⟨HB8.out.trans ((HB89.out.trans (HB910.out.mono HB89.out.size)).mono HB8.out.size)⟩
  refine hK.out _ _ ⟨HC10.out.cells.1, HC10.out.cells.2.1, by rw [cell_of_row _ _ _ _ _ _ HF10.out]; rfl⟩ (fun hS => ?_)
  clear hK
  refine wpAnyH_ready (rs := [17]) (by kernel_rfl) (by simp) (AllReadyH.cons rfl (fun Kc hK => ?_) AllReadyH.nil)
  go_simp
  have tw := Dk.write_any (HA.out.below HB10.out) ((b + oth ac : Nat) : Int) v10 (Sl.sealB crB (m + 1) t) (Dk.OwnB.bs HO10.out (byt_seal hn HY.out))
  rw [Sl.sealB_len (show t.length ≤ 107 by omega)] at tw
  refine tw.mono ?_
  rintro e w11 ⟨rfl, hA11, hG11⟩
  have HA11 : Hid (Dk.At w11 p g bm base (Dk.wrD d ((b + oth ac : Nat) : Int) (Sl.sealB crB (m + 1) t))) := ⟨hA11⟩
  have HG11 : Hid (Dk.Chg [p, bm] w10 w11) := ⟨hG11⟩
  clear hA11 hG11 tw
  have HC11 : Hid (CellAt w11 q p (b : Int) d.life) := ⟨(HG11.out.block q (Array.getElem?_eq_some_iff.1 HC10.out).1 (by have := Hqn.out; simp; omega)).trans HC10.out⟩
  have HF11 : Hid (w11.heap[f]? = some (.cells (ent (m : Int) (.slice a6 T.length c6)) 64 (0, 0))) := ⟨(HG11.out.block f (Array.getElem?_eq_some_iff.1 HF10.out).1 (by have := Hfn.out; simp; omega)).trans HF10.out⟩
  have HX11 : Hid (Dk.Chg [p, bm] w w11) := ⟨(Dk.Chg.ofBelow HB10.out).trans HG11.out⟩
  refine hK.out _ _ ⟨HC11.out.cells.1, HC11.out.cells.2.1, by rw [cell_of_row _ _ _ _ _ _ HF11.out]; rfl⟩ (fun hS => ?_)
  clear hK
  refine wpAnyH_take (i := 18) (v := .int .i64 (Dk.wrE d ((b + oth ac : Nat) : Int) 128)) rfl (by kernel_rfl) (by kernel_rfl) (by kernel_rfl) (fun _ _ _ h => h) (Or.inl ⟨by kernel_rfl, fun _ _ => by kernel_rfl⟩) hS ?_
  refine wpAnyH_done (by kernel_rfl) ?_ _
  clear hS hc0 hc1 hc2 hcf0 hcf1
  obtain ⟨hc0, hc1, hc2⟩ := HC11.out.cells
  obtain ⟨E, HE⟩ : ∃ E, Hid (Dk.wrE d ((b + oth ac : Nat) : Int) 128 = E) := ⟨_, ⟨rfl⟩⟩
  have HsE : Hid (stE d b t = if E ≠ 0 then E else Dk.fluE (Dk.wrD d ((b + oth ac : Nat) : Int) (Sl.sealB crB (m + 1) t))) := ⟨by rw [← HE.out]; exact Hst.out.1⟩
  have HsD : Hid (stD d b t = if E ≠ 0 then Dk.wrD d ((b + oth ac : Nat) : Int) (Sl.sealB crB (m + 1) t) else Dk.fluD (Dk.wrD d ((b + oth ac : Nat) : Int) (Sl.sealB crB (m + 1) t))) := ⟨by rw [← HE.out]; exact Hst.out.2⟩
  rw [HE.out]
  go_simp
  by_cases he : E = 0
  · subst he
    have tf := Dk.flush_any HA11.out
    go_wp2_with (go_at_call 27; refine tf.mono ?_; rintro e w12 ⟨rfl, hA12, hG12⟩; have HA12 : Hid (Dk.At w12 p g bm base (Dk.fluD (Dk.wrD d ((b + oth ac : Nat) : Int) (Sl.sealB crB (m + 1) t)))) := ⟨hA12⟩; have HG12 : Hid (Dk.Chg [p, g, bm] w11 w12) := ⟨hG12⟩; clear hA12 hG12 tf)
    go_ret
    exact ⟨by rw [HsE.out, if_neg (by simp)]; rfl, by rw [HsD.out, if_neg (by simp)]; exact HA12.out, (HX11.out.mono (by simp)).trans HG12.out⟩
  · have he2 : (E != 0) = true := by simpa using he
    have he3 : (E == 0) = false := by simpa using he
    go_wp2_with fail
    go_ret
    exact ⟨by rw [HsE.out, if_pos he]; rfl, by rw [HsD.out, if_pos he]; exact HA11.out, HX11.out.mono (by simp)⟩
end
end Go.Proofs.YtgjjjkokmgdmjaaDoor
