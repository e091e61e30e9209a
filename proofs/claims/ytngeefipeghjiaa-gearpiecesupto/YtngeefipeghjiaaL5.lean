/- The walk of GearForks. -/
import Derived.Test.YtngeefipeghjiaaK6
import Derived.Test.YtngeefipeghjiaaL3
import Derived.Test.YtngeefipeghjiaaP1
import Derived.Test.YtngeefipeghjiaaA1
namespace Go.Proofs.Ytngeefipeghjiaa
open Go.RowKit

theorem rdy_of {c : Bool} {p q : Prop} (hc : c = true) (h : p) : if c = true then p else q := by rw [if_pos hc]; exact h
theorem RowsB.drop {w : World} {S : Nat → Prop} {b n cap k : Nat} {L : List (List Int)} (h : RowsB w S (.slice (some ⟨b, 0, none⟩) n cap) L) (hk : k ≤ n) : RowsB w S (.slice (some ⟨b, k, none⟩) (n - k) (cap - k)) (L.drop k) := by
  obtain ⟨vs, ⟨a', cap', e, hl, hm, hn, hcell⟩, h2⟩ := h
  simp at e
  obtain ⟨rfl, rfl, rfl⟩ := e
  refine ⟨vs.drop k, ⟨_, _, by rw [List.length_drop], by rw [List.length_drop]; omega, by omega, by simp, fun x hx i hi => ?_⟩, by rw [List.length_drop, List.length_drop, h2.1], fun i hi => ?_⟩
  · cases hx
    rw [List.length_drop] at hi
    have := hcell _ rfl (k + i) (by omega)
    rw [add_plain] at this ⊢
    rw [Nat.zero_add] at this
    rw [this, List.getElem?_drop]
  · rw [List.length_drop] at hi
    obtain ⟨u, hu, hb⟩ := h2.2 (k + i) (by omega)
    refine ⟨u, by rw [List.getElem?_drop]; exact hu, ?_⟩
    have e : (L.drop k).getD i [] = L.getD (k + i) [] := by simp only [List.getD, List.getElem?_drop]
    rw [e]; exact hb
theorem RowsB.none {w : World} (S : Nat → Prop) (a : Option Addr) : RowsB w S (.slice a 0 0) [] := ⟨[], ⟨a, 0, rfl, by simp, by unfold maxLen; omega, fun _ => rfl, fun x _ i hi => by simp at hi⟩, Each.nil _ _⟩
theorem bs_blk {w : World} {v : Value} {bs : List Int} (h : Bs w v bs) : 0 < bs.length → ∀ k, v.ownBlock = some k → k < w.heap.size := fun hp k hk => by
  rcases h.cases with ⟨e, _⟩ | ⟨_, b, off, cap, rfl, _, _, hb, _⟩
  · rw [e] at hp; simp at hp
  · simp [Value.ownBlock] at hk; omega
set_option maxHeartbeats 4000000 in
set_option maxRecDepth 100000 in
theorem walk_gearForks (v : Value) (b : Int × Int × Int) (seed : Int) (va : Value) (la : List Int) (vb : Value) (lb : List Int) (vd : Value) (ld : List Int) (w : World) (hv : CutV v b) (hw : (Lit.int .u64 seed).wf = true) (ha : Bs w va la) (hb : Bs w vb lb) (hd : Bs w vd ld) : Calls Try.prog 8 #[v, .int .u64 seed, va, vb, vd] w fun e w' => e = .returned (.bool true) ∧ Below w.heap.size w w' := by
  obtain ⟨h0, h1⟩ := u64_rng hw
  clear hw
  obtain ⟨mn, av, mx⟩ := b
  unfold CutV at hv
  subst hv
  simp only
  obtain ⟨zs, Hzs⟩ : ∃ zs, Hid (zc27 = zs) := ⟨_, ⟨rfl⟩⟩
  have hzv := zv27
  have hzn := zc27_ne
  rw [Hzs.out] at hzn
  simp only [Hzs.out] at hzv
  have HZS : Hid (zs.size = 256) := ⟨by rw [← Hzs.out]; simp [zc27]⟩
  obtain ⟨w1, HW1⟩ : ∃ w1, Hid (w.alloc (.cells #[.int .i64 mn, .int .i64 av, .int .i64 mx] 24) = w1) := ⟨_, ⟨rfl⟩⟩
  have Hb : Hid (Below w.heap.size w w1) := ⟨by rw [← HW1.out]; exact (Below.refl _ w).alloc (Nat.le_refl _) _⟩
  have Hx : Hid (w1.heap[w.heap.size]? = some (.cells #[.int .i64 mn, .int .i64 av, .int .i64 mx] 24 (0, 0))) := ⟨by rw [← HW1.out]; exact heap_alloc_new w _⟩
  have Hsz : Hid (w1.heap.size = w.heap.size + 1) := ⟨by rw [← HW1.out]; simp⟩
  obtain ⟨B, HBB⟩ : ∃ B, Hid (w.heap.size = B) := ⟨_, ⟨rfl⟩⟩
  have t1 := rtable_any seed w1
  go_enter Try.func8, Try.ntmps8
  go_upto_region 1 with fail
  rw [HW1.out]
  rw [HBB.out] at Hx Hsz Hb ⊢
  go_upto_region 2 with (first | (go_at_call 11; refine t1.mono ?_; rintro e w2 ⟨ta, rfl, hT, hb2⟩; have HT := Hid.mk hT; have HB2 := Hid.mk hb2; have hone := tab_one hT; have hpl : (Try.prog.info? 27).map (·.size) = some ta.size := (by rw [hT.1]; exact info27); have hts : zs.size = ta.size := (by rw [hT.1]; exact HZS.out); clear hT hb2) | (refine wpList_store_row rfl 27 (.tmp 11) (.tmp 27) rfl w2.heap.size ta rfl rfl 27 zs (heap_alloc_new w2 _) hpl hts hone ?_))
  obtain ⟨w3, HW3⟩ : ∃ w3, Hid ((w2.alloc (.cells zs 27)).setRow w2.heap.size ta = w3) := ⟨_, ⟨rfl⟩⟩
  rw [HW3.out]
  obtain ⟨Tb, HTb⟩ : ∃ Tb, Hid (w2.heap.size = Tb) := ⟨_, ⟨rfl⟩⟩
  obtain ⟨D, HD⟩ : ∃ D, Hid (w3.heap.size = D) := ⟨_, ⟨rfl⟩⟩
  have HX3 : Hid (w3.heap[B]? = some (.cells #[.int .i64 mn, .int .i64 av, .int .i64 mx] 24 (0, 0)) ∧ w3.heap[Tb]? = some (.cells ta 27 (0, 0)) ∧ B < D ∧ Tb < D ∧ Below B w w3) := ⟨by
    have e1 : w2.heap[B]? = some (.cells #[.int .i64 mn, .int .i64 av, .int .i64 mx] 24 (0, 0)) := (HB2.out.block B (by rw [Hsz.out]; omega)).trans Hx.out
    have hB2 : B < w2.heap.size := (Array.getElem?_eq_some_iff.1 e1).1
    have hsz3 : w3.heap.size = w2.heap.size + 1 := by rw [← HW3.out]; simp
    refine ⟨?_, ?_, by rw [← HD.out, hsz3]; omega, by rw [← HD.out, ← HTb.out, hsz3]; omega, ?_⟩
    · rw [← HW3.out, setRow_other _ _ _ _ (by omega), Below.heap_alloc _ _ _ hB2]; exact e1
    · rw [← HW3.out, ← HTb.out]; exact setRow_heap _ _ _ ta 27 (0, 0) (heap_alloc_new w2 _)
    · rw [← HW3.out]; exact below_setRow' ((Hb.out.trans (HB2.out.mono (by rw [Hsz.out]; omega))).alloc (by omega) _) (by omega) _⟩
  rw [HTb.out]
  clear hzv hzn hone hts t1
  have HCells : Hid (∀ w', Below D w3 w' → w'.heap[B]? = some (.cells #[.int .i64 mn, .int .i64 av, .int .i64 mx] 24 (0, 0)) ∧ w'.heap[Tb]? = some (.cells ta 27 (0, 0))) := ⟨fun w' hb' => ⟨(hb'.block B HX3.out.2.2.1).trans HX3.out.1, (hb'.block Tb HX3.out.2.2.2.1).trans HX3.out.2.1⟩⟩
  have HA : Hid (Bs w3 va la) := ⟨ha.below (by rw [HBB.out]; exact HX3.out.2.2.2.2)⟩
  have HBv : Hid (Bs w3 vb lb) := ⟨hb.below (by rw [HBB.out]; exact HX3.out.2.2.2.2)⟩
  have HDv : Hid (Bs w3 vd ld) := ⟨hd.below (by rw [HBB.out]; exact HX3.out.2.2.2.2)⟩
  obtain ⟨aa, ca, rfl, hla, _⟩ := HA.out
  obtain ⟨ab, cb, rfl, hlb, _⟩ := HBv.out
  obtain ⟨ad, cd, rfl, hld, _⟩ := HDv.out
  clear ha hb hd
  go_upto_region 7 with (first | (go_at_call 19; refine (write_nil _ _).mono ?_; rintro e w' ⟨rfl, rfl⟩) | (go_at_call 22; refine (end_nil _).mono ?_; rintro e w' ⟨rfl, rfl⟩) | (go_at_call 21; refine (held_nil _).mono ?_; rintro e w' ⟨rfl, rfl⟩) | (go_at_call 23; refine (fork_nil _).mono ?_; rintro e w' ⟨rfl, rfl⟩))
  obtain ⟨hx, hx1⟩ := HCells.out w3 (Below.refl _ _)
  by_cases hok : okC mn av mx
  · have t4 := new_any hok ta _ HT.out w3
    go_upto_region 8 with (first | (refine wpList_load_row rfl 24 (.tmp 5) rfl B rfl 24 #[.int .i64 mn, .int .i64 av, .int .i64 mx] (0, 0) _ hx Try.underlying24 rfl info24 ?_) | (refine wpList_load_row rfl 27 (.tmp 11) rfl Tb rfl 27 ta (0, 0) _ hx1 Try.underlying27 rfl hpl ?_) | (go_at_call 18; refine t4.mono ?_; rintro e w4 ⟨p, cs4, rfl, hp4, hC4, hb4⟩; have HC4 := Hid.mk hC4; have HB4 := Hid.mk hb4; have HP4 := Hid.mk hp4; clear hC4 hb4 hp4))
    rw [HD.out] at HB4 HP4
    clear t4 hx hx1
    go_upto_region 11 with (go_at_call 14; refine (small_any _ _ _ (by first | exact hla | exact hlb | exact hld) _).mono ?_; rintro e w' ⟨rfl, rfl⟩)
    have HA3 : Hid (Bs w3 (.slice aa (min la.length 3000) ca) (la.take 3000)) := ⟨bs_small HA.out⟩
    have HB3 : Hid (Bs w3 (.slice ab (min lb.length 3000) cb) (lb.take 3000)) := ⟨bs_small HBv.out⟩
    have HD3 : Hid (Bs w3 (.slice ad (min ld.length 3000) cd) (ld.take 3000)) := ⟨bs_small HDv.out⟩
    have hA3 : (la.take 3000).length ≤ 3000 := List.length_take_le _ _
    have hB3 : (lb.take 3000).length ≤ 3000 := List.length_take_le _ _
    have hD3 : (ld.take 3000).length ≤ 3000 := List.length_take_le _ _
    generalize la.take 3000 = xa at HA3 hA3
    generalize lb.take 3000 = xb at HB3 hB3
    generalize ld.take 3000 = xd at HD3 hD3
    generalize min la.length 3000 = na at HA3 ⊢
    generalize min lb.length 3000 = nb at HB3 ⊢
    generalize min ld.length 3000 = nd at HD3 ⊢
    obtain ⟨E, HE⟩ : ∃ E, Hid (endB mn av mx (tabV seed) = E) := ⟨_, ⟨rfl⟩⟩
    have HEL : Hid (endL mn mx (4294967296 / av) (tabV seed) = E) := ⟨HE.out⟩
    have kA : 0 < xa.length → ∀ k, (Value.slice aa na ca).ownBlock = some k → k < D := by rw [← HD.out]; exact bs_blk HA3.out
    have kB : 0 < xb.length → ∀ k, (Value.slice ab nb cb).ownBlock = some k → k < D := by rw [← HD.out]; exact bs_blk HB3.out
    have kD : 0 < xd.length → ∀ k, (Value.slice ad nd cd).ownBlock = some k → k < D := by rw [← HD.out]; exact bs_blk HD3.out
    have KK : Hid ((0 < xa.length → ∀ k, (Value.slice aa na ca).ownBlock = some k → k < D) ∧ (0 < xb.length → ∀ k, (Value.slice ab nb cb).ownBlock = some k → k < D) ∧ (0 < xd.length → ∀ k, (Value.slice ad nd cd).ownBlock = some k → k < D)) := ⟨kA, kB, kD⟩
    clear kA kB kD
    have hsz4 : D ≤ w4.heap.size := by rw [← HD.out]; exact HB4.out.size
    have hnil : ∀ (k : Nat), k ∉ ob (.slice none 0 0) := by simp [ob, Value.ownBlock]
    have t5 := write_any (l := []) HC4.out hok.2.2.1 (by simp) (fun y hy => by cases hy) _ xa (HA3.out.below (by rw [HD.out]; exact HB4.out)) (fun hpos k hk hm => by
      have h1 := KK.out.1 hpos k hk
      rcases List.mem_cons.1 hm with q | q
      · have := HP4.out; omega
      · exact hnil k q) (by omega)
    rw [HEL.out] at t5
    obtain ⟨R1, HR1⟩ : ∃ R, Hid (feed E [] xa = R) := ⟨_, ⟨rfl⟩⟩
    rw [HR1.out] at t5
    go_upto_region 12 with (go_at_call 19; refine t5.mono ?_; rintro e w5 ⟨rv5, cs5, v5, rfl, hO5, hOB5, hC5, hG5, hV5⟩)
    have HR5 : Hid (Byt R1.2 ∧ R1.2.length ≤ 512) := ⟨by
      have q1 := byt_feed (E := E) xa (l := []) (fun y hy => by cases hy) (by obtain ⟨_, _, _, _, _, _, _, hy⟩ := HA3.out; exact hy)
      have q2 := (feed_max (mn := mn) (av := av) (mx := mx) (T := tabV seed) xa [] (by have := hok.1; have := hok.2.1; simp; omega)).2
      rw [HE.out, HR1.out] at q2
      rw [HR1.out] at q1
      exact ⟨q1, by have := hok.2.2.1; omega⟩⟩
    have HB5 : Hid (Below D w3 w5) := ⟨HB4.out.trans (hG5.below hsz4 (fun x hx => by
      rcases List.mem_cons.1 hx with q | q
      · rw [q]; exact HP4.out
      · exact (hnil x q).elim))⟩
    have HC5 := Hid.mk hC5
    have HS5 : Hid (D ≤ w5.heap.size ∧ p < w5.heap.size ∧ (∀ k ∈ ob v5, D ≤ k ∧ k < w5.heap.size)) := ⟨by
      have := HB5.out.size
      rw [HD.out] at this
      exact this, hC5.lt, fun k hk => ⟨by
        rcases hV5 k hk with q | q
        · exact (hnil k q).elim
        · omega, (hC5.own.lt k (mem_ob.1 hk)).2⟩⟩
    have t6 := fork_any hC5 HR5.out.1 (by have := HR5.out.2; omega)
    clear hC5 hG5 hV5 hO5 hOB5 t5
    go_upto_region 13 with (go_at_call 23; refine t6.mono ?_; rintro e w6 ⟨p6, cs6, v6, rfl, hC6, hp6, hv6, hb6⟩)
    have HC6g : Hid (CutAt w6 p 0 mn mx (4294967296 / av) (tabV seed) cs5 v5 R1.2 (hsh (tabV seed) R1.2) false) := ⟨HC5.out.far (Chg.ofBelow (X := []) hb6) (by simp) (by simp)⟩
    have HB6 : Hid (Below D w3 w6) := ⟨HB5.out.trans (hb6.mono HS5.out.1)⟩
    have HS6 : Hid (w5.heap.size ≤ p6 ∧ (∀ k ∈ ob v6, w5.heap.size ≤ k) ∧ D ≤ w6.heap.size) := ⟨hp6, hv6, by have := HB6.out.size; rw [HD.out] at this; exact this⟩
    have t7 := write_any hC6 hok.2.2.1 HR5.out.2 HR5.out.1 _ xb (HB3.out.below (by rw [HD.out]; exact HB6.out)) (fun hpos k hk hm => by
      have h1 := KK.out.2.1 hpos k hk
      have h2 := HS5.out.1
      rcases List.mem_cons.1 hm with q | q
      · have := HS6.out.1; omega
      · have := HS6.out.2.1 k q; omega) (by omega)
    clear hC6 hp6 hv6 hb6 t6
    go_upto_region 14 with (go_at_call 19; refine t7.mono ?_; rintro e w7 ⟨rv7, cs7, v7, rfl, hO7, hOB7, hC7, hG7, hV7⟩)
    have HC7 : Hid (CutAt w7 p 0 mn mx (4294967296 / av) (tabV seed) cs5 v5 R1.2 (hsh (tabV seed) R1.2) false) := ⟨HC6g.out.far hG7 (fun hm => by
      rcases List.mem_cons.1 hm with q | q
      · have := HS6.out.1; have := HS5.out.2.1; omega
      · have := HS6.out.2.1 p q; have := HS5.out.2.1; omega) (fun k hk hm => by
      have h3 := (HS5.out.2.2 k hk).2
      rcases List.mem_cons.1 hm with q | q
      · have := HS6.out.1; omega
      · have := HS6.out.2.1 k q; omega)⟩
    have HB7 : Hid (Below D w3 w7) := ⟨HB6.out.trans (hG7.below HS6.out.2.2 (fun x hx => by
      have := HS5.out.1
      rcases List.mem_cons.1 hx with q | q
      · have := HS6.out.1; omega
      · have := HS6.out.2.1 x q; omega))⟩
    have hsz7 : D ≤ w7.heap.size := by have := HB7.out.size; rw [HD.out] at this; exact this
    have t8 := write_any HC7.out hok.2.2.1 HR5.out.2 HR5.out.1 _ xd (HD3.out.below (by rw [HD.out]; exact HB7.out)) (fun hpos k hk hm => by
      have h1 := KK.out.2.2 hpos k hk
      rcases List.mem_cons.1 hm with q | q
      · have := HP4.out; omega
      · have := (HS5.out.2.2 k q).1; omega) (by omega)
    rw [HEL.out] at t8
    obtain ⟨R2, HR2⟩ : ∃ R, Hid (feed E R1.2 xd = R) := ⟨_, ⟨rfl⟩⟩
    rw [HR2.out] at t8
    have HF : Hid (feed E [] (xa ++ xd) = (R1.1 ++ R2.1, R2.2)) := ⟨by rw [feed_append, HR1.out, HR2.out]⟩
    clear hO7 hOB7 hC7 hG7 hV7 t7
    go_upto_region 15 with (go_at_call 19; refine t8.mono ?_; rintro e w8 ⟨rv8, cs8, v8, rfl, hO8, hOB8, hC8, hG8, hV8⟩; have HO8 := Hid.mk hO8; obtain ⟨a8, c8, rfl, _⟩ := hO8.rows.shape)
    have HB8 : Hid (Below D w3 w8) := ⟨HB7.out.trans (hG8.below hsz7 (fun x hx => by
      rcases List.mem_cons.1 hx with q | q
      · rw [q]; exact HP4.out
      · exact (HS5.out.2.2 x q).1))⟩
    have HC8 := Hid.mk hC8
    have hsz8 : D ≤ w8.heap.size := by have := HB8.out.size; rw [HD.out] at this; exact this
    obtain ⟨hx, hx1⟩ := HCells.out w8 HB8.out
    have t9 := split_any hok ta _ HT.out _ xa (HA3.out.below (by rw [HD.out]; exact HB8.out)) (by omega)
    rw [HE.out, HR1.out] at t9
    clear hO8 hOB8 hC8 hG8 hV8 t8
    go_upto_region 16 with (first | (refine wpList_load_row rfl 24 (.tmp 5) rfl B rfl 24 #[.int .i64 mn, .int .i64 av, .int .i64 mx] (0, 0) _ hx Try.underlying24 rfl info24 ?_) | (refine wpList_load_row rfl 27 (.tmp 11) rfl Tb rfl 27 ta (0, 0) _ hx1 Try.underlying27 rfl hpl ?_) | (go_at_call 20; refine t9.mono ?_; rintro e w9 ⟨ov9, rv9, rfl, hO9, hOB9, hR9, hb9⟩; obtain ⟨a9, c9, rfl, _⟩ := hO9.rows.shape; obtain ⟨ar9, cr9, rfl, _⟩ := hR9.bs))
    have HB9 : Hid (Below D w3 w9 ∧ Below w8.heap.size w8 w9) := ⟨HB8.out.trans (hb9.mono hsz8), hb9⟩
    have hsz9 : D ≤ w9.heap.size := by have := HB9.out.1.size; rw [HD.out] at this; exact this
    clear hO9 hOB9 hR9 hb9 hx hx1 t9
    have HSS : Hid (∀ w', Below D w3 w' → w'.cell? ⟨B, 0, none⟩ = some (.int .i64 mn) ∧ w'.cell? ⟨B, 1, none⟩ = some (.int .i64 av) ∧ w'.cell? ⟨B, 2, none⟩ = some (.int .i64 mx) ∧ (loadVar 27 ⟨Tb, 0, none⟩).run Try.prog w' = .ok (.agg ta) w') := ⟨fun w' hb' => by
      obtain ⟨hy, hy1⟩ := HCells.out w' hb'
      refine ⟨?_, ?_, ?_, run_loadVar_row w' Tb 27 27 ta (0, 0) (.array 256 26) hy1 Try.underlying27 rfl hpl⟩
      · rw [cell_of_row _ _ _ _ _ _ hy]; rfl
      · rw [cell_of_row _ _ _ _ _ _ hy]; rfl
      · rw [cell_of_row _ _ _ _ _ _ hy]; rfl⟩
    go_wp2_with fail
    refine wp_region_held_drew (S := (fun w' => w'.cell? ⟨B, 0, none⟩ = some (.int .i64 mn) ∧ w'.cell? ⟨B, 1, none⟩ = some (.int .i64 av) ∧ w'.cell? ⟨B, 2, none⟩ = some (.int .i64 mx) ∧ (loadVar 27 ⟨Tb, 0, none⟩).run Try.prog w' = .ok (.agg ta) w')) (by kernel_rfl) (HSS.out w9.drew HB9.out.1.drew) (fun hS => ?_)
    refine wpAnyH_take (i := 0) (v := .agg #[.int .i64 mn, .int .i64 av, .int .i64 mx]) rfl (by kernel_rfl) (by kernel_rfl) (by kernel_rfl) (fun _ _ _ h => h) (Or.inl ⟨by kernel_rfl, fun wx hx => by obtain ⟨hx0, hx1, hx2, hx3⟩ := hx; go_simp⟩) hS ?_
    refine wpAnyH_take (i := 1) (v := .agg ta) rfl (by kernel_rfl) (by kernel_rfl) (by kernel_rfl) (fun _ _ _ h => h) (Or.inl ⟨by kernel_rfl, fun wx hx => yld_load (x := .tmp 11) rfl (by kernel_rfl) hx.2.2.2⟩) hS ?_
    refine wpAnyH_take (i := 3) (v := .slice aa na ca) rfl (by kernel_rfl) (by kernel_rfl) (by kernel_rfl) (fun _ _ _ h => h) (Or.inl ⟨by kernel_rfl, fun _ _ => by kernel_rfl⟩) hS ?_
    refine wpAnyH_take (i := 5) (v := .slice ad nd cd) rfl (by kernel_rfl) (by kernel_rfl) (by kernel_rfl) (fun _ _ _ h => h) (Or.inl ⟨by kernel_rfl, fun _ _ => by kernel_rfl⟩) hS ?_
    refine wpAnyH_ready (rs := [2]) (by kernel_rfl) (by simp) (AllReadyH.cons rfl (fun Kc hK => ?_) AllReadyH.nil)
    go_simp
    obtain ⟨w10, HW10⟩ : ∃ w10, Hid ((w9.alloc (.cells #[] 5)).drew = w10) := ⟨_, ⟨rfl⟩⟩
    rw [HW10.out]
    have HN10 : Hid (OwnB w10 w9.heap.size (.slice (some ⟨w9.heap.size, 0, none⟩) 0 0) []) := ⟨by rw [← HW10.out]; exact own_far (ownb_none w9) (Chg.refl [] _).drew (by simp)⟩
    have HB10 : Hid (Below w9.heap.size w9 w10 ∧ w10.heap.size = w9.heap.size + 1) := ⟨by rw [← HW10.out]; exact ((Below.refl _ w9).alloc (Nat.le_refl _) _).drew, by rw [← HW10.out]; simp⟩
    refine hK.out _ _ (HSS.out w10 (HB9.out.1.trans (HB10.out.1.mono hsz9))) (fun hS => ?_)
    clear hK
    refine wpAnyH_ready (rs := [4]) (by kernel_rfl) (by simp) (AllReadyH.cons rfl (fun Kc hK => ?_) AllReadyH.nil)
    refine rdy_of (by kernel_rfl) ?_
    refine op_appSat (base := w9.heap.size) (.tmp 94) (.tmp 95) rfl (by kernel_rfl) HN10.out (by kernel_rfl) ((HA3.out.below (by rw [HD.out]; exact HB9.out.1)).below HB10.out.1) (by simp; omega) (by rw [HB10.out.2]; omega) ?_
    intro v11 w11 hO11 hG11 hV11
    have HB11 : Hid (Below w9.heap.size w9 w11) := ⟨HB10.out.1.trans (hG11.below (by rw [HB10.out.2]; omega) (fun x hx => (HN10.out.lt x (mem_ob.1 hx)).1))⟩
    have HO11 : Hid (OwnB w11 w9.heap.size v11 xa) := ⟨by simpa using hO11⟩
    obtain ⟨a11, c11, rfl, _⟩ := OwnB.mine HO11.out
    clear hO11 hG11 hV11
    refine hK.out _ _ (HSS.out w11 (HB9.out.1.trans (HB11.out.mono hsz9))) (fun hS => ?_)
    clear hK
    refine wpAnyH_ready (rs := [6]) (by kernel_rfl) (by simp) (AllReadyH.cons rfl (fun Kc hK => ?_) AllReadyH.nil)
    refine rdy_of (by kernel_rfl) ?_
    refine op_appSat (base := w9.heap.size) (.tmp 96) (.tmp 97) rfl (by kernel_rfl) HO11.out (by kernel_rfl) ((HD3.out.below (by rw [HD.out]; exact HB9.out.1)).below HB11.out) (by omega) HB11.out.size ?_
    intro v12 w12 hO12 hG12 hV12
    have HB12 : Hid (Below w9.heap.size w9 w12) := ⟨HB11.out.trans (hG12.below HB11.out.size (fun x hx => (HO11.out.lt x (mem_ob.1 hx)).1))⟩
    have HO12 := Hid.mk hO12
    obtain ⟨a12, c12, rfl, _⟩ := OwnB.mine hO12
    obtain ⟨n12, Hn12⟩ : ∃ n, Hid ((xa ++ xd).length = n) := ⟨_, ⟨rfl⟩⟩
    rw [Hn12.out] at HO12 hO12 ⊢
    have HY12 : Hid (Byt (xa ++ xd)) := ⟨fun y hy => by
      rcases List.mem_append.1 hy with q | q
      · obtain ⟨_, _, _, _, _, _, _, hy⟩ := HA3.out; exact hy y q
      · obtain ⟨_, _, _, _, _, _, _, hy⟩ := HD3.out; exact hy y q⟩
    have t13 := split_any hok ta _ HT.out _ (xa ++ xd) (hO12.bs HY12.out) (by simp; omega)
    rw [HE.out, HF.out] at t13
    clear hO12 hG12 hV12
    refine hK.out _ _ (HSS.out w12 (HB9.out.1.trans (HB12.out.mono hsz9))) (fun hS => ?_)
    clear hK
    refine wpAnyH_ready (rs := [7]) (by kernel_rfl) (by simp) (AllReadyH.cons rfl (fun Kc hK => ?_) AllReadyH.nil)
    go_simp
    refine t13.mono ?_
    rintro e w13 ⟨ov13, rv13, rfl, hO13, hOB13, hR13, hb13⟩
    have HB13 : Hid (Below w9.heap.size w9 w13) := ⟨HB12.out.trans (hb13.mono HB12.out.size)⟩
    have HO13 := Hid.mk hO13
    obtain ⟨a13, c13, rfl, hc13, _⟩ := hO13.rows.shape
    have HR13 := Hid.mk hR13
    obtain ⟨ar13, cr13, rfl, _⟩ := hR13.bs
    obtain ⟨n13, Hn13⟩ : ∃ n, Hid ((R1.1 ++ R2.1).length = n) := ⟨_, ⟨rfl⟩⟩
    simp only [Hn13.out] at HO13 hc13 ⊢
    clear hO13 hOB13 hR13 hb13 t13
    go_simp
    refine hK.out _ _ (HSS.out w13 (HB9.out.1.trans (HB13.out.mono hsz9))) (fun hS => ?_)
    clear hK
    refine wpAnyH_take (i := 8) (v := .tuple #[.slice a13 n13 c13, .slice ar13 R2.2.length cr13]) rfl (by kernel_rfl) (by kernel_rfl) (by kernel_rfl) (fun _ _ _ h => h) (Or.inl ⟨by kernel_rfl, fun _ _ => by kernel_rfl⟩) hS ?_
    refine wpAnyH_take (i := 9) (v := .slice a13 n13 c13) rfl (by kernel_rfl) (by kernel_rfl) (by kernel_rfl) (fun _ _ _ h => h) (Or.inl ⟨by kernel_rfl, fun _ _ => by kernel_rfl⟩) hS ?_
    refine wpAnyH_take (i := 10) (v := .slice ar13 R2.2.length cr13) rfl (by kernel_rfl) (by kernel_rfl) (by kernel_rfl) (fun _ _ _ h => h) (Or.inl ⟨by kernel_rfl, fun _ _ => by kernel_rfl⟩) hS ?_
    refine wpAnyH_take (i := 11) (v := .slice a13 n13 c13) rfl (by kernel_rfl) (by kernel_rfl) (by kernel_rfl) (fun _ _ _ h => h) (Or.inl ⟨by kernel_rfl, fun _ _ => by kernel_rfl⟩) hS ?_
    refine wpAnyH_take (i := 12) (v := .slice ar13 R2.2.length cr13) rfl (by kernel_rfl) (by kernel_rfl) (by kernel_rfl) (fun _ _ _ h => h) (Or.inl ⟨by kernel_rfl, fun _ _ => by kernel_rfl⟩) hS ?_
    refine wpAnyH_done (by kernel_rfl) ?_ _
    clear hS
    go_simp
    have HX13 : Hid (RowsB w13 (Ck v5 w7.heap.size v8) (.slice a8 R2.1.length c8) R2.1) := ⟨(HO8.out.rows.still (Chg.ofBelow HB9.out.2)).still (Chg.ofBelow HB13.out)⟩
    obtain ⟨ah, ch, rfl, _⟩ := OwnB.mine HC8.out.own
    have HP13 : Hid (p < w13.heap.size) := ⟨by have := HC8.out.lt; have := HB9.out.2.size; have := HB13.out.size; omega⟩
    have hcell : w13.cell? ⟨p, 259, none⟩ = some (.slice ah R2.2.length ch) := (HB13.out.cell (p := ⟨p, 259, none⟩) (by have := HC8.out.lt; have := HB9.out.2.size; show p < w9.heap.size; omega)).trans ((HB9.out.2.cell (p := ⟨p, 259, none⟩) HC8.out.lt).trans ((HC8.out.cell 259).trans HC8.out.c4))
    obtain ⟨r1, Hr1⟩ : ∃ r, Hid (R1.1.length = r) := ⟨_, ⟨rfl⟩⟩
    obtain ⟨r2, Hr2⟩ : ∃ r, Hid (R2.1.length = r) := ⟨_, ⟨rfl⟩⟩
    obtain ⟨r3, Hr3⟩ : ∃ r, Hid (R2.2.length = r) := ⟨_, ⟨rfl⟩⟩
    have hn13 : n13 = r1 + r2 := by rw [← Hn13.out, ← Hr1.out, ← Hr2.out]; simp
    have hl2 : R2.1.length ≤ 1000000000000 := by have := feed_len E xd R1.2; rw [HR2.out] at this; omega
    have HDr : Hid ((R1.1 ++ R2.1).drop r1 = R2.1) := ⟨by rw [← Hr1.out, List.drop_left]⟩
    simp only [Hr1.out, Hr2.out, Hr3.out] at HX13 hcell hc13 ⊢
    subst hn13
    have hcz : (r1 : Int) ≤ ((r1 + r2 : Nat) : Int) := by omega
    have hcz2 : ¬ r1 + r2 < r1 := by omega
    have HOw := HO13.out
    by_cases hck : c13 = r1
    · have hr0 : r2 = 0 := by omega
      have HW13 : Hid (RowsB w13 (fun k => w12.heap.size ≤ k) (.slice a13 0 0) R2.1) := ⟨by
        rw [List.length_eq_zero_iff.1 (show R2.1.length = 0 by rw [Hr2.out]; exact hr0)]
        exact RowsB.none _ a13⟩
      subst hck
      subst hr0
      clear HOw
      go_wp2_with (first | (go_at_call 9; refine (live_any w13).mono ?_; rintro e w14 ⟨rfl, hb14⟩; have ts := same_yes (HX13.out.still (Chg.ofBelow hb14)) (HW13.out.still (Chg.ofBelow hb14)) hl2) | (go_at_call 17; refine ts.mono ?_; rintro e w15 ⟨rfl, hG15⟩; have hc259 : w15.cell? ⟨p, 259, none⟩ = some (.slice ah r3 ch) := ((hG15.cell (a := ⟨p, 259, none⟩) (by have := hb14.size; have := HP13.out; show p < w14.heap.size; omega) (by simp)).trans (hb14.cell (p := ⟨p, 259, none⟩) HP13.out)).trans hcell; have th := held_any hc259) | (go_at_call 21; refine th.mono ?_; rintro e w16 ⟨rfl, rfl⟩))
      go_ret
      exact ⟨rfl, by rw [HBB.out]; exact HX3.out.2.2.2.2.trans ((((HB9.out.1.trans (HB13.out.mono hsz9)).mono (by have := HX3.out.2.2.1; omega)).trans (hb14.mono (by have := HB13.out.size; have := HX3.out.2.2.1; omega))).trans (hG15.below (by have := HB13.out.size; have := hb14.size; have := HX3.out.2.2.1; omega) (by simp)))⟩
    · obtain ⟨g, rfl⟩ : ∃ g, a13 = some ⟨g, 0, none⟩ := by
        obtain ⟨vs, ⟨_, q⟩, _⟩ := HOw
        rcases q with ⟨q, q2⟩ | ⟨g, cap, cur, q, _⟩
        · simp at q q2
          omega
        · simp at q
          exact ⟨g, q.1⟩
      have HW13 : Hid (RowsB w13 (fun k => w12.heap.size ≤ k) (.slice (some ⟨g, r1, none⟩) r2 (c13 - r1)) R2.1) := ⟨by
        have := HO13.out.rows.drop (k := r1) (by omega)
        rw [HDr.out, Nat.add_sub_cancel_left] at this
        exact this⟩
      clear HOw
      go_wp2_with (first | (go_at_call 9; refine (live_any w13).mono ?_; rintro e w14 ⟨rfl, hb14⟩; have ts := same_yes (HX13.out.still (Chg.ofBelow hb14)) (HW13.out.still (Chg.ofBelow hb14)) hl2) | (go_at_call 17; refine ts.mono ?_; rintro e w15 ⟨rfl, hG15⟩; have hc259 : w15.cell? ⟨p, 259, none⟩ = some (.slice ah r3 ch) := ((hG15.cell (a := ⟨p, 259, none⟩) (by have := hb14.size; have := HP13.out; show p < w14.heap.size; omega) (by simp)).trans (hb14.cell (p := ⟨p, 259, none⟩) HP13.out)).trans hcell; have th := held_any hc259) | (go_at_call 21; refine th.mono ?_; rintro e w16 ⟨rfl, rfl⟩))
      go_ret
      exact ⟨rfl, by rw [HBB.out]; exact HX3.out.2.2.2.2.trans ((((HB9.out.1.trans (HB13.out.mono hsz9)).mono (by have := HX3.out.2.2.1; omega)).trans (hb14.mono (by have := HB13.out.size; have := HX3.out.2.2.1; omega))).trans (hG15.below (by have := HB13.out.size; have := hb14.size; have := HX3.out.2.2.1; omega) (by simp)))⟩
  · have t4 := new_bad hok ta w3
    go_upto_region 8 with (first | (refine wpList_load_row rfl 24 (.tmp 5) rfl B rfl 24 #[.int .i64 mn, .int .i64 av, .int .i64 mx] (0, 0) _ hx Try.underlying24 rfl info24 ?_) | (refine wpList_load_row rfl 27 (.tmp 11) rfl Tb rfl 27 ta (0, 0) _ hx1 Try.underlying27 rfl hpl ?_) | (go_at_call 18; refine t4.mono ?_; rintro e w4 ⟨rfl, hb4⟩))
    clear hx hx1 t4
    go_wp2_with (go_at_call 9; refine (live_any w4).mono ?_; rintro e w5 ⟨rfl, hb5⟩)
    go_ret
    exact ⟨rfl, by rw [HBB.out]; rw [HD.out] at hb4; exact HX3.out.2.2.2.2.trans ((hb4.mono (by have := HX3.out.2.2.1; omega)).trans (hb5.mono (by have := hb4.size; have := HD.out; have := HX3.out.2.2.1; omega)))⟩
end Go.Proofs.Ytngeefipeghjiaa
