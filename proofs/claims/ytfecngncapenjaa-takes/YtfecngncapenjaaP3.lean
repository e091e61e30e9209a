/- Put. -/
import Derived.Test.YtfecngncapenjaaPL
namespace Go.Proofs.Ytfecngncapenjaa
open Go.RowKit Oct Go.Lib

theorem numB_by (n : Nat) : By (numB n) := by
  induction n using Nat.strongRecOn with
  | ind n ih =>
    by_cases h : n < 128
    · rw [numB_small n h]; intro x hx; simp at hx; omega
    · rw [numB_big n h]
      intro x hx
      rcases List.mem_cons.1 hx with rfl | hx
      · omega
      · exact ih (n / 128) (by omega) x hx
theorem hdR_by {g : List Int} (hl : ∀ i, 0 ≤ g.getD i 0 ∧ g.getD i 0 ≤ 29) : ∀ k, k ≤ 256 → By (hdR g k)
  | 0, _ => fun x hx => by simp [hdR] at hx
  | k + 1, hk => by
    have ih := hdR_by hl k (by omega)
    rw [hdR]
    intro x hx
    rcases List.mem_append.1 hx with hx | hx
    · exact ih x hx
    · by_cases h : 0 < g.getD k 0
      · rw [if_pos h] at hx
        have := hl k
        simp only [List.mem_cons, List.not_mem_nil, or_false] at hx
        rcases hx with rfl | rfl <;> omega
      · rw [if_neg h] at hx; cases hx
theorem hdB_by {g : List Int} (hl : ∀ i, 0 ≤ g.getD i 0 ∧ g.getD i 0 ≤ 29) (n : Nat) : By (hdB g n) := by
  intro x hx
  simp only [hdB, List.mem_append] at hx
  rcases hx with (hx | hx) | hx
  · exact numB_by _ x hx
  · exact numB_by _ x hx
  · exact hdR_by hl 256 (Nat.le_refl _) x hx
theorem hdB_len (g : List Int) (n : Nat) : (hdB g n).length ≤ n + 1000 := by
  have h1 := numB_len n
  have h2 := numB_len ((hdR g 256).length / 2)
  have h3 := hdR_len g 256
  unfold hdB
  rw [List.length_append, List.length_append]
  omega
/-- The bits of bytes. -/
def pbits (g p : List Int) : List Nat := (p.map fun c => wbt g c.toNat).flatten
theorem pbits_snoc (g p : List Int) (c : Int) : pbits g (p ++ [c]) = pbits g p ++ wbt g c.toNat := by simp [pbits]
theorem pbits_bin (g p : List Int) : ∀ b ∈ pbits g p, b < 2 := fun b hb => by
  obtain ⟨l, hl, hb⟩ := List.mem_flatten.1 hb
  obtain ⟨c, _, rfl⟩ := List.mem_map.1 hl
  exact wbt_bin g _ b hb
theorem wbt_len (g : List Int) (c : Nat) : (wbt g c).length = ln g c := Wd.bits_len _ _
theorem pbits_len {g : List Int} (hl : ∀ i, 0 ≤ g.getD i 0 ∧ g.getD i 0 ≤ 29) : ∀ p : List Int, (pbits g p).length ≤ 29 * p.length
  | [] => by simp [pbits]
  | c :: p => by
    have h1 := pbits_len hl p
    have h2 := hl c.toNat
    have h3 := wbt_len g c.toNat
    unfold ln at h3
    unfold pbits at h1 ⊢
    rw [List.map_cons, List.flatten_cons, List.length_append, List.length_cons]
    omega
/-- What Put tells. -/
def PutS (p out : List Int) : Prop := ∃ g, LenS (cnt p) g ∧ out = (wst (hdB g p.length, 0) (pbits g p)).1
theorem cnt_bad {p : List Int} (hb : By p) (hl : p.length ≤ 8192) : (cnt p).any bad = false := badAll_no (fun i _ => by
  have := cnt_le p hb i
  unfold bad
  exact decide_eq_false (by omega))
theorem cnt_pos {p : List Int} (hb : By p) {k : Nat} (hk : k < p.length) : 0 < (cnt p).getD (p.getD k 0).toNat 0 := by
  rw [cnt_get p hb]
  have : 0 < p.countP (fun c => c.toNat = (p.getD k 0).toNat) := by
    rw [List.countP_pos_iff]
    exact ⟨p.getD k 0, by unfold List.getD; rw [List.getElem?_eq_getElem hk]; exact List.getElem_mem hk, by simp⟩
  omega
theorem ws_get {g : List Int} {i : Nat} (hi : i < 256) (h : 0 < g.getD i 0 ∧ g.getD i 0 ≤ 29) : (ws g).getD i ByteArray.empty = wb g i := by
  unfold ws
  rw [wls_get g 61 0 i hi]
  have : bef g 61 0 i = true := by
    unfold bef ln
    rw [decide_eq_true (show 1 ≤ (g.getD i 0).toNat ∧ (g.getD i 0).toNat < 61 by omega)]; rfl
  rw [this, if_pos rfl]
section
variable {w : World}
set_option maxHeartbeats 4000000 in
set_option maxRecDepth 100000 in
theorem put16_no (v : Value) (p : List Int) (hv : RdY w v p) (hl : 8192 < p.length) : Calls Try.prog 16 #[v] w fun e w' => e = .returned (.tuple #[.slice none 0 0, .int .i64 6]) ∧ w = w' := by
  obtain ⟨a, c, rfl, _⟩ := hv.shape
  have hlz : (8192 : Int) < (p.length : Int) := by omega
  clear hv
  go_enter Try.func16, Try.ntmps16
  go_wp2_with fail
  go_ret2
  exact ⟨rfl, rfl⟩
set_option maxHeartbeats 8000000 in
set_option maxRecDepth 100000 in
theorem put16_ok (v : Value) (p : List Int) (hv : RdY w v p) (hb : By p) (hl : p.length ≤ 8192) : Calls Try.prog 16 #[v] w fun e w' => ∃ v' out, e = .returned (.tuple #[v', .int .i64 0]) ∧ OwnY w' w.heap.size v' out ∧ PutS p out ∧ Below w.heap.size w w' := by
  have HV := Hid.mk hv
  have HBy := Hid.mk hb
  have Hbad := Hid.mk (cnt_bad hb hl)
  have t1 := counts31 v p hv hb
  obtain ⟨C, HC⟩ : ∃ C, Hid (cnt p = C) := ⟨_, ⟨rfl⟩⟩
  rw [HC.out] at t1 Hbad
  have HCl : Hid (C.length = 256) := ⟨by rw [← HC.out]; exact cnt_len p⟩
  obtain ⟨a, cap, rfl, hcap⟩ := hv.shape
  obtain ⟨n, Hn⟩ : ∃ n, Hid (p.length = n) := ⟨_, ⟨rfl⟩⟩
  rw [Hn.out] at hl t1 HV hcap ⊢
  have hnz : ¬ (8192 : Int) < (n : Int) := by omega
  clear hv hb
  go_enter Try.func16, Try.ntmps16
  go_wp2_with fail
  refine t1.mono ?_
  rintro e w1 ⟨rfl, hB1⟩
  have HB1 := Hid.mk hB1
  have t2 := lengths9_ok (w := w1) C HCl.out Hbad.out
  clear t1 hB1
  go_wp2_with fail
  refine t2.mono ?_
  rintro e w2 ⟨g, rfl, hL, hB2⟩
  have HL := Hid.mk hL
  have HG : Hid (Good C g) := ⟨hL.good (by rw [← HC.out]; exact T0_fine (cnt_len p) (cnt_bad HBy.out (by rw [Hn.out]; exact hl)))⟩
  have hgl := hL.len
  have Hgl := Hid.mk hgl
  have HB2 : Hid (Below w.heap.size w w2) := ⟨HB1.out.trans (hB2.mono HB1.out.size)⟩
  obtain ⟨q, Hq⟩ : ∃ q, Hid (w2.heap.size = q) := ⟨_, ⟨rfl⟩⟩
  obtain ⟨w3, Hw3⟩ : ∃ x, Hid (w2.alloc (.cells (ia z0) 22) = x) := ⟨_, ⟨rfl⟩⟩
  have HB3 : Hid (Below w2.heap.size w2 w3) := ⟨by rw [← Hw3.out]; exact (Below.refl _ w2).alloc (Nat.le_refl _) _⟩
  have HR3 : Hid (w3.heap[q]? = some (.cells (ia z0) 22 (0, 0))) := ⟨by rw [← Hw3.out, ← Hq.out]; exact heap_alloc_new w2 _⟩
  obtain ⟨w4, Hw4⟩ : ∃ x, Hid (w3.setRow q (ia g) = x) := ⟨_, ⟨rfl⟩⟩
  have HR4 : Hid (w4.heap[q]? = some (.cells (ia g) 22 (0, 0))) := ⟨by rw [← Hw4.out]; exact setRow_heap w3 q (ia z0) _ 22 (0, 0) HR3.out⟩
  have HB4 : Hid (Below w.heap.size w w4) := ⟨by rw [← Hw4.out]; exact below_setRow (HB2.out.trans (HB3.out.mono HB2.out.size)) (by rw [← Hq.out]; exact HB2.out.size) _⟩
  clear t2 hL hB2 hgl
  go_upto_region 4 with (first | (refine wp_new22 rfl rfl ?_; rw [Hw3.out, Hq.out]) | (refine wp_put22 (f := z0) (g := g) rfl (.tmp 4) (.tmp 18) rfl rfl rfl z0_len Hgl.out HR3.out ?_; rw [Hw4.out]))
  obtain ⟨A, HA⟩ : ∃ A, Hid (ia g = A) := ⟨_, ⟨rfl⟩⟩
  have HI : Hid ((Try.prog.info? 22).map (·.size) = some A.size) := ⟨by rw [← HA.out]; exact info22f Hgl.out⟩
  have t3 := words12_ok (w := w4) g Hgl.out HG.out.room
  rw [HA.out] at HR4 t3 ⊢
  go_wp2_with (refine wp_load rfl 22 (.tmp 4) rfl q rfl A 22 (0, 0) _ HR4.out Try.underlying22 rfl HI.out ?_)
  refine t3.mono ?_
  rintro e w5 ⟨rfl, hB5⟩
  have HR5 : Hid (w5.heap[q]? = some (.cells A 22 (0, 0))) := ⟨below_at hB5 HR4.out⟩
  have HB5 : Hid (Below w.heap.size w w5) := ⟨HB4.out.trans (hB5.mono HB4.out.size)⟩
  obtain ⟨c, Hc⟩ : ∃ q, Hid (w5.heap.size = q) := ⟨_, ⟨rfl⟩⟩
  obtain ⟨w6, Hw6⟩ : ∃ x, Hid (w5.alloc (.cells (sa e0) 28) = x) := ⟨_, ⟨rfl⟩⟩
  have HB6 : Hid (Below w5.heap.size w5 w6) := ⟨by rw [← Hw6.out]; exact (Below.refl _ w5).alloc (Nat.le_refl _) _⟩
  have HS6 : Hid (w6.heap[c]? = some (.cells (sa e0) 28 (0, 0))) := ⟨by rw [← Hw6.out, ← Hc.out]; exact heap_alloc_new w5 _⟩
  obtain ⟨w7, Hw7⟩ : ∃ x, Hid (w6.setRow c (sa (ws g)) = x) := ⟨_, ⟨rfl⟩⟩
  have HS7 : Hid (w7.heap[c]? = some (.cells (sa (ws g)) 28 (0, 0))) := ⟨by rw [← Hw7.out]; exact setRow_heap w6 c (sa e0) _ 28 (0, 0) HS6.out⟩
  have HB57 : Hid (Below w5.heap.size w5 w7) := ⟨by rw [← Hw7.out]; exact below_setRow HB6.out (by rw [Hc.out]; exact Nat.le_refl c) _⟩
  have HR7 : Hid (w7.heap[q]? = some (.cells A 22 (0, 0))) := ⟨below_at HB57.out HR5.out⟩
  have HB7 : Hid (Below w.heap.size w w7) := ⟨HB5.out.trans (HB57.out.mono HB5.out.size)⟩
  have hwl : (ws g).length = 256 := wls_len g 61 0
  clear t3 hB5
  go_upto_region 5 with (first | (refine wp_new28 rfl rfl ?_; rw [Hw6.out, Hc.out]) | (refine wp_put28 (f := e0) (g := ws g) rfl (.tmp 6) (.tmp 23) rfl rfl rfl e0_len hwl HS6.out ?_; rw [Hw7.out]))
  have t4 := head32 (w := w7) n g Hgl.out (fun i => by have := HG.out.low i; omega) hl
  rw [HA.out] at t4
  go_wp2_with (refine wp_load rfl 22 (.tmp 4) rfl q rfl A 22 (0, 0) _ HR7.out Try.underlying22 rfl HI.out ?_)
  refine t4.mono ?_
  rintro e w8 ⟨v8, rfl, hO8, hB8⟩
  obtain ⟨ha, hc, e, _⟩ := hO8.shape
  subst e
  obtain ⟨hn, Hhn⟩ : ∃ x, Hid ((hdB g n).length = x) := ⟨_, ⟨rfl⟩⟩
  rw [Hhn.out] at hO8 ⊢
  have HO8 := Hid.mk hO8
  obtain ⟨base, Hbase⟩ : ∃ x, Hid (w7.heap.size = x) := ⟨_, ⟨rfl⟩⟩
  rw [Hbase.out] at HO8
  have HB8 : Hid (Below base w7 w8) := ⟨by rw [← Hbase.out]; exact hB8⟩
  obtain ⟨d, Hd⟩ : ∃ x, Hid (w8.heap.size = x) := ⟨_, ⟨rfl⟩⟩
  obtain ⟨w9, Hw9⟩ : ∃ x, Hid (w8.alloc (.cells #[.slice ha hn hc, .int .i64 0] 65) = x) := ⟨_, ⟨rfl⟩⟩
  have HB89 : Hid (Below w8.heap.size w8 w9) := ⟨by rw [← Hw9.out]; exact (Below.refl _ w8).alloc (Nat.le_refl _) _⟩
  have hbd : base ≤ d := by rw [← Hbase.out, ← Hd.out]; exact hB8.size
  have HW9 : Hid (WrB w9 base d (hdB g n, 0)) := ⟨⟨.slice ha hn hc, by rw [← Hw9.out, ← Hd.out]; exact heap_alloc_new w8 _, HO8.out.far' HB89.out⟩⟩
  have HB9 : Hid (Below base w7 w9) := ⟨HB8.out.trans (HB89.out.mono (by rw [Hd.out]; exact hbd))⟩
  have HS : Hid (∀ wx, Below base w7 wx → wx.heap[c]? = some (.cells (sa (ws g)) 28 (0, 0))) := ⟨fun wx h => (h.block c (by rw [← Hbase.out]; exact (Array.getElem?_eq_some_iff.1 HS7.out).1)).trans HS7.out⟩
  have HVx : Hid (∀ wx, Below base w7 wx → RdY wx (.slice a n cap) p) := ⟨fun wx h => Rd.far HV.out (Chg.ofBelow (X := []) (HB7.out.trans (h.mono (by rw [← Hbase.out]; exact HB7.out.size)))) (by simp)⟩
  have HBx : Hid (∀ wx, Below base w7 wx → Below w.heap.size w wx) := ⟨fun wx h => HB7.out.trans (h.mono (by rw [← Hbase.out]; exact HB7.out.size))⟩
  have HW0 : Hid (WI (hdB g n, 0)) := ⟨⟨Nat.zero_le _, hdB_by HG.out.low n, fun h => absurd rfl h⟩⟩
  have hbs : ∀ wx, Below base w7 wx → base ≤ wx.heap.size := fun wx h => by rw [← Hbase.out]; exact h.size
  have Hbs := Hid.mk hbs
  clear t4 hO8 hB8 HR7 HS7 hbs
  go_upto_region 7 with fail
  rw [Hw9.out, Hd.out]
  have hpl : (n : Int) ≤ 9223372036854775807 := by omega
  go_loopg [10, 32] n (fun gg _s10 s32 wr => ∃ k : Nat, k ≤ n ∧ n - k ≤ gg ∧ s32 = .int .i64 (k : Int) ∧ Hid (WrB wr base d (wst (hdB g n, 0) (pbits g (p.take k)))) ∧ Hid (Below base w7 wr))
  case atStart => exact ⟨0, Nat.zero_le _, by omega, rfl, HW9, HB9⟩
  case round =>
    clear HW9 HB9
    obtain ⟨k, hk, hgg, rfl, HW, HB⟩ := hrel
    rename World => wo
    by_cases hlt : k < n
    · have hltz : (k : Int) < (n : Int) := by omega
      obtain ⟨pg, off, cap', e, hcp, hat⟩ := (HVx.out wo HB.out).at (i := k) (by rw [Hn.out]; exact hlt)
      rw [Hn.out] at e
      simp only [Value.slice.injEq] at e
      obtain ⟨rfl, -, rfl⟩ := e
      have d1 := hat k (by rw [Hn.out]; exact hlt)
      have hgb := HBy.out.get k
      have Hpos := Hid.mk (cnt_pos HBy.out (k := k) (by rw [Hn.out]; exact hlt))
      rw [HC.out] at Hpos
      obtain ⟨m, Hm⟩ : ∃ m : Nat, Hid (p.getD k 0 = (m : Int)) := ⟨(p.getD k 0).toNat, ⟨by omega⟩⟩
      rw [Hm.out] at d1 hgb
      rw [Hm.out, Int.toNat_natCast] at Hpos
      have hm : m < 256 := by omega
      have hmz : (m : Int) < 256 := by omega
      have Hg1 : Hid (0 < g.getD m 0 ∧ g.getD m 0 ≤ 29) := ⟨(HG.out.same m hm).1 Hpos.out, (HG.out.low m).2⟩
      have d2 : wo.cell? ⟨c, m, none⟩ = some (.string (wb g m)) := by
        rw [cell_of_row _ _ _ _ _ _ (HS.out wo HB.out), ← ws_get hm Hg1.out]
        exact sa_get (by rw [hwl]; exact hm)
      have HN : Hid (pbits g (p.take (k + 1)) = pbits g (p.take k) ++ wbt g m) := ⟨by
        have hkp : k < p.length := by rw [Hn.out]; exact hlt
        rw [List.take_add_one, List.getElem?_eq_getElem hkp]
        have : p[k] = (m : Int) := by rw [← Hm.out]; simp [List.getD, List.getElem?_eq_getElem hkp]
        simp only [Option.toList_some]
        rw [this, pbits_snoc, Int.toNat_natCast]⟩
      have HWk : Hid (WI (wst (hdB g n, 0) (pbits g (p.take k)))) := ⟨HW0.out.all (pbits_bin g _)⟩
      have t5 := add33 base d (wst (hdB g n, 0) (pbits g (p.take k))) (wb g m) (wbt g m) HW.out HWk.out (wb_bw g m) (by
        have h1 := wst_len (pbits g (p.take k)) (hdB g n, 0)
        have h2 := pbits_len HG.out.low (p.take k)
        have h3 := hdB_len g n
        have h4 := List.length_take (i := k) (l := p)
        have h5 := wbt_len g m
        have h6 := Hg1.out
        unfold ln at h5
        simp only at h1
        omega) (Hbs.out wo HB.out) hbd
      clear hat hcp hgb
      go_wp2_with fail
      refine t5.mono ?_
      rintro e w10 ⟨rfl, hW, hBn⟩
      have HWn : Hid (WrB w10 base d (wst (hdB g n, 0) (pbits g (p.take (k + 1))))) := ⟨by rw [HN.out, wst_app]; exact hW⟩
      have HBn : Hid (Below base w7 w10) := ⟨HB.out.trans hBn⟩
      clear t5 hW hBn d1 d2
      go_wp2_with fail
      go_roundg (n - (k + 1))
      case measure => omega
      case rel => exact ⟨k + 1, by omega, by omega, by go_num, HWn, HBn⟩
    · obtain rfl : k = n := by omega
      have HF := HW.out
      rw [List.take_of_length_le (by rw [Hn.out]; exact Nat.le_refl _)] at HF
      obtain ⟨vf, hpf, hOf⟩ := HF
      have HOf := Hid.mk hOf
      have c0 : wo.cell? ⟨d, 0, none⟩ = some vf := by rw [cell_of_row _ _ _ _ _ _ hpf]; rfl
      clear hpf hOf
      go_wp2_with fail
      go_ret2
      refine ⟨vf, _, rfl, own_base HOf.out (fun x hx => ?_), ⟨g, by rw [HC.out]; exact HL.out, by rw [Hn.out]⟩, HBx.out wo HB.out⟩
      have h1 := (World.ownsRow.lt HOf.out x hx).1
      have h2 := HB7.out.size
      rw [Hbase.out] at h2
      omega
end
end Go.Proofs.Ytfecngncapenjaa
