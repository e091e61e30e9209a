/- How bytes that came in are opened; the walk of SegmentPuts. -/
import Derived.Test.YtiloclekhddkfaaFrame2
import Derived.Test.YtiloclekhddkfaaS32
namespace Go.Proofs.Ytiloclekhddkfaa
open Go.ChangeShapes Go.WideShapes Go.ChangeAt Go.RowKit

/-- Bytes that came in. -/
structure BytV (w : World) (v : Value) (bs : List Int) : Prop where
  rd : Oct.Bs w v bs
  byte : ∀ x ∈ bs, 0 ≤ x ∧ x < 256
  len : bs.length ≤ 140737488355328
section
variable {H : Type} {enc : TypeId × Value → H} {W : World} {base : Nat} {v : Value} {d : DataW H} {p : List MemPlace}
theorem b5 : Try.prog.bytesOf 5 = 1 := by kernel_rfl
theorem bytes_core {fuel : Nat} {a : Option Addr} {len cap : Nat} {x : DataW H × List MemPlace} (h : DataW.trod enc Try.prog W 0 (fun _ => true) true fuel 42 [.slice a len cap] = some x) :
    ∃ bs : List Int, Oct.Bs W (.slice a len cap) bs ∧ (∀ z ∈ bs, 0 ≤ z ∧ z < 256) ∧ (bs = [] ∨ ∃ e s, x.1 = .slice e s ∧ e.length = bs.length) := by
  rcases Deep.open_slice1 Try.underlying42 c5 h with ⟨hcs, _⟩ | ⟨a', len', cap', m, n, V, D, Pl, hcs, _, hl, hm, hmm, hx, hc⟩
  · simp at hcs
    obtain ⟨rfl, rfl, rfl⟩ := hcs
    exact ⟨[], ⟨none, 0, rfl, Nat.le_refl _, by decide, fun _ => rfl, fun x h => (nomatch h)⟩, fun x h => (nomatch h), .inl rfl⟩
  · simp at hcs
    obtain ⟨rfl, rfl, rfl⟩ := hcs
    simp only [if_true] at hmm
    subst hmm
    have each : ∀ i, i < m → ∃ z, W.cell? (a'.add i) = some (.int .u8 z) ∧ 0 ≤ z ∧ z < 256 := fun i hi => by
      obtain ⟨h1, h2⟩ := hc i hi
      obtain ⟨z, e, _, hw⟩ := DataW.trod_int Try.underlying5 h2
      simp at e
      rw [e] at h1
      exact ⟨z, h1, u8_in' hw⟩
    refine ⟨(List.range len).map fun i => numAt W (a'.add i), ⟨some a', m, by simp, by simpa using hl, hm, fun h => (nomatch h), fun x hxa i hi => ?_⟩, fun x hxx => ?_, .inr ⟨_, _, by rw [hx], by simp⟩⟩
    · cases hxa
      have hil : i < len := by simpa using hi
      obtain ⟨z, hz, _⟩ := each i (by omega)
      rw [hz]
      simp [List.getD_eq_getElem?_getD, hil, numAt_of hz]
    · simp at hxx
      obtain ⟨i, hi, rfl⟩ := hxx
      obtain ⟨z, hz, h0⟩ := each i (by omega)
      rw [numAt_of hz]
      exact h0
set_option maxRecDepth 100000 in
theorem open_bv {ts : List TypeId} {ds : List (DataW H)} {j : Nat} (hsz : (DataW.weightsEach Try.prog ts ds).all (· ≤ reachBytes) = true) (ht : ts[j]? = some 42) (hd : ds[j]? = some d) (hk : Value.okWide Try.prog W .any base 42 v) (h : DataW.Trod enc Try.prog W 0 (fun _ => true) true 42 v d p) : ∃ bs, BytV W v bs := by
  obtain ⟨a, len, cap, rfl⟩ := okWide_slice Try.underlying42 hk
  obtain ⟨fuel, hf⟩ := h
  obtain ⟨bs, h1, h2, h3⟩ := bytes_core hf
  refine ⟨bs, h1, h2, ?_⟩
  rcases h3 with rfl | ⟨e, s, hx, he⟩
  · simp
  · simp only at hx
    subst hx
    have := sized_slice hsz ht hd Try.underlying42
    rw [b5] at this
    simp only [reachBytes] at this
    omega
end

theorem bs_rdY {w : World} {v : Value} {bs : List Int} (h : Oct.Bs w v bs) : RdY w v bs := by
  obtain ⟨a, cap, rfl, hl, hm, hn, hc⟩ := h
  refine ⟨a, cap, by rw [yv_len], by rw [yv_len]; exact hl, hm, hn, fun x hx i hi => ?_⟩
  rw [yv_len] at hi
  rw [hc x hx i hi, yv_get bs hi]
/-- 'append(v, src...)' of many bytes. -/
theorem wp_appYb {w : World} {ops : Array Oper} {rest : List Oper} {o : Oper} {a : Act} {Q : Exit → Act → World → Prop} (hgd : o.guard = none) (s x : Operand)
    (ho : o.op = .call { callee := .builtin .append, args := #[s, x], argTypes := #[42, 42] })
    {base : Nat} {v u : Value} {xs ys : List Int} (hs : a.eval s = v) (hown : OwnY w base v xs)
    (hx : a.eval x = u) (hu : RdY w u ys) (hlen : xs.length + ys.length ≤ 140737488355328) (hbase : base ≤ w.heap.size)
    (h : ∀ v' w', OwnY w' base v' (xs ++ ys) → Chg (ob v) w w' → wpList Try.prog ops Q rest (a.put o.dst v') w') :
    wpList Try.prog ops Q (o :: rest) a w := by
  obtain ⟨i0, hi, hz0, hz1, hz2⟩ := info_parts' infoByte
  obtain ⟨ao, cap, rfl, hl, hm, hn, hc⟩ := hu
  cases ao with
  | none =>
    have hcap := hn rfl
    subst hcap
    have hy : ys = [] := by rw [yv_len] at hl; exact List.length_eq_zero_iff.1 (by omega)
    subst hy
    exact wpList_append_own_none hgd s x 42 ho base 5 i0 1 Try.underlying42 hi v xs.length _ hs hown hx (h v w (by simpa [OwnY] using hown) (Chg.refl _ _))
  | some ad =>
    rw [yv_len] at hx hl hc
    refine wpList_append_at hgd s x 42 ho base 5 i0 (.int .u8 0) 1 Try.underlying42 hi hz0 hz1 hz2 rfl v xs.length _ hs hown ad ys.length cap (yv ys) hx (yv_len ys) ?_ (yv_one ys) ?_ ?_ hbase ?_
    · intro j u hj
      have hjl : j < ys.length := by
        rcases Nat.lt_or_ge j ys.length with h | h
        · exact h
        · rw [List.getElem?_eq_none (by rw [yv_len]; exact h)] at hj; cases hj
      rw [hc ad rfl j hjl]
      exact hj
    · unfold maxLen; omega
    · omega
    · intro v' w' h1 h2 h3
      exact h v' w' (by unfold OwnY; rw [yv_app, List.length_append]; exact h1) (Chg.ofGrown h2)
theorem tkRefs_len {bs : List Int} : ∀ (n : Nat) (i : Int) (y : List Rf × Int), tkRefs bs n i = .ok y → y.1.length = n
  | 0, i, y, h => by rw [tkRefs] at h; cases h; rfl
  | n + 1, i, y, h => by
    rw [tkRefs] at h
    split at h
    · cases h
    split at h
    · cases h
    · rename_i z h2
      cases h
      simp [tkRefs_len n _ _ h2]
theorem takeF_len (bs : List Int) : (tkL (takeF bs)).length ≤ 10000000000000 := by
  unfold takeF
  split
  · simp [tkL]
  split
  · simp [tkL]
  split
  · simp [tkL]
  split
  · simp [tkL]
  · rename_i x h64 y h2 _
    simp only [tkL]
    rw [tkRefs_len _ _ _ h2]
    omega
/-- Bytes in a block, whatever they are. -/
def Some8 (w : World) (g n : Nat) : Prop := ∃ cs, w.heap[g]? = some (.cells cs 5 (0, 0)) ∧ ∀ i, i < n → ∃ z, cs[i]? = some (.int .u8 z)
theorem Some8.set {w : World} {g n k : Nat} (h : Some8 w g n) (z : Int) : Some8 (w.setCell ⟨g, k, none⟩ (.int .u8 z)) g n := by
  obtain ⟨cs, hr, hc⟩ := h
  refine ⟨_, heap_setCell_same w g k cs 5 _ hr, fun i hi => ?_⟩
  obtain ⟨z0, h0⟩ := hc i hi
  by_cases e : k = i
  · subst e
    have hlt : k < cs.size := (Array.getElem?_eq_some_iff.1 h0).1
    exact ⟨z, by rw [Array.getElem?_setIfInBounds_self_of_lt hlt]⟩
  · exact ⟨z0, by rw [Array.getElem?_setIfInBounds_ne e]; exact h0⟩
section
variable {w : World}
set_option maxHeartbeats 4000000 in
set_option maxRecDepth 100000 in
theorem walk_puts (v u : Value) (L : List Rf) (bs : List Int) (h : RdR w v L) (hL : L.length ≤ 10000000000000) (hu : Oct.Bs w u bs) (hby : ∀ x ∈ bs, 0 ≤ x ∧ x < 256) (hl : bs.length ≤ 140737488355328) : Calls Try.prog 7 #[v, u] w fun e w' => e = .returned (.bool true) ∧ Below w.heap.size w w' := by
  have HU := Hid.mk hu
  have t1 := put_any v L h hL
  have t2' := fun (wx : World) (hb : Below w.heap.size w wx) => rput_any (w := wx) v L (h.below hb) hL
  generalize putR L = PR at t1 t2'
  obtain ⟨PB, pc⟩ := PR
  simp only at t1 t2'
  have t3' := fun (wx : World) (x : Value) (hx : Oct.Bs wx x bs) => take_any (w := wx) hx hby (by omega)
  have t4' := fun (wx : World) (hx : Oct.Bs wx u bs) => rtake_any (w := wx) hx hby (by omega)
  have HMs : Hid ((tkL (takeF bs)).length ≤ 10000000000000) := ⟨takeF_len bs⟩
  generalize takeF bs = Y at t3' t4' HMs
  generalize tkL Y = M at t3' t4' HMs
  generalize tkC Y = yc at t3' t4'
  obtain ⟨nL, HnL⟩ : ∃ n, Hid (L.length = n) := ⟨_, ⟨rfl⟩⟩
  obtain ⟨av, cv, rfl, _⟩ := h.shape
  obtain ⟨nb, Hnb⟩ : ∃ n, Hid (bs.length = n) := ⟨_, ⟨rfl⟩⟩
  have hnbl : nb ≤ 140737488355328 := by rw [← Hnb.out]; exact hl
  have hu0 := hu
  obtain ⟨au, cu, rfl, _⟩ := hu
  rw [HnL.out] at t1 ⊢
  simp only [HnL.out] at t2'
  rw [Hnb.out] at HU ⊢
  simp only [Hnb.out] at t4'
  clear h hu0
  go_enter Try.func7, Try.ntmps7
  go_upto_region 2 with (go_at_call 22; refine t1.mono ?_; rintro e w1 ⟨v1, rfl, hO1, hb1⟩)
  have HB1 := Hid.mk hb1
  have HY1 : Hid (Oct.Bs w1 v1 PB) := ⟨Oct.OwnB.bs hO1⟩
  have t2 := t2' w1 hb1
  obtain ⟨a1, c1, e1, _⟩ := hO1.shape
  subst e1
  obtain ⟨n1, Hn1⟩ : ∃ n, Hid (PB.length = n) := ⟨_, ⟨rfl⟩⟩
  rw [Hn1.out] at HY1 ⊢
  clear hO1 hb1 t1 t2'
  go_upto_region 3 with (go_at_call 23; refine t2.mono ?_; rintro e w2 ⟨v2, rfl, hO2, hb2⟩)
  have HB2 : Hid (Below w.heap.size w w2) := ⟨HB1.out.trans (hb2.mono HB1.out.size)⟩
  have HY1b : Hid (Oct.Bs w2 (.slice a1 n1 c1) PB) := ⟨HY1.out.below hb2⟩
  have HY2 : Hid (Oct.Bs w2 v2 PB) := ⟨Oct.OwnB.bs hO2⟩
  obtain ⟨a2, c2, e2, _⟩ := hO2.shape
  subst e2
  rw [Hn1.out] at HY2 ⊢
  clear hO2 hb2 t2 HY1
  obtain ⟨w3, Hw3⟩ : ∃ w3, Hid (w2.alloc (.cells #[] 5) = w3) := ⟨_, ⟨rfl⟩⟩
  have HB23 : Hid (Below w2.heap.size w2 w3) := ⟨by rw [← Hw3.out]; exact (Below.refl _ w2).alloc (Nat.le_refl _) _⟩
  have HE3 : Hid (OwnY w3 w2.heap.size (.slice (some ⟨w2.heap.size, 0, none⟩) 0 0) []) := ⟨by rw [← Hw3.out]; exact owny_none w2⟩
  have HU3 : Hid (RdY w3 (.slice au nb cu) bs) := ⟨bs_rdY ((HU.out.below HB2.out).below HB23.out)⟩
  have HLn : Hid (([] : List Int).length + bs.length ≤ 140737488355328) := ⟨by simp; omega⟩
  go_upto_region 4 with (at_builtin; rw [Hw3.out]; refine wp_appYb rfl (.tmp 25) (.tmp 26) rfl rfl HE3.out rfl HU3.out HLn.out HB23.out.size ?_; intro v4 w4 hO4 hG4)
  replace hG4 : Chg (ob (.slice (some ⟨w2.heap.size, 0, none⟩) 0 0)) w3 w4 := hG4
  rw [List.nil_append] at hO4
  have HB24 : Hid (Below w2.heap.size w2 w4) := ⟨HB23.out.trans (hG4.below HB23.out.size (fun x hx => (HE3.out.lt x (mem_ob.1 hx)).1))⟩
  have HB4 : Hid (Below w.heap.size w w4) := ⟨HB2.out.trans (HB24.out.mono HB2.out.size)⟩
  have HO4 := Hid.mk hO4
  have t3 := t3' w4 v4 (Oct.OwnB.bs hO4)
  obtain ⟨a4, c4, e4, _⟩ := hO4.shape
  subst e4
  rw [Hnb.out] at HO4 t3 ⊢
  clear hO4 hG4 t3'
  go_upto_region 5 with (go_at_call 24; refine t3.mono ?_; rintro e w5 ⟨v5, rfl, hO5, hs5, hb5⟩)
  have HB5 : Hid (Below w.heap.size w w5) := ⟨HB4.out.trans (hb5.mono HB4.out.size)⟩
  have HBw5 := Hid.mk hb5
  have HP5 := Hid.mk hO5
  have Hs5 := Hid.mk hs5
  have HO5 : Hid (OwnY w5 w2.heap.size (.slice a4 nb c4) bs) := ⟨own_far HO4.out (Chg.ofBelow (X := []) hb5) (by simp)⟩
  have HOl : Hid (∀ k ∈ ob (.slice a4 nb c4), w2.heap.size ≤ k ∧ k < w4.heap.size) := ⟨fun k hk => HO4.out.lt k (mem_ob.1 hk)⟩
  obtain ⟨a5, c5, e5, _⟩ := (hO5.rd r0).shape
  subst e5
  obtain ⟨nM, HnM⟩ : ∃ n, Hid (M.length = n) := ⟨_, ⟨rfl⟩⟩
  rw [HnM.out] at HP5 ⊢
  have HMl : Hid (nM ≤ 10000000000000) := ⟨by rw [← HnM.out]; exact HMs.out⟩
  clear hO5 hs5 hb5 t3 HO4
  obtain ⟨W, eW⟩ : ∃ x, x = w5 := ⟨_, rfl⟩
  subst eW
  go_wp2_with fail
  go_loopg [12] nb (fun gg s12 wr => ∃ k : Nat, k ≤ nb ∧ nb - k ≤ gg ∧ s12 = .int .i64 (k : Int) ∧ Hid (Chg (ob (.slice a4 nb c4)) W wr) ∧ Hid (∀ g, (Value.slice a4 nb c4).ownBlock = some g → 0 < nb → Some8 wr g nb))
  case atStart => exact ⟨0, Nat.zero_le _, by omega, rfl, ⟨Chg.refl _ _⟩, ⟨fun g hg hp => by
    rcases HO5.out.2 with ⟨e, _⟩ | ⟨g', cap, cur, e, _, hh, h1, _, h3, h4⟩
    · rw [e] at hg; simp [Value.ownBlock] at hg
    · rw [e] at hg
      simp [Value.ownBlock] at hg
      subst hg
      refine ⟨cur, hh, fun i hi => ⟨bs.getD i 0, ?_⟩⟩
      have h5 := congrArg (fun l => l[i]?) h4
      simp only [Nat.mul_one] at h5
      rw [List.getElem?_take, if_pos (by rw [Hnb.out]; exact hi), yv_get bs (by rw [Hnb.out]; exact hi)] at h5
      simpa using h5⟩⟩
  case round =>
    obtain ⟨k, hk, hgg, rfl, HG, H8⟩ := hrel
    have HBr : Hid (Below w.heap.size w wr) := ⟨HB5.out.trans (HG.out.below HB5.out.size (fun x hx => Nat.le_trans HB2.out.size (HOl.out x hx).1))⟩
    by_cases hlt : k < nb
    · have hltz : (k : Int) < (nb : Int) := by omega
      rcases HO5.out.2 with ⟨e, hn⟩ | ⟨g, cap, cur, e, _⟩
      · rw [Hnb.out] at hn; omega
      rw [Hnb.out] at e
      simp at e
      obtain ⟨rfl, rfl⟩ := e
      obtain ⟨cs, hr, hc⟩ := H8.out g rfl (by omega)
      obtain ⟨z, hz⟩ := hc k hlt
      have ck : wr.cell? ⟨g, k, none⟩ = some (.int .u8 z) := by rw [cell_of_row _ _ _ _ _ _ hr]; exact hz
      have fk : wr.frozen? ⟨g, k, none⟩ = false := frozen_of_row wr g k _ 5 hr
      clear hr hc hz
      go_wp2_with fail
      go_roundg (nb - (k + 1))
      case measure => omega
      case rel => exact ⟨k + 1, by omega, by omega, by go_num, ⟨HG.out.setCell (.inl (by simp [ob, Value.ownBlock])) _⟩, ⟨fun g' hg' hp => by simp [Value.ownBlock] at hg'; subst hg'; exact (H8.out g rfl hp).set _⟩⟩
    · obtain rfl : k = nb := by omega
      have t4 := t4' wr (HU.out.below HBr.out)
      have HPr : Hid (OwnE rc 35 28 wr w4.heap.size (.slice a5 nM c5) M) := ⟨HP5.out.far HG.out (fun g hg hm => by have := (HP5.out.lt g hg).1; have := (HOl.out g hm).2; omega)⟩
      have HBW : Hid (Below w2.heap.size w2 W) := ⟨by have h1 := HB24.out; exact h1.trans (HBw5.out.mono h1.size)⟩
      have HB2r : Hid (Below w2.heap.size w2 wr) := ⟨HBW.out.trans (HG.out.below HBW.out.size (fun x hx => (HOl.out x hx).1))⟩
      clear t4'
      go_upto_region 10 with (go_at_call 25; refine t4.mono ?_; rintro e w6 ⟨v6, rfl, hO6, hs6, hb6⟩)
      have HB6 : Hid (Below w.heap.size w w6) := ⟨HBr.out.trans (hb6.mono HBr.out.size)⟩
      have HP6 : Hid (OwnE rc 35 28 w6 w4.heap.size (.slice a5 nM c5) M) := ⟨HPr.out.far (Chg.ofBelow (X := []) hb6) (by simp)⟩
      have HQ6 := Hid.mk hO6
      have HB26 : Hid (Below w2.heap.size w2 w6) := ⟨HB2r.out.trans (hb6.mono HB2r.out.size)⟩
      obtain ⟨a6, c6, e6, _⟩ := (hO6.rd r0).shape
      subst e6
      rw [HnM.out] at HQ6 ⊢
      clear hO6 hs6 hb6 t4
      go_wp2_with fail
      refine (live_any (w := w6)).mono ?_
      rintro e w7 ⟨rfl, hb7⟩
      have HB7 : Hid (Below w.heap.size w w7) := ⟨HB6.out.trans (hb7.mono HB6.out.size)⟩
      have HB27 : Hid (Below w2.heap.size w2 w7) := ⟨HB26.out.trans (hb7.mono HB26.out.size)⟩
      have r1 := Oct.run_str Oct.Try.bt (HY1b.out.below HB27.out) 9 Try.underlying9
      have r2 := Oct.run_str Oct.Try.bt (HY2.out.below HB27.out) 9 Try.underlying9
      have t7 := same_yes (w := w7) _ _ M (((HP6.out.far (Chg.ofBelow (X := []) hb7) (by simp)).rd r0).toR Hs5.out) (((HQ6.out.far (Chg.ofBelow (X := []) hb7) (by simp)).rd r0).toR Hs5.out) (by rw [HnM.out]; exact HMl.out)
      generalize strOfNums PB = st at r1 r2
      clear hb7
      go_wp2_with fail
      refine t7.mono ?_
      rintro e w8 ⟨rfl, hc8⟩
      go_wp2_with fail
      go_ret
      exact ⟨rfl, HB7.out.trans (hc8.below HB7.out.size (by simp))⟩
end
theorem walk_segmentPuts (v : Value) (L : List Rf) (u : Value) (bs : List Int) (W : World) (h : RefV W v L) (hu : BytV W u bs) : Calls Try.prog 7 #[v, u] W fun e w' => e = .returned (.bool true) ∧ Below W.heap.size W w' :=
  walk_puts v u L bs h.rd (by have := h.len; omega) hu.rd hu.byte hu.len
end Go.Proofs.Ytiloclekhddkfaa
