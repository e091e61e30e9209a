/- Package segment's eachOnce. -/
import Derived.Test.YtiloclekhddkfaaLists
namespace Go.Proofs.Ytiloclekhddkfaa
open Go.RowKit

/-- A row of slices of ints that came in, or was made: read. -/
structure ArgL (w : World) (v : Value) (L : List (List Int)) : Prop where
  shape : ∃ a cap, v = .slice a L.length cap ∧ L.length ≤ cap
  at' : ∀ i, i < L.length → ∃ b off cap x m q, v = .slice (some ⟨b, off, none⟩) L.length cap ∧ w.cell? ⟨b, off + i, none⟩ = some (.slice x m q) ∧ RdI w (.slice x m q) (L.getD i [])
theorem ArgL.below {w w' : World} {v : Value} {L : List (List Int)} (h : ArgL w v L) (hb : Below w.heap.size w w') : ArgL w' v L :=
  ⟨h.shape, fun i hi => by
    obtain ⟨b, off, cap, x, m, q, e, hc, hs⟩ := h.at' i hi
    exact ⟨b, off, cap, x, m, q, e, (hb.cell (World.block_lt_of_cell? _ _ hc)).trans hc, hs.far (Chg.ofBelow (X := []) hb) (by simp)⟩⟩
/-- M has the numbers of L, list by list, each once, rising. -/
def Onces (L M : List (List Int)) : Prop := M.length = L.length ∧ ∀ i, i < L.length → (M.getD i []).Pairwise (· < ·) ∧ ∀ x, x ∈ M.getD i [] ↔ x ∈ L.getD i []
theorem onces_snoc {L M : List (List Int)} {k : Nat} {l' : List Int} (h : Onces (L.take k) M) (hk : k < L.length) (hu : l'.Pairwise (· < ·)) (hm : ∀ x, x ∈ l' ↔ x ∈ L.getD k []) : Onces (L.take (k + 1)) (M ++ [l']) := by
  have hlk : (L.take k).length = k := by rw [List.length_take]; omega
  have hM : M.length = k := by rw [h.1, hlk]
  refine ⟨by simp [hM]; omega, fun i hi => ?_⟩
  rw [List.length_take] at hi
  have e2 : (L.take (k + 1)).getD i [] = L.getD i [] := by simp only [List.getD]; rw [List.getElem?_take, if_pos (by omega)]
  rw [e2]
  by_cases hik : i < k
  · have e1 : (M ++ [l']).getD i [] = M.getD i [] := by simp only [List.getD]; rw [List.getElem?_append_left (by omega)]
    have e3 : (L.take k).getD i [] = L.getD i [] := by simp only [List.getD]; rw [List.getElem?_take, if_pos hik]
    have := h.2 i (by omega)
    rw [e3] at this
    rw [e1]; exact this
  · have hi' : i = k := by omega
    subst hi'
    have e1 : (M ++ [l']).getD i [] = l' := by simp only [List.getD]; rw [List.getElem?_append_right (by omega), hM]; simp
    rw [e1]
    exact ⟨hu, hm⟩
section
variable {w : World}
set_option maxHeartbeats 2000000 in
set_option maxRecDepth 100000 in
theorem once_any (v : Value) (L : List (List Int)) (h : ArgL w v L) (hL : L.length ≤ 1000000) (hLl : ∀ i, i < L.length → (L.getD i []).length ≤ 1000000) : Calls Try.prog 28 #[v] w fun e w' => ∃ v', e = .returned v' ∧ ∃ M, Onces L M ∧ OwnL w' (fun k => w.heap.size ≤ k) 0 v' M ∧ (∀ k ∈ ob v', w.heap.size ≤ k) ∧ Below w.heap.size w w' := by
  have HA := Hid.mk h
  have HLl := Hid.mk hLl
  obtain ⟨n, Hn⟩ : ∃ n, Hid (L.length = n) := ⟨_, ⟨rfl⟩⟩
  obtain ⟨av, cv, rfl, hcv⟩ := h.shape
  rw [Hn.out] at hL hcv ⊢
  obtain ⟨i0, hi, hz0, hz1, hz2⟩ := info_parts' infoL
  clear h hLl
  go_enter Try.func28, Try.ntmps28
  go_upto_region 2 with (at_make; refine wpList_make_own _ rfl (.const (.int .i64 0)) (.tmp 8) 37 rfl 0 39 i0 (.slice none 0 0) 1 Try.underlying37 hi hz0 hz1 .i64 .i64 _ n rfl rfl rfl (by rw [hz2]; omega) (by unfold maxLen; omega) (Nat.zero_le _) ?_; intro w1 hO1 hG1)
  have HO1 : Hid (OwnL w1 (fun k => w.heap.size ≤ k) 0 (.slice (some ⟨w.heap.size, 0, none⟩) 0 n) []) := ⟨⟨[], hO1, EachI.nil _ _⟩⟩
  have HB1 : Hid (Below w.heap.size w w1) := ⟨⟨hG1.os, hG1.tape, hG1.output, hG1.size, fun k hk => hG1.block k hk (by simp)⟩⟩
  clear hO1 hG1
  go_wp2_with fail
  go_loopg [3, 5, 6, 12] n (fun gg s3 _ _ s12 wr => ∃ kk : Nat, kk ≤ n ∧ n - kk ≤ gg ∧ s12 = .int .i64 (kk : Int) ∧ ∃ M, Hid (Onces (L.take kk) M) ∧ Hid (OwnL wr (fun k => w.heap.size ≤ k) 0 s3 M) ∧ Hid (∀ k ∈ ob s3, w.heap.size ≤ k) ∧ Hid (Below w.heap.size w wr))
  case atStart => exact ⟨0, Nat.zero_le _, by omega, rfl, [], ⟨⟨by simp, fun i hi => by simp at hi⟩⟩, HO1, ⟨by simp [ob, Value.ownBlock]⟩, HB1⟩
  case round =>
    obtain ⟨kk, hkk, hgg, rfl, M, HM, HO, HOB, HB⟩ := hrel
    obtain ⟨a3, c3, rfl, _⟩ := HO.out.rows.shape
    by_cases hlt : kk < n
    · have hltz : (kk : Int) < (n : Int) := by omega
      have hlL : kk < L.length := by rw [Hn.out]; exact hlt
      obtain ⟨b1, o1, c1, x1, m1, z1, e1, d1, y1⟩ := (HA.out.below HB.out).at' kk hlL
      rw [Hn.out] at e1
      simp at e1
      obtain ⟨rfl, rfl⟩ := e1
      obtain ⟨li, Hli⟩ : ∃ l, Hid (L.getD kk [] = l) := ⟨_, ⟨rfl⟩⟩
      have hll := HLl.out kk hlL
      rw [Hli.out] at y1 hll
      have hm1 : li.length = m1 := by obtain ⟨_, _, e, _⟩ := y1.shape; simp at e; exact e.2.1.symm
      have t1 := clonei_any (.slice x1 m1 z1) li y1 (by omega)
      have hMl : M.length ≤ 1000000000000 := by have := HM.out.1; rw [List.length_take] at this; omega
      have Hm1 := Hid.mk hm1
      have Hll := Hid.mk hll
      clear y1 hm1 hll
      obtain ⟨nM, HnM⟩ : ∃ k, Hid (M.length = k) := ⟨_, ⟨rfl⟩⟩
      rw [HnM.out] at HO HOB ⊢
      have hrb : ∀ k ∈ ob (.slice a3 nM c3), k < wr.heap.size := fun k hk => by obtain ⟨vs, q, _⟩ := HO.out; exact (q.lt k (mem_ob.1 hk)).2
      have Hrb := Hid.mk hrb
      clear hrb
      go_upto_region 6 with (go_at_call 47; refine t1.mono ?_; rintro e w2 ⟨v2, rfl, hO2, hb2⟩)
      have HB2 := Hid.mk hb2
      have Hv2 : Hid (∀ k ∈ ob v2, wr.heap.size ≤ k) := ⟨fun k hk => (hO2.lt k (mem_ob.1 hk)).1⟩
      have t2 := sorti_any hO2 (by have := Hll.out; omega)
      have HO2 := Hid.mk hO2
      obtain ⟨a2, c2, rfl, _⟩ := hO2.shape
      rw [Hm1.out] at t2 HO2 Hv2 ⊢
      clear hb2 t1 hO2
      go_upto_region 7 with (go_at_call 48; refine t2.mono ?_; rintro e w3 ⟨rfl, hO3, hG3⟩)
      have HG3 := Hid.mk hG3
      have t3 := compacti_any hO3 (srt_sorted _) (by rw [srt_len]; have := Hll.out; omega)
      clear hG3 t2 hO3
      have key : ∀ w', Chg (ob (.slice a2 m1 c2)) w3 w' → OwnL w' (fun k => w.heap.size ≤ k) 0 (.slice a3 nM c3) M := fun w' hc => by
        have q1 : OwnL wr (fun k => w.heap.size ≤ k ∧ k < wr.heap.size) 0 (.slice a3 nM c3) M := HO.out.mono (fun k hk hf => ⟨hf, hk.lt⟩)
        have q2 := q1.far (Chg.ofBelow (X := []) HB2.out) (by simp) (by simp)
        have q3 := q2.far HG3.out (fun k _ hf hm => by have := Hv2.out k hm; omega) (fun k _ hk hm => by have := Hv2.out k hm; have := Hrb.out k (mem_ob.2 hk); omega)
        have q4 := q3.far hc (fun k _ hf hm => by have := Hv2.out k hm; omega) (fun k _ hk hm => by have := Hv2.out k hm; have := Hrb.out k (mem_ob.2 hk); omega)
        exact q4.mono (fun k _ hf => hf.1)
      have HK := Hid.mk key
      clear key
      go_wp2_with (first | (go_at_call 49; refine t3.mono ?_; rintro e w4 ⟨v4, l', rfl, hO4, hu4, hm4, hG4, hV4⟩; have HO4 := Hid.mk hO4; have HOL := Hid.mk (HK.out w4 hG4); have HG4 := Hid.mk hG4; have Hu4 := Hid.mk hu4; have Hm4 := Hid.mk hm4; have HV4 := Hid.mk hV4; obtain ⟨a4, c4, rfl, _⟩ := hO4.shape; clear hO4 hG4 hu4 hm4 hV4 t3; obtain ⟨n4, Hn4⟩ : ∃ k, Hid (l'.length = k) := ⟨_, ⟨rfl⟩⟩; rw [Hn4.out] at HO4 HV4 ⊢; have HIo : Hid (Io w4 (fun k => w.heap.size ≤ k) (.slice a4 n4 c4) l') := ⟨OwnI.io HO4.out (fun k hk => Nat.le_trans HB.out.size (Hv2.out k (HV4.out k (mem_ob.2 hk))))⟩) | (at_builtin; refine wp_appL1 rfl (.tmp 20) (.tmp 23) rfl rfl HOL.out HIo.out rfl hMl (Nat.zero_le _) ?_; intro v5 w5 hO5 hG5 hV5; replace hG5 : Chg (ob (.slice a3 nM c3)) w4 w5 := hG5; replace hV5 : v5.ownBlock = Value.ownBlock (.slice a3 nM c3) ∨ v5.ownBlock = some (w4.heap.size + 1) := hV5))
      go_roundg (n - (kk + 1))
      case measure => omega
      case rel =>
        have hs4 : w.heap.size ≤ w4.heap.size := Nat.le_trans HB.out.size (Nat.le_trans HB2.out.size (Nat.le_trans HG3.out.size HG4.out.size))
        refine ⟨kk + 1, by omega, by omega, by go_num, M ++ [l'], ⟨onces_snoc HM.out hlL Hu4.out (fun x => ?_)⟩, ⟨hO5⟩, ⟨fun k hk => ?_⟩, ⟨?_⟩⟩
        · rw [Hm4.out x, srt_mem, Hli.out]
        · rcases hV5 with q | q
          · exact HOB.out k (mem_ob.2 (by rw [← q]; exact mem_ob.1 hk))
          · have e := mem_ob.1 hk
            rw [q] at e
            cases e
            omega
        · refine (((HB.out.trans (HB2.out.mono HB.out.size)).trans (HG3.out.below (Nat.le_trans HB.out.size HB2.out.size) (fun x hx => Nat.le_trans HB.out.size (Hv2.out x hx)))).trans (HG4.out.below (Nat.le_trans HB.out.size (Nat.le_trans HB2.out.size HG3.out.size)) (fun x hx => Nat.le_trans HB.out.size (Hv2.out x hx)))).trans (hG5.below hs4 (fun x hx => HOB.out x hx))
    · obtain rfl : n = kk := by omega
      have HL : Hid (L.take n = L) := ⟨List.take_of_length_le (by rw [Hn.out]; exact Nat.le_refl _)⟩
      rw [HL.out] at HM
      go_wp2
      go_ret
      exact ⟨_, rfl, M, HM.out, HO.out, HOB.out, HB.out⟩
end
end Go.Proofs.Ytiloclekhddkfaa
