/- Eval. -/
import Derived.Test.YtkleaaopbhbpmaaM7
namespace Go.Proofs.Ytkleaaopbhbpmaa
open Go.RowKit Go.Lib Go.Shelf Gf

theorem back_seq {w : World} (P : List G) (v : Value) (q b : Nat) (hPl : P.length ≤ 1000000000000000) (hv : RdG w v P) (hq : One w q v 33) (hM : 0 < P.length → ∀ k ∈ ob v, k < q ∧ k ≠ b) (hqb : b < q) :
    SeqW Fence.wide 9 Try.prog 33 #[.pointer (some ⟨q, 0, none⟩)] (fun x : Int × G => #[.int .i64 x.1, .int .u8 (gi x.2)]) (KpB (q + 1) b) (fun xs => xs = bks P P.length) P.length q w :=
  fun l J W hW _ _ hY hj0 => back33_in P v l q b J W hPl (hv.far (Chg.ofBelow (X := []) hW) (by simp)) (hq.far (Chg.ofBelow (X := []) hW) (by simp)) hM hqb hY hj0
/-- What the loop knows between two rounds. -/
def InvE (w : World) (b : Nat) (x : G) (pre : List (Int × G)) (W : World) : Prop := One W b (.int .u8 (gi x)) 5 ∧ One W (b + 1) (.int .u8 (gi (hor x pre))) 5 ∧ Below w.heap.size w W
theorem InvE.far {w A B : World} {b : Nat} {x : G} {pre : List (Int × G)} {X : List Nat} (h : InvE w b x pre A) (hc : Chg X A B) (hX : ∀ k ∈ X, b + 2 ≤ k) (hb : w.heap.size ≤ b) : InvE w b x pre B :=
  ⟨h.1.far hc (fun hm => by have := hX _ hm; omega), h.2.1.far hc (fun hm => by have := hX _ hm; omega), h.2.2.trans (hc.below h.2.2.size (fun k hk => by have := hX k hk; omega))⟩
section
variable {w : World}
attribute [local go_sem] Oper.semAt_some
set_option maxHeartbeats 8000000 in
set_option maxRecDepth 100000 in
theorem eval17 (P : List G) (v : Value) (x : G) (hPl : P.length ≤ 1000000000000000) (hv : RdG w v P) : Calls Try.prog 17 #[v, .int .u8 (gi x)] w fun e w' => e = .returned (.int .u8 (gi (ev P x))) ∧ Below w.heap.size w w' := by
  obtain ⟨sa, sc, rfl, hsc, hsm, _⟩ := hv.shape
  have HV := Hid.mk hv
  obtain ⟨r, Hr⟩ : ∃ r, Hid (gi (ev P x) = r) := ⟨_, ⟨rfl⟩⟩
  rw [Hr.out]
  have HF : Hid (gi (hor x (bks P P.length)) = r) := ⟨by rw [hor_full]; exact Hr.out⟩
  obtain ⟨b, Hb⟩ : ∃ b, Hid (w.heap.size = b) := ⟨_, ⟨rfl⟩⟩
  obtain ⟨w1, Hw1⟩ : ∃ w1, Hid ((w.alloc (.cells #[.int .u8 (gi x)] 5)).alloc (.cells #[.int .u8 0] 5) = w1) := ⟨_, ⟨rfl⟩⟩
  have HB1 : Hid (Below w.heap.size w w1) := ⟨by rw [← Hw1.out]; exact ((Below.refl _ w).alloc (Nat.le_refl _) _).alloc (by simp) _⟩
  have HI1 : Hid (InvE w b x [] w1) := ⟨by
    refine ⟨?_, ?_, HB1.out⟩
    · rw [← Hw1.out, ← Hb.out]
      exact (((Below.refl _ (w.alloc (.cells #[.int .u8 (gi x)] 5))).alloc (Nat.le_refl _) (.cells #[.int .u8 0] 5)).block _ (by simp)).trans (heap_alloc_new w _)
    · rw [← Hw1.out, ← Hb.out]
      have := heap_alloc_new (w.alloc (.cells #[.int .u8 (gi x)] 5)) (.cells #[.int .u8 0] 5)
      simp only [World.size_alloc] at this
      exact this⟩
  have Hs1 : Hid (w1.heap.size = b + 2) := ⟨by rw [← Hw1.out]; simp [← Hb.out]⟩
  have t1 := back27 (w := w1) sa P.length sc
  rw [Hs1.out] at t1
  obtain ⟨w2, Hw2⟩ : ∃ w2, Hid (w1.alloc (.cells #[.slice sa P.length sc] 33) = w2) := ⟨_, ⟨rfl⟩⟩
  rw [Hw2.out] at t1
  have HC2 : Hid (Below w1.heap.size w1 w2) := ⟨by rw [← Hw2.out]; exact (Below.refl _ w1).alloc (Nat.le_refl _) _⟩
  have HB2 : Hid (Below w.heap.size w w2) := ⟨HB1.out.trans (HC2.out.mono HB1.out.size)⟩
  have HI2 : Hid (InvE w b x [] w2) := ⟨HI1.out.far (Chg.ofBelow (X := []) HC2.out) (by simp) (by rw [Hb.out]; exact Nat.le_refl _)⟩
  have Hs2 : Hid (w2.heap.size = b + 3) := ⟨by rw [← Hw2.out]; simp [Hs1.out]⟩
  have HO2 : Hid (One w2 (b + 2) (.slice sa P.length sc) 33) := ⟨by rw [← Hw2.out, ← Hs1.out]; exact heap_alloc_new w1 _⟩
  have HSq := Hid.mk (back_seq (w := w2) P (.slice sa P.length sc) (b + 2) (b + 1) hPl (HV.out.far (Chg.ofBelow (X := []) HB2.out) (by simp)) HO2.out (fun h0 k hk => by have := HV.out.lt h0 k hk; have := Hb.out; omega) (by omega))
  obtain ⟨xv, Hxv⟩ : ∃ r, Hid (gi x = r) := ⟨_, ⟨rfl⟩⟩
  rw [Hxv.out] at Hw1 ⊢
  clear hv
  refine (callsIn_wide (n := 10)).1 ?_
  refine callsIn_of_wp_marks Try.func17 rfl trivial ?_ rfl
  simp only [Try.ntmps17, List.size_toArray, List.length_cons, List.length_nil, Nat.reduceAdd, Nat.reduceSub, Array.replicate_succ, Array.replicate_zero, List.push_toArray, List.append_toArray, List.nil_append, List.cons_append]
  gi_wp2_with fail
  rw [Hw1.out, Hb.out]
  refine ⟨trivial, ?_⟩
  refine (callsIn_wide.2 t1).mono ?_
  rintro e wx ⟨rfl, ex⟩
  rw [ex]
  clear ex wx t1
  gi_wp2
  refine range_all rfl (by decide) (gf := 33) (lb := #[.pointer (some ⟨b + 2, 0, none⟩)]) rfl trivial (enters_of Try.func33 (by kernel_rfl) rfl) HSq.out (by rw [Hs2.out]; omega) (fun _ => rfl) (fun h k => KpB.trans h k) (KpB.put (by rw [Hs2.out]; omega))
    (InvE w b x)
    (fun pre y act A => act = { tmps := #[.slice sa P.length sc, .int .u8 xv, undef, .pointer (some ⟨b, 0, none⟩), .int .u8 0, .pointer (some ⟨b + 1, 0, none⟩), undef, .int .u8 (gi y.2), .slice sa P.length sc, .func (.func 33) #[] #[.pointer (some ⟨b + 2, 0, none⟩)], .int .i64 y.1, .int .u8 (gi y.2), undef, undef, undef, undef, undef, undef], defers := [] } ∧ InvE w b x pre A)
    ?hIb ?hIo ?hIc ?hMo ?h0 ?hassign ?hbody ?hdone
  case hIb => exact fun pre A B h hb => h.far (Chg.ofBelow (X := []) hb) (by simp) (by rw [Hb.out]; exact Nat.le_refl _)
  case hIo => exact fun pre A l o h hl hx => h.far (chg_put A l o) (by have := Hs2.out; simp; omega) (by rw [Hb.out]; exact Nat.le_refl _)
  case hIc => exact fun pre A v h => h.far ((Chg.refl [b + 2] A).setCell (a := ⟨b + 2, 0, none⟩) (.inl (by simp)) v) (by simp) (by rw [Hb.out]; exact Nat.le_refl _)
  case hMo => exact fun pre y act A l o h hl hx => ⟨h.1, h.2.far (chg_put A l o) (by have := Hs2.out; simp; omega) (by rw [Hb.out]; exact Nat.le_refl _)⟩
  case h0 => exact HI2.out
  case hassign =>
    intro l pre y W hI hlen
    have HI := Hid.mk hI
    clear hI
    gi_wp2
    exact ⟨⟨Nat.le_refl _, fun k o _ hk _ => hk⟩, KpB.refl _ _ _, trivial, HI.out⟩
  case hbody =>
    rintro l pre y act W ⟨rfl, hI⟩ hlen
    have HI := Hid.mk hI
    obtain ⟨h1, h2, h3⟩ := hI
    rw [Hxv.out] at h1
    have c1 := cell_of_one h1
    have c2 := cell_of_one h2
    have f2 := free_of_one h2
    have t2 := fun w => mul13 (hor x pre) x w
    have hxr := gi_xor (hor x pre * x) y.2
    rw [← hor_snoc] at hxr
    rw [Hxv.out] at t2
    have HN : Hid (∀ z, gi (hor x (pre ++ [y])) = z → InvE w b x (pre ++ [y]) (W.setCell ⟨b + 1, 0, none⟩ (.int .u8 z))) := ⟨fun z hz => by
      have hc := (Chg.refl [b + 1] W).setCell (a := ⟨b + 1, 0, none⟩) (.inl (by simp)) (.int .u8 z)
      refine ⟨HI.out.1.far hc (by simp), ?_, HI.out.2.2.trans (hc.below HI.out.2.2.size (by have := Hb.out; simp; omega))⟩
      rw [hz]
      exact one_setCell HI.out.2.1⟩
    obtain ⟨u1, Hu1⟩ : ∃ r, Hid (gi (hor x pre) = r) := ⟨_, ⟨rfl⟩⟩
    obtain ⟨u2, Hu2⟩ : ∃ r, Hid (gi (hor x pre * x) = r) := ⟨_, ⟨rfl⟩⟩
    obtain ⟨u3, Hu3⟩ : ∃ r, Hid (gi (hor x (pre ++ [y])) = r) := ⟨_, ⟨rfl⟩⟩
    obtain ⟨u4, Hu4⟩ : ∃ r, Hid (gi y.2 = r) := ⟨_, ⟨rfl⟩⟩
    rw [Hu1.out] at c2
    rw [Hu1.out, Hu2.out] at t2
    rw [Hu2.out, Hu3.out, Hu4.out] at hxr
    rw [Hu4.out]
    clear h1 h2 h3
    gi_wp2_with (refine ⟨trivial, ?_⟩; gi_at_call 13; refine (callsIn_wide.2 (t2 _)).mono ?_; rintro e w' ⟨rfl, rfl⟩)
    refine ⟨⟨by simp, fun k o hB hk ho => ?_⟩, ⟨by simp, fun k _ hk => heap_setCell_other W ⟨b + 1, 0, none⟩ k _ hk⟩, HN.out _ Hu3.out⟩
    exact (heap_setCell_other W ⟨b + 1, 0, none⟩ k _ (by have := Hs2.out; simp; omega)).trans hk
  case hdone =>
    rintro D xs W hD rfl hI hK
    have HI := Hid.mk hI
    have c1 := cell_of_one hI.2.1
    rw [HF.out] at c1
    clear hI
    gi_wp2
    refine ⟨by simp, .inl ⟨_, _, rfl, run_takeDeferred hK, ?_⟩⟩
    have hc := chg_put W D (.deferred none)
    exact ⟨_, results_tmp rfl _ _ _, rfl, HI.out.2.2.trans (hc.below HI.out.2.2.size (by have := Hb.out; have := Hs2.out; simp; omega))⟩
end
end Go.Proofs.Ytkleaaopbhbpmaa
