/- The matches that are taken, told one behind the other. -/
import Derived.Test.YtoneepoaodoijaaG3
namespace Go.Proofs.Ytoneepoaodoijaa
open Go.RowKit Go.Lib Go.Shelf Oct

/-- A match, as it comes. -/
abbrev Ym := Nat × Nat × Nat
def encm (x : Ym) : Array Value := #[mtv x.1 x.2.1 x.2.2]
section
variable {w : World}
theorem matches24 (v : Value) (hv : ∃ a n c, v = .slice a n c) : Calls Try.prog 24 #[v] w fun e w' => e = .returned (.func (.func 31) #[] #[.pointer (some ⟨w.heap.size, 0, none⟩)]) ∧ w' = w.alloc (.cells #[v] 22) := by
  obtain ⟨a, n, c, rfl⟩ := hv
  go_enter Try.func24, Try.ntmps24
  go_wp2_with fail
  go_ret
  exact ⟨rfl, rfl⟩
theorem pieces14 (v : Value) (hv : ∃ a n c, v = .slice a n c) : Calls Try.prog 14 #[v] w fun e w' => e = .returned (.func (.func 23) #[] #[.pointer (some ⟨w.heap.size, 0, none⟩)]) ∧ w' = w.alloc (.cells #[v] 22) := by
  obtain ⟨a, n, c, rfl⟩ := hv
  go_enter Try.func14, Try.ntmps14
  go_wp2_with fail
  go_ret
  exact ⟨rfl, rfl⟩
end
section
attribute [local go_sem] Oper.semAt_some
set_option maxHeartbeats 8000000 in
set_option maxRecDepth 100000 in
theorem matches31_v (v : Value) (p : List Int) (l q m0 N : Nat) (X : List Nat) (J : List Ym → World → Prop) (W : World) (hp : p.length ≤ 8192)
    (hv : RdY W v p) (hvN : 0 < p.length → ∀ k ∈ ob v, k < N ∧ k ∉ X) (hq : W.heap[q]? = some (.cells #[v] 22 (0, 0))) (hqX : q ∉ X) (hNW : N ≤ W.heap.size) (hXW : ∀ k ∈ X, k < W.heap.size)
    (hJb : ∀ pre A C, J pre A → Kc W.heap.size A C → J pre C)
    (hY : ∀ pre x A, J pre A → (mtl p 0)[pre.length]? = some x → YieldAt Fence.wide 8 Try.prog l (encm x) A fun e C => e = .returned (.bool true) ∧ J (pre ++ [x]) C ∧ Kz m0 N X A C)
    (hj0 : J [] W) :
    CallsIn Fence.wide 9 Try.prog 31 #[.func (.yield l) #[] #[], .pointer (some ⟨q, 0, none⟩)] W fun e C => (∃ v, e = .returned v) ∧ ∃ xs, xs = mtl p 0 ∧ J xs C := by
  have HV := Hid.mk hv
  have HVN := Hid.mk hvN
  have HXW := Hid.mk hXW
  have HY := Hid.mk hY
  have HJb := Hid.mk hJb
  have HQ := Hid.mk hq
  have HJ0 := Hid.mk hj0
  obtain ⟨va, vc, ev, hvc, _⟩ := hv.shape
  subst ev
  obtain ⟨n, Hn⟩ : ∃ n, Hid (p.length = n) := ⟨_, ⟨rfl⟩⟩
  obtain ⟨b, Hb⟩ : ∃ b, Hid (W.heap.size = b) := ⟨_, ⟨rfl⟩⟩
  have hmk : ∀ A : World, (Instr.makeMap 62 none).run Try.prog A = .ok (.map (some A.heap.size)) (A.alloc (.map #[] 0)) := fun A => run_makeMap 62 A
  obtain ⟨W1, HW1⟩ : ∃ x, Hid (W.alloc (.map #[] 0) = x) := ⟨_, ⟨rfl⟩⟩
  have HB1 : Hid (Below W.heap.size W W1) := ⟨by rw [← HW1.out]; exact (Below.refl _ W).alloc (Nat.le_refl _) _⟩
  have HM1 : Hid (MpL W1 b []) := ⟨fun x hx => by simp at hx, #[], by rw [← HW1.out, ← Hb.out]; exact heap_alloc_new W _, rfl⟩
  have HS1 : Hid (b < W1.heap.size) := ⟨HM1.out.lt⟩
  have c0 : (W.alloc (.map #[] 0)).cell? ⟨q, 0, none⟩ = some (.slice va p.length vc) := by rw [HW1.out, cell_of_row _ _ _ _ _ _ ((HB1.out.block q (Array.getElem?_eq_some_iff.1 hq).1).trans hq)]; rfl
  clear hv hY hq hJb hvN hXW hj0
  rw [Hn.out] at c0 HQ HV HVN hp hvc
  rw [Hb.out] at HJb HXW hNW HB1
  refine callsIn_of_wp Try.func31 rfl trivial ?_ rfl
  simp only [Try.ntmps31, List.size_toArray, List.length_cons, List.length_nil, Nat.reduceAdd, Nat.reduceSub, Array.replicate_succ, Array.replicate_zero, List.push_toArray, List.append_toArray, List.nil_append, List.cons_append]
  have HQb : Hid (q < b) := ⟨by rw [← Hb.out]; exact (Array.getElem?_eq_some_iff.1 HQ.out).1⟩
  have hs0 : IntKind.i64.wrap ((n : Int) - 4) = (n : Int) - 4 := IntWalk.i64_in _ ⟨by omega, by omega⟩
  have hs1 : IntKind.i64.wrap ((n : Int) - 4 + 1) = (n : Int) - 4 + 1 := IntWalk.i64_in _ ⟨by omega, by omega⟩
  gi_wp2
  clear c0
  rw [HW1.out, Hb.out]
  gi_loopw [4, 13] (fun s4 s13 wr => ∃ (a nx : Nat) (L : List Gr) (pre : List Ym), s4 = .int .i64 (nx : Int) ∧ s13 = .int .i64 (a : Int) ∧ a ≤ n ∧ nx ≤ n ∧ Hid (pre ++ mtl p (max a nx) = mtl p 0) ∧ J pre wr ∧ Hid (RdY wr (.slice va n vc) p) ∧ Hid (wr.heap[q]? = some (.cells #[.slice va n vc] 22 (0, 0))) ∧ Hid (b < wr.heap.size) ∧ Hid (MpL wr b L) ∧ Hid (StI wr (b + 1) p a L)) (fun _ s13 _ => n + 1 - (RowKit.intOf s13).toNat)
  case atStart => exact ⟨0, 0, [], [], rfl, rfl, Nat.zero_le _, Nat.zero_le _, ⟨rfl⟩, HJb.out _ _ _ HJ0.out (Kg.below (by rw [Hb.out]; exact HB1.out)), ⟨HV.out.stay (fun _ k hk o ho => (HB1.out.block k (by rw [← Hb.out]; exact (Array.getElem?_eq_some_iff.1 ho).1)).trans ho)⟩, ⟨(HB1.out.block q (by rw [← Hb.out]; exact (Array.getElem?_eq_some_iff.1 HQ.out).1)).trans HQ.out⟩, HS1, HM1, ⟨StI.none _ _ _⟩⟩
  case round =>
    obtain ⟨a, nx, L, pre, rfl, rfl, han, hnx, HPre, hJ, HR, HQr, HSr, HM, HSt⟩ := hrel
    have e0 : wr.cell? ⟨q, 0, none⟩ = some (.slice va n vc) := by rw [cell_of_row _ _ _ _ _ _ HQr.out]; rfl
    by_cases hlt : a + 4 ≤ n
    · have hltz : (a : Int) < (n : Int) - 4 + 1 := by omega
      have t1 := four32 (w := wr) (.slice va n vc) p a HR.out (by rw [Hn.out]; exact hlt) (by rw [Hn.out]; exact hp)
      gi_wp2_with fail
      refine ⟨trivial, ?_⟩
      refine (callsIn_wide.2 t1).mono ?_
      rintro e w5 ⟨rfl, hb5⟩
      have HFo : Hid (fo p a = [p.getD a 0, p.getD (a + 1) 0, p.getD (a + 2) 0, p.getD (a + 3) 0]) := ⟨fo_get p (by rw [Hn.out]; exact hlt)⟩
      clear t1
      unfold fov
      generalize p.getD a 0 = y0 at *
      generalize p.getD (a + 1) 0 = y1 at *
      generalize p.getD (a + 2) 0 = y2 at *
      generalize p.getD (a + 3) 0 = y3 at *
      have HB5 := Hid.mk hb5
      clear hb5 e0
      obtain ⟨w6, Hw6⟩ : ∃ x, Hid (w5.alloc (.cells #[.int .u8 y0, .int .u8 y1, .int .u8 y2, .int .u8 y3] 64) = x) := ⟨_, ⟨rfl⟩⟩
      obtain ⟨z6, Hz6⟩ : ∃ x, Hid (w5.heap.size = x) := ⟨_, ⟨rfl⟩⟩
      by_cases hge : nx ≤ a
      · have hgez : (nx : Int) ≤ (a : Int) := by omega
        gi_wp2
        rw [Hw6.out, Hz6.out]
        have H6 : Hid (Below wr.heap.size wr w6 ∧ w6.heap[z6]? = some (.cells #[.int .u8 y0, .int .u8 y1, .int .u8 y2, .int .u8 y3] 64 (0, 0)) ∧ b < z6) := ⟨by
          rw [← Hw6.out, ← Hz6.out]
          exact ⟨HB5.out.alloc HB5.out.size _, heap_alloc_new w5 _, Nat.lt_of_lt_of_le HSr.out HB5.out.size⟩⟩
        have HMv : Hid (MpL w6 b L) := ⟨HM.out.stay (fun o ho _ => (H6.out.1.block b HSr.out).trans ho)⟩
        have HSv : Hid (StI w6 (b + 1) p a L) := ⟨HSt.out.stay (fun x hx g hg o ho _ => (H6.out.1.block g (HSt.out.lt x hx g hg).2).trans ho)⟩
        have HRv : Hid (RdY w6 (.slice va n vc) p) := ⟨HR.out.stay (fun _ k hk o ho => (H6.out.1.block k (Array.getElem?_eq_some_iff.1 ho).1).trans ho)⟩
        have HQv : Hid (w6.heap[q]? = some (.cells #[.slice va n vc] 22 (0, 0))) := ⟨(H6.out.1.block q (Array.getElem?_eq_some_iff.1 HQr.out).1).trans HQr.out⟩
        have HZ6v : Hid (w6.heap[z6]? = some (.cells #[.int .u8 y0, .int .u8 y1, .int .u8 y2, .int .u8 y3] 64 (0, 0))) := ⟨H6.out.2.1⟩
        have Hbv : Hid (b < w6.heap.size) := ⟨Nat.lt_of_lt_of_le HSr.out H6.out.1.size⟩
        have hJ6 : J pre w6 := HJb.out _ _ _ hJ (Kg.below H6.out.1)
        have HPa : Hid (pre ++ mtl p a = mtl p 0) := ⟨by have := HPre.out; rw [Nat.max_eq_left hge] at this; exact this⟩
        obtain ⟨F, hF1, hF2, hF3⟩ := HSv.out.look
        have hlk := fun (A : World) (hA : MpL A b L) => lookupL hA (K := fo p a) (by rw [HFo.out]; rfl)
        obtain ⟨fv, Hfv⟩ : ∃ v, Hid (((fndI L (fo p a) 0).map (·.2)).getD (.slice none 0 0) = v) := ⟨_, ⟨rfl⟩⟩
        rw [Hfv.out] at hF1 hlk
        rw [HFo.out] at hlk
        simp only [kv, yv, List.map_cons, List.map_nil] at hlk
        have HLk := Hid.mk hlk
        have HF1 := Hid.mk hF1
        have HF2 := Hid.mk hF2
        obtain ⟨mn, mf, Hmt⟩ : ∃ mn mf, Hid (mt p a = (mn, mf)) := ⟨_, _, ⟨rfl⟩⟩
        have HIs : Hid (mn ≠ 0 → IsM p a mf mn) := ⟨fun h => by have := mt_is (p := p) (i := a) (by rw [Hmt.out]; exact h); rw [Hmt.out] at this; exact this⟩
        have HB0 := Hid.mk (show Below w6.heap.size w6 w6.drew from (Below.refl _ _).drew)
        have HL33 : Hid (∀ A, Below w6.heap.size w6 A → Calls Try.prog 33 #[.slice va n vc, .int .i64 (a : Int), fv] A fun e w' => e = .returned (mtv a mf mn) ∧ Below A.heap.size A w') := ⟨fun A hA => by
          have := longest33 (w := A) (.slice va n vc) fv p a F (HRv.out.stay (fun _ k hk o ho => (hA.block k (Array.getElem?_eq_some_iff.1 ho).1).trans ho)) (Rd.far hF1.rd (Chg.ofBelow (X := []) hA) (by simp)) hF2 (by rw [Hn.out]; exact hlt) (by rw [Hn.out]; exact hp) (by omega)
          rw [Hmt.out] at this
          exact this⟩
        have HCl : Hid (∀ A, Below w6.heap.size w6 A → A.cell? ⟨q, 0, none⟩ = some (.slice va n vc) ∧ A.cell? ⟨z6, 0, none⟩ = some (.int .u8 y0) ∧ A.cell? ⟨z6, 1, none⟩ = some (.int .u8 y1) ∧ A.cell? ⟨z6, 2, none⟩ = some (.int .u8 y2) ∧ A.cell? ⟨z6, 3, none⟩ = some (.int .u8 y3) ∧ MpL A b L) := ⟨fun A hA => by
          have g1 := (hA.block q (Array.getElem?_eq_some_iff.1 HQv.out).1).trans HQv.out
          have g2 := (hA.block z6 (Array.getElem?_eq_some_iff.1 HZ6v.out).1).trans HZ6v.out
          exact ⟨by rw [cell_of_row _ _ _ _ _ _ g1]; rfl, by rw [cell_of_row _ _ _ _ _ _ g2]; rfl, by rw [cell_of_row _ _ _ _ _ _ g2]; rfl, by rw [cell_of_row _ _ _ _ _ _ g2]; rfl, by rw [cell_of_row _ _ _ _ _ _ g2]; rfl, HMv.out.stay (fun o ho _ => (hA.block b Hbv.out).trans ho)⟩⟩
        clear hF1 hF2 hlk
        refine wpIn_mono (Q := only (fun A B => ∃ z, A = { tmps := #[.func (.yield l) #[] #[], .pointer (some ⟨q, 0, none⟩), undef, .map (some b), .int .i64 (nx : Int), .int .i64 (a : Int), .pointer (some ⟨z6, 0, none⟩), .pointer (some ⟨z, 0, none⟩), .map (some b), .slice va n vc, .int .i64 (n : Int), .int .i64 ((n : Int) - 4), .int .i64 ((n : Int) - 4 + 1), .int .i64 (a : Int), .bool true, .int .i64 (a : Int), .slice va n vc, .int .i64 (a : Int), .agg #[.int .u8 y0, .int .u8 y1, .int .u8 y2, .int .u8 y3], .int .i64 (a : Int), .int .i64 (nx : Int), .bool true, .slice va n vc, .int .i64 (a : Int), .map (some b), .agg #[.int .u8 y0, .int .u8 y1, .int .u8 y2, .int .u8 y3], fv, mtv a mf mn, u28, u29, u30, u31, u32, u33, u34, u35, u36, u37, u38, u39, u40, u41, u42, u43, u44, u45, u46, u47, u48, u49], defers := [] } ∧ w6.heap.size ≤ z ∧ Below w6.heap.size w6 B ∧ B.heap[z]? = some (.cells #[.int .i64 (a : Int), .int .i64 (mf : Int), .int .i64 (mn : Int)] 55 (0, 0)))) ?_ ?_
        · refine wpIn_wide.2 ?_
          clear HJb HY
          refine wp_region_held_drew (S := fun A => Below w6.heap.size w6 A) (by kernel_rfl) HB0.out (fun hS => ?_)
          refine wpAnyH_take (i := 0) (v := .slice va n vc) rfl (by kernel_rfl) (by kernel_rfl) (by kernel_rfl) (fun _ _ _ h => h) (Or.inl ⟨by kernel_rfl, fun wx hx => by have h1 := (HCl.out wx hx).1; go_simp⟩) hS ?_
          refine wpAnyH_take (i := 1) (v := .int .i64 (a : Int)) rfl (by kernel_rfl) (by kernel_rfl) (by kernel_rfl) (fun _ _ _ h => h) (Or.inl ⟨by kernel_rfl, fun wx hx => by go_simp⟩) hS ?_
          refine wpAnyH_take (i := 2) (v := .map (some b)) rfl (by kernel_rfl) (by kernel_rfl) (by kernel_rfl) (fun _ _ _ h => h) (Or.inl ⟨by kernel_rfl, fun wx hx => by go_simp⟩) hS ?_
          refine wpAnyH_take (i := 3) (v := .agg #[.int .u8 y0, .int .u8 y1, .int .u8 y2, .int .u8 y3]) rfl (by kernel_rfl) (by kernel_rfl) (by kernel_rfl) (fun _ _ _ h => h) (Or.inl ⟨by kernel_rfl, fun wx hx => by obtain ⟨_, h1, h2, h3, h4, _⟩ := HCl.out wx hx; go_simp⟩) hS ?_
          refine wpAnyH_take (i := 4) (v := fv) rfl (by kernel_rfl) (by kernel_rfl) (by kernel_rfl) (fun _ _ _ h => h) (Or.inl ⟨by kernel_rfl, fun wx hx => by have h1 := HLk.out wx (HCl.out wx hx).2.2.2.2.2; go_simp⟩) hS ?_
          refine wpAnyH_ready (rs := [5, 6]) (by kernel_rfl) (by simp) (AllReadyH.cons rfl (fun Kc hK => ?_) (AllReadyH.cons rfl (fun Kc hK => ?_) AllReadyH.nil))
          · go_simp
            refine (HL33.out _ hS).mono ?_
            rintro e V ⟨rfl, hbV⟩
            have hV : Below w6.heap.size w6 V := hS.trans (hbV.mono hS.size)
            refine hK.out _ _ hV (fun hS => ?_)
            clear hK hbV
            refine wpAnyH_ready (rs := [6]) (by kernel_rfl) (by simp) (AllReadyH.cons rfl (fun Kc hK => ?_) AllReadyH.nil)
            go_simp
            refine hK.out _ _ (hS.alloc hS.size _) (fun hS2 => ?_)
            clear hK
            refine wpAnyH_ready (rs := [7]) (by kernel_rfl) (by simp) (AllReadyH.cons rfl (fun Kc hK => ?_) AllReadyH.nil)
            unfold mtv
            go_simp
            refine hK.out _ _ (hS.alloc hS.size _) (fun hS3 => ?_)
            clear hK
            refine wpAnyH_done (by kernel_rfl) ?_ _
            exact ⟨V.heap.size, rfl, hS.size, hS3, heap_alloc_new V _⟩
          · go_simp
            have hV : Below w6.heap.size w6 (w6.drew.alloc (.cells #[.int .i64 0, .int .i64 0, .int .i64 0] 55)) := hS.alloc hS.size _
            refine hK.out _ _ hV (fun hS2 => ?_)
            clear hK
            refine wpAnyH_ready (rs := [5]) (by kernel_rfl) (by simp) (AllReadyH.cons rfl (fun Kc hK => ?_) AllReadyH.nil)
            go_simp
            refine (HL33.out _ hS2).mono ?_
            rintro e V ⟨rfl, hbV⟩
            have hV2 : Below w6.heap.size w6 V := hS2.trans (hbV.mono hS2.size)
            have hn6 : (w6.drew.alloc (.cells #[.int .i64 0, .int .i64 0, .int .i64 0] 55)).heap[w6.heap.size]? = some (.cells #[.int .i64 0, .int .i64 0, .int .i64 0] 55 (0, 0)) := heap_alloc_new w6.drew _
            have hz0 : V.heap[w6.heap.size]? = some (.cells #[.int .i64 0, .int .i64 0, .int .i64 0] 55 (0, 0)) := (hbV.block _ (Array.getElem?_eq_some_iff.1 hn6).1).trans hn6
            have r0 : V.cell? ⟨w6.heap.size, 0, none⟩ = some (.int .i64 0) := by rw [cell_of_row _ _ _ _ _ _ hz0]; rfl
            have r1 : V.cell? ⟨w6.heap.size, 1, none⟩ = some (.int .i64 0) := by rw [cell_of_row _ _ _ _ _ _ hz0]; rfl
            have r2 : V.cell? ⟨w6.heap.size, 2, none⟩ = some (.int .i64 0) := by rw [cell_of_row _ _ _ _ _ _ hz0]; rfl
            have f0 : V.frozen? ⟨w6.heap.size, 0, none⟩ = false := frozen_of_row V w6.heap.size 0 _ 55 hz0
            have f1 : V.frozen? ⟨w6.heap.size, 1, none⟩ = false := frozen_of_row V w6.heap.size 1 _ 55 hz0
            have f2 : V.frozen? ⟨w6.heap.size, 2, none⟩ = false := frozen_of_row V w6.heap.size 2 _ 55 hz0
            have hst := set3t hz0 (.int .i64 (a : Int)) (.int .i64 (mf : Int)) (.int .i64 (mn : Int))
            have hV3 : Below w6.heap.size w6 (((V.setCell ⟨w6.heap.size, 0, none⟩ (.int .i64 (a : Int))).setCell ⟨w6.heap.size, 1, none⟩ (.int .i64 (mf : Int))).setCell ⟨w6.heap.size, 2, none⟩ (.int .i64 (mn : Int))) := hV2.trans (hst.2.below hV2.size (by simp))
            refine hK.out _ _ hV2 (fun hS => ?_)
            clear hK
            refine wpAnyH_ready (rs := [7]) (by kernel_rfl) (by simp) (AllReadyH.cons rfl (fun Kc hK => ?_) AllReadyH.nil)
            unfold mtv
            go_simp
            refine hK.out _ _ hV3 (fun hS3 => ?_)
            clear hK
            refine wpAnyH_done (by kernel_rfl) ?_ _
            exact ⟨w6.heap.size, rfl, Nat.le_refl _, hS3, hst.1⟩
        · rintro e A B hAB
          cases e with
          | normal =>
            obtain ⟨z, rfl, hz, hbB, hzB⟩ := hAB
            have m0 : B.cell? ⟨z, 0, none⟩ = some (.int .i64 (a : Int)) := by rw [cell_of_row _ _ _ _ _ _ hzB]; rfl
            have m1 : B.cell? ⟨z, 1, none⟩ = some (.int .i64 (mf : Int)) := by rw [cell_of_row _ _ _ _ _ _ hzB]; rfl
            have m2 : B.cell? ⟨z, 2, none⟩ = some (.int .i64 (mn : Int)) := by rw [cell_of_row _ _ _ _ _ _ hzB]; rfl
            have HzB := Hid.mk hzB
            have hJB : J pre B := HJb.out _ _ _ hJ6 (Kg.below hbB)
            have HRv : Hid (RdY B (.slice va n vc) p) := ⟨HRv.out.stay (fun _ k hk o ho => (hbB.block k (Array.getElem?_eq_some_iff.1 ho).1).trans ho)⟩
            have Hbv : Hid (b < B.heap.size) := ⟨Nat.lt_of_lt_of_le Hbv.out hbB.size⟩
            have Hzb : Hid (b < z) := ⟨by have := H6.out.2.2; have := (Array.getElem?_eq_some_iff.1 H6.out.2.1).1; omega⟩
            have HMv : Hid (MpL B b L) := ⟨HMv.out.stay (fun o ho hh => (hbB.block b (Array.getElem?_eq_some_iff.1 ho).1).trans ho)⟩
            have HSv : Hid (StI B (b + 1) p a L) := ⟨HSv.out.stay (fun x hx g hg o ho hh => (hbB.block g (Array.getElem?_eq_some_iff.1 ho).1).trans ho)⟩
            have HQv : Hid (B.heap[q]? = some (.cells #[.slice va n vc] 22 (0, 0))) := ⟨(hbB.block q (Array.getElem?_eq_some_iff.1 HQv.out).1).trans HQv.out⟩
            have HZ6v : Hid (B.heap[z6]? = some (.cells #[.int .u8 y0, .int .u8 y1, .int .u8 y2, .int .u8 y3] 64 (0, 0))) := ⟨(hbB.block z6 (Array.getElem?_eq_some_iff.1 HZ6v.out).1).trans HZ6v.out⟩
            by_cases hmn : mn = 0
            · subst hmn
              have HPn : Hid (pre ++ mtl p (max (a + 1) a) = mtl p 0) := ⟨by rw [Nat.max_eq_left (by omega), ← mtl_none (by rw [Hmt.out])]; exact HPa.out⟩
              clear hbB hzB HB0 HL33 HCl HLk
              have kk0 : B.cell? ⟨z6, 0, none⟩ = some (.int .u8 y0) := by rw [cell_of_row _ _ _ _ _ _ HZ6v.out]; rfl
              have kk1 : B.cell? ⟨z6, 1, none⟩ = some (.int .u8 y1) := by rw [cell_of_row _ _ _ _ _ _ HZ6v.out]; rfl
              have kk2 : B.cell? ⟨z6, 2, none⟩ = some (.int .u8 y2) := by rw [cell_of_row _ _ _ _ _ _ HZ6v.out]; rfl
              have kk3 : B.cell? ⟨z6, 3, none⟩ = some (.int .u8 y3) := by rw [cell_of_row _ _ _ _ _ _ HZ6v.out]; rfl
              obtain ⟨j, ⟨xk, xf, xv⟩, A2, hE, ho2, hl2, hc2, hs2, hfin⟩ := turn HMv.out HSv.out HFo.out rfl Hbv.out
              simp only [kv, yv, List.map_cons, List.map_nil] at hE
              simp only at ho2 hl2 hfin
              have HO2 := Hid.mk ho2
              have Hc2 := Hid.mk hc2
              have Hfin := Hid.mk hfin
              have hl3 : (xf.map Int.ofNat).length ≤ 1000000000000 := by omega
              have hw1 : IntKind.i64.wrap ((a : Int) + 1) = (a : Int) + 1 := IntWalk.i64_in _ ⟨by omega, by omega⟩
              clear ho2 hc2 hfin hl2
              gi_wp2_with fail
              refine ⟨fun f hf => (by cases hf), ?_⟩
              gi_wp2_with (refine wpi_appI1 rfl (.tmp 43) (.tmp 45) rfl rfl HO2.out ⟨B.heap.size, 0, none⟩ Hc2.out rfl hl3 hs2 ?_; intro v3 A3 hO3 hG3 hV3; obtain ⟨A4, L2, hr4, hM4, hS4, hK4⟩ := Hfin.out v3 A3 hO3 hG3 hV3; have HM4 := Hid.mk hM4; have HS4 := Hid.mk hS4; have HK4 := Hid.mk hK4; clear hO3 hG3 hV3 hM4 hS4 hK4)
              go_roundw
              case rel =>
                have hq4 := HK4.out.old HQv.out (by have := HQb.out; omega)
                exact ⟨a + 1, a, L2, pre, by first | rfl | go_num, by go_num, by omega, by omega, HPn, HJb.out _ _ _ hJB HK4.out, ⟨HRv.out.stay (fun h0 k hk o ho => HK4.out.old ho (by have := (HVN.out (by rw [← Hn.out]; exact h0) k hk).1; omega))⟩, ⟨hq4⟩, ⟨Nat.lt_of_lt_of_le Hbv.out HK4.out.1⟩, HM4, HS4⟩
              case measure => simp [RowKit.intOf]; omega
            · have hmz : (0 : Int) < (mn : Int) := by omega
              have his := HIs.out hmn
              have hmb : 4 ≤ mn ∧ a + mn ≤ n := ⟨his.n4, by rw [← Hn.out]; exact his.fit⟩
              have HMl : Hid (mtl p a = (a, mf, mn) :: mtl p (a + mn)) := ⟨by have := mtl_some (p := p) (i := a) (by rw [Hmt.out]; exact hmn); rw [Hmt.out] at this; exact this⟩
              have hget : (mtl p 0)[pre.length]? = some (a, mf, mn) := by rw [← HPa.out, HMl.out]; simp
              have HPn : Hid ((pre ++ [((a, mf, mn) : Ym)]) ++ mtl p (max (a + 1) (a + mn)) = mtl p 0) := ⟨by rw [Nat.max_eq_right (by omega), ← HPa.out, HMl.out]; simp⟩
              have hw2 : IntKind.i64.wrap ((a : Int) + (mn : Int)) = (a : Int) + mn := IntWalk.i64_in _ ⟨by omega, by omega⟩
              obtain ⟨fn, tmps, assign, body, hy, hR⟩ := HY.out pre (a, mf, mn) B hJB hget
              simp only [encm, mtv] at hy
              clear hbB hzB HB0 HL33 HCl HLk his hget hmn
              gi_wp2
              refine hR.mono ?_
              rintro e W3 ⟨rfl, hJ3, hk3⟩
              have HRv : Hid (RdY W3 (.slice va n vc) p) := ⟨HRv.out.stay (fun h0 k hk o ho => hk3.2 k _ ho (.inl ⟨(HVN.out (by rw [← Hn.out]; exact h0) k hk).2, .inl (HVN.out (by rw [← Hn.out]; exact h0) k hk).1⟩))⟩
              have Hbv : Hid (b < W3.heap.size) := ⟨Nat.lt_of_lt_of_le Hbv.out hk3.1⟩
              have HMv : Hid (MpL W3 b L) := ⟨HMv.out.stay (fun o ho hh => hk3.2 b _ ho (.inl ⟨fun h => Nat.lt_irrefl _ (HXW.out _ h), .inr hh⟩))⟩
              have HSv : Hid (StI W3 (b + 1) p a L) := ⟨HSv.out.stay (fun x hx g hg o ho hh => hk3.2 g _ ho (.inl ⟨fun h => by have h1 := HXW.out _ h; have h2 := (HSv.out.lt x hx g hg).1; omega, .inr hh⟩))⟩
              have HQv : Hid (W3.heap[q]? = some (.cells #[.slice va n vc] 22 (0, 0))) := ⟨hk3.2 q _ HQv.out (.inl ⟨hqX, .inr rfl⟩)⟩
              have HZ6v : Hid (W3.heap[z6]? = some (.cells #[.int .u8 y0, .int .u8 y1, .int .u8 y2, .int .u8 y3] 64 (0, 0))) := ⟨hk3.2 z6 _ HZ6v.out (.inl ⟨fun h => by have h1 := HXW.out _ h; have h2 := H6.out.2.2; omega, .inr rfl⟩)⟩
              have hz3 := hk3.2 z _ HzB.out (.inl ⟨fun h => by have h1 := HXW.out _ h; have h2 := Hzb.out; omega, .inr rfl⟩)
              have q2 : W3.cell? ⟨z, 2, none⟩ = some (.int .i64 (mn : Int)) := by rw [cell_of_row _ _ _ _ _ _ hz3]; rfl
              clear hR hy m0 m1 m2 hk3 hz3
              have kk0 : W3.cell? ⟨z6, 0, none⟩ = some (.int .u8 y0) := by rw [cell_of_row _ _ _ _ _ _ HZ6v.out]; rfl
              have kk1 : W3.cell? ⟨z6, 1, none⟩ = some (.int .u8 y1) := by rw [cell_of_row _ _ _ _ _ _ HZ6v.out]; rfl
              have kk2 : W3.cell? ⟨z6, 2, none⟩ = some (.int .u8 y2) := by rw [cell_of_row _ _ _ _ _ _ HZ6v.out]; rfl
              have kk3 : W3.cell? ⟨z6, 3, none⟩ = some (.int .u8 y3) := by rw [cell_of_row _ _ _ _ _ _ HZ6v.out]; rfl
              obtain ⟨j, ⟨xk, xf, xv⟩, A2, hE, ho2, hl2, hc2, hs2, hfin⟩ := turn HMv.out HSv.out HFo.out rfl Hbv.out
              simp only [kv, yv, List.map_cons, List.map_nil] at hE
              simp only at ho2 hl2 hfin
              have HO2 := Hid.mk ho2
              have Hc2 := Hid.mk hc2
              have Hfin := Hid.mk hfin
              have hl3 : (xf.map Int.ofNat).length ≤ 1000000000000 := by omega
              have hw1 : IntKind.i64.wrap ((a : Int) + 1) = (a : Int) + 1 := IntWalk.i64_in _ ⟨by omega, by omega⟩
              clear ho2 hc2 hfin hl2
              gi_wp2_with (refine wpi_appI1 rfl (.tmp 43) (.tmp 45) rfl rfl HO2.out ⟨W3.heap.size, 0, none⟩ Hc2.out rfl hl3 hs2 ?_; intro v3 A3 hO3 hG3 hV3; obtain ⟨A4, L2, hr4, hM4, hS4, hK4⟩ := Hfin.out v3 A3 hO3 hG3 hV3; have HM4 := Hid.mk hM4; have HS4 := Hid.mk hS4; have HK4 := Hid.mk hK4; clear hO3 hG3 hV3 hM4 hS4 hK4)
              go_roundw
              case rel =>
                have hq4 := HK4.out.old HQv.out (by have := HQb.out; omega)
                exact ⟨a + 1, a + mn, L2, pre ++ [((a, mf, mn) : Ym)], by first | rfl | go_num, by go_num, by omega, by omega, HPn, HJb.out _ _ _ hJ3 HK4.out, ⟨HRv.out.stay (fun h0 k hk o ho => HK4.out.old ho (by have := (HVN.out (by rw [← Hn.out]; exact h0) k hk).1; omega))⟩, ⟨hq4⟩, ⟨Nat.lt_of_lt_of_le Hbv.out HK4.out.1⟩, HM4, HS4⟩
              case measure => simp [RowKit.intOf]; omega
          | _ => exact hAB.elim
      · have hgez : ¬ (nx : Int) ≤ (a : Int) := by omega
        have H6 : Hid (Below wr.heap.size wr w6 ∧ w6.heap[z6]? = some (.cells #[.int .u8 y0, .int .u8 y1, .int .u8 y2, .int .u8 y3] 64 (0, 0)) ∧ b < z6) := ⟨by
          rw [← Hw6.out, ← Hz6.out]
          exact ⟨HB5.out.alloc HB5.out.size _, heap_alloc_new w5 _, Nat.lt_of_lt_of_le HSr.out HB5.out.size⟩⟩
        have HMv : Hid (MpL w6 b L) := ⟨HM.out.stay (fun o ho _ => (H6.out.1.block b HSr.out).trans ho)⟩
        have HSv : Hid (StI w6 (b + 1) p a L) := ⟨HSt.out.stay (fun x hx g hg o ho _ => (H6.out.1.block g (HSt.out.lt x hx g hg).2).trans ho)⟩
        have HRv : Hid (RdY w6 (.slice va n vc) p) := ⟨HR.out.stay (fun _ k hk o ho => (H6.out.1.block k (Array.getElem?_eq_some_iff.1 ho).1).trans ho)⟩
        have HQv : Hid (w6.heap[q]? = some (.cells #[.slice va n vc] 22 (0, 0))) := ⟨(H6.out.1.block q (Array.getElem?_eq_some_iff.1 HQr.out).1).trans HQr.out⟩
        have HZ6v : Hid (w6.heap[z6]? = some (.cells #[.int .u8 y0, .int .u8 y1, .int .u8 y2, .int .u8 y3] 64 (0, 0))) := ⟨H6.out.2.1⟩
        have Hbv : Hid (b < w6.heap.size) := ⟨Nat.lt_of_lt_of_le HSr.out H6.out.1.size⟩
        have hJ6 : J pre w6 := HJb.out _ _ _ hJ (Kg.below H6.out.1)
        have HPn : Hid (pre ++ mtl p (max (a + 1) nx) = mtl p 0) := ⟨by have := HPre.out; rw [Nat.max_eq_right (by omega)] at this ⊢; exact this⟩
        have kk0 : w6.cell? ⟨z6, 0, none⟩ = some (.int .u8 y0) := by rw [cell_of_row _ _ _ _ _ _ HZ6v.out]; rfl
        have kk1 : w6.cell? ⟨z6, 1, none⟩ = some (.int .u8 y1) := by rw [cell_of_row _ _ _ _ _ _ HZ6v.out]; rfl
        have kk2 : w6.cell? ⟨z6, 2, none⟩ = some (.int .u8 y2) := by rw [cell_of_row _ _ _ _ _ _ HZ6v.out]; rfl
        have kk3 : w6.cell? ⟨z6, 3, none⟩ = some (.int .u8 y3) := by rw [cell_of_row _ _ _ _ _ _ HZ6v.out]; rfl
        obtain ⟨j, ⟨xk, xf, xv⟩, A2, hE, ho2, hl2, hc2, hs2, hfin⟩ := turn HMv.out HSv.out HFo.out rfl Hbv.out
        simp only [kv, yv, List.map_cons, List.map_nil] at hE
        simp only at ho2 hl2 hfin
        have hsz : w6.heap.size = w5.heap.size + 1 := by rw [← Hw6.out]; simp
        rw [hsz] at hc2
        rw [← Hw6.out] at hE
        have HO2 := Hid.mk ho2
        have Hc2 := Hid.mk hc2
        have Hfin := Hid.mk hfin
        have hl3 : (xf.map Int.ofNat).length ≤ 1000000000000 := by omega
        have hw1 : IntKind.i64.wrap ((a : Int) + 1) = (a : Int) + 1 := IntWalk.i64_in _ ⟨by omega, by omega⟩
        clear ho2 hc2 hfin hl2
        gi_wp2_with (refine wpi_appI1 rfl (.tmp 43) (.tmp 45) rfl rfl HO2.out ⟨w5.heap.size + 1, 0, none⟩ Hc2.out rfl hl3 hs2 ?_; intro v3 A3 hO3 hG3 hV3; obtain ⟨A4, L2, hr4, hM4, hS4, hK4⟩ := Hfin.out v3 A3 hO3 hG3 hV3; have HM4 := Hid.mk hM4; have HS4 := Hid.mk hS4; have HK4 := Hid.mk hK4; clear hO3 hG3 hV3 hM4 hS4 hK4)
        go_roundw
        case rel =>
          have hq4 := HK4.out.old HQv.out (by have := HQb.out; omega)
          exact ⟨a + 1, nx, L2, pre, by first | rfl | go_num, by go_num, by omega, by omega, HPn, HJb.out _ _ _ hJ6 HK4.out, ⟨HRv.out.stay (fun h0 k hk o ho => HK4.out.old ho (by have := (HVN.out (by rw [← Hn.out]; exact h0) k hk).1; omega))⟩, ⟨hq4⟩, ⟨Nat.lt_of_lt_of_le Hbv.out HK4.out.1⟩, HM4, HS4⟩
        case measure => simp [RowKit.intOf]; omega
    · have hltz : ¬ (a : Int) < (n : Int) - 4 + 1 := by omega
      have HE : Hid (pre = mtl p 0) := ⟨by have := HPre.out; rw [mtl_end (by rw [Hn.out]; omega), List.append_nil] at this; exact this⟩
      gi_wp2
      go_end0
      exact ⟨⟨_, rfl⟩, by rw [← HE.out]; exact hJ⟩
end
end Go.Proofs.Ytoneepoaodoijaa
