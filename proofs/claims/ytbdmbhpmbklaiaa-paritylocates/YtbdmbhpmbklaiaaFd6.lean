/- How much points count: Weights. -/
import Derived.Test.YtbdmbhpmbklaiaaFd5
import Derived.Laws.MakeOwn
namespace Go.Proofs.Ytbdmbhpmbklaiaa
open Go.RowKit Gf

/-- A slice of elements that the call owns. -/
def OwnG (w : World) (base : Nat) (v : Value) (l : List G) : Prop := OwnY w base v (l.map gi)
theorem OwnG.rd {w : World} {base : Nat} {v : Value} {l : List G} (h : OwnG w base v l) : RdG w v l := OwnY.rd h
theorem OwnG.lt {w : World} {base : Nat} {v : Value} {l : List G} (h : OwnG w base v l) : ∀ k ∈ ob v, base ≤ k ∧ k < w.heap.size := fun k hk => World.ownsRow.lt h k (mem_ob.1 hk)
theorem OwnG.far {w w' : World} {base : Nat} {v : Value} {l : List G} {X : List Nat} (h : OwnG w base v l) (hc : Chg X w w') (hx : ∀ k ∈ ob v, k ∉ X) : OwnG w' base v l := own_far h hc (fun g hg => hx g (mem_ob.2 hg))
theorem ownG_nil (w : World) (base : Nat) : OwnG w base (.slice none 0 0) [] := owny_nil w base
def wts (l : List G) (x : G) : List G := (List.range l.length).map (fun i => wq l i x)
def wtsU (l : List G) (x : G) (i : Nat) : List G := (List.range i).map (fun i => wq l i x)
theorem wtsU_len (l : List G) (x : G) (i : Nat) : (wtsU l x i).length = i := by simp [wtsU]
theorem wtsU_succ (l : List G) (x : G) (i : Nat) : wtsU l x (i + 1) = wtsU l x i ++ [wq l i x] := by simp [wtsU, List.range_succ]
section
variable {w : World} {ops : Array Oper} {rest : List Oper} {o : Oper} {a : Act} {Q : Exit → Act → World → Prop}
theorem wp_makeG (hgd : o.guard = none) (x y : Operand) (ho : o.op = .makeSlice 33 x y) (c : Nat) (hx : a.eval x = .int .i64 0) (hy : a.eval y = .int .i64 (c : Int)) (hc : c ≤ 1000000000000)
    (h : ∀ w', OwnG w' w.heap.size (.slice (some ⟨w.heap.size, 0, none⟩) 0 c) [] → Below w.heap.size w w' → wpList Try.prog ops Q rest (a.put o.dst (.slice (some ⟨w.heap.size, 0, none⟩) 0 c)) w') : wpList Try.prog ops Q (o :: rest) a w :=
  wpList_plain hgd fun _ hK => by
    obtain ⟨i0, hi, hz0, hz1, hz2⟩ := info_parts' infoByte
    obtain ⟨w', hr, h1, h2⟩ := run_make_own (P := Try.prog) w w.heap.size 33 5 i0 _ 1 Try.underlying33 hi hz0 hz1 .i64 .i64 c (by rw [hz2]; omega) (by unfold maxLen; omega) (Nat.le_refl _)
    unfold Oper.wp execOp
    simp only [ho, hx, hy, Sem.run_bind, hr, Result.andThen_ok]
    exact hK _ _ (h _ h1 ⟨h2.os, h2.tape, h2.output, h2.size, fun k hk => h2.block k hk (by simp)⟩)
theorem wp_appG1 {y : G} (hgd : o.guard = none) (s x : Operand)
    (ho : o.op = .call { callee := .builtin .append, args := #[s, x], argTypes := #[33, 33] })
    {base : Nat} {v : Value} {xs : List G} (hs : a.eval s = v) (hown : OwnG w base v xs)
    (hx : a.eval x = .slice (some ⟨w.heap.size, 0, none⟩) 1 1) (hlen : xs.length ≤ 1000000000000) (hbase : base ≤ w.heap.size)
    (h : ∀ v' w', OwnG w' base v' (xs ++ [y]) → Chg (ob v) w w' → (v'.ownBlock = v.ownBlock ∨ v'.ownBlock = some (w.heap.size + 1)) → wpList Try.prog ops Q rest (a.put o.dst v') w') :
    wpList Try.prog ops Q (o :: rest) a (w.alloc (.cells #[.int .u8 (gi y)] 5)) :=
  wp_appY1 hgd s x ho hs hown hx (by rw [List.length_map]; exact hlen) hbase (fun v' w' h1 h2 h3 => h v' w' (by unfold OwnG; rw [List.map_append]; exact h1) h2 h3)
end
section
variable {w : World}
def WRes (w w' : World) (l : List G) (x : G) (v' : Value) (c : Int) : Prop := (l.Nodup ∧ c = 0 ∧ OwnG w' w.heap.size v' (wts l x)) ∨ (¬ l.Nodup ∧ c = 2 ∧ v' = .slice none 0 0)
set_option maxHeartbeats 400000 in
set_option maxRecDepth 100000 in
theorem weights_many (x : G) (v : Value) (l : List G) (hv : RdG w v l) (hn : 256 < l.length) :
    Calls Try.prog 47 #[v, .int .u8 (gi x)] w fun e w' => e = .returned (.tuple #[.slice none 0 0, .int .i64 6]) ∧ w = w' := by
  obtain ⟨sa, sc, rfl, h1, h2, _⟩ := hv.shape
  generalize l.length = n at hn h1
  have h2' : sc ≤ 9223372036854775807 := h2
  clear h2 hv
  go_enter Try.func47, Try.ntmps47
  go_wp2_with fail
  go_ret2
  exact ⟨rfl, rfl⟩
set_option maxHeartbeats 4000000 in
set_option maxRecDepth 100000 in
theorem weights21 (x : G) (v : Value) (l : List G) (hv : RdG w v l) (hn : l.length ≤ 256) :
    Calls Try.prog 47 #[v, .int .u8 (gi x)] w fun e w' => ∃ v' c, e = .returned (.tuple #[v', .int .i64 c]) ∧ WRes w w' l x v' c ∧ Below w.heap.size w w' := by
  obtain ⟨sa, sc, rfl, h1, h2, _⟩ := hv.shape
  have HV := Hid.mk hv
  obtain ⟨n, Hn⟩ : ∃ n, Hid (l.length = n) := ⟨_, ⟨rfl⟩⟩
  rw [Hn.out] at hn h1 HV ⊢
  clear h2 hv
  go_enter Try.func47, Try.ntmps47
  go_upto_region 4 with (refine wp_makeG rfl (.const (.int .i64 0)) (.tmp 17) rfl n rfl rfl (by omega) ?_; intro w5 hO5 hB5; have HO5 := Hid.mk hO5; have HB5 := Hid.mk hB5; clear hO5 hB5)
  go_upto_region 5 with fail
  go_loopg [6, 21] n (fun gg s6 s21 wr => ∃ i : Nat, i ≤ n ∧ n - i ≤ gg ∧ s21 = .int .i64 (i : Int) ∧ Hid (OwnG wr w.heap.size s6 (wtsU l x i)) ∧ Hid (∀ j, j < i → prd (ap l j (l.getD j 0)) n ≠ 0) ∧ Hid (Below w.heap.size w wr))
  case atStart => exact ⟨0, Nat.zero_le _, by omega, rfl, HO5, ⟨fun j hj => by omega⟩, HB5⟩
  case round =>
    clear HO5 HB5
    obtain ⟨i, hi, hgg, rfl, HO, HZ, HB⟩ := hrel
    rename World => wo
    obtain ⟨a6, c6, e6, _⟩ := HO.out.rd.shape
    subst e6
    by_cases hlt : i < n
    · have hltz : (i : Int) < (n : Int) := by omega
      have hiL : i < l.length := by rw [Hn.out]; exact hlt
      have hvo : RdG wo (.slice sa n sc) l := HV.out.far (Chg.ofBelow (X := []) HB.out) (by simp)
      obtain ⟨b, off, cap, e, _, hc⟩ := hvo.at hiL
      rw [Hn.out] at e
      simp at e
      obtain ⟨rfl, rfl⟩ := e
      have c1 := hc i hiL
      have t1 := apart30 (w := wo) x (some ⟨b, off, none⟩) n sc i
      obtain ⟨p, Hp⟩ : ∃ r, Hid (l.getD i 0 = r) := ⟨_, ⟨rfl⟩⟩
      rw [Hp.out] at c1
      obtain ⟨px, Hpx⟩ : ∃ r, Hid (gi p = r) := ⟨_, ⟨rfl⟩⟩
      rw [Hpx.out] at c1
      clear hc hvo
      go_upto_region 7 with fail
      go_wp2_with fail
      refine t1.mono ?_
      rintro e w1 ⟨rfl, hx1, hx2, hx3, hb1⟩
      have HB1 : Hid (Below wo.heap.size wo w1) := ⟨hb1⟩
      have HB01 : Hid (Below w.heap.size w w1) := ⟨HB.out.trans (hb1.mono HB.out.size)⟩
      have t2 := prod_apart (w := w1) i n x _ l Hn.out (by omega) (HV.out.far (Chg.ofBelow (X := []) HB01.out) (by simp)) hx3 hx1 hx2
      clear t1 hx1 hx2 hx3 hb1 c1
      go_wp2_with fail
      refine t2.mono ?_
      rintro e w2 ⟨rfl, hb2⟩
      have HB2 : Hid (Below wo.heap.size wo w2) := ⟨HB1.out.trans (hb2.mono HB1.out.size)⟩
      have HB02 : Hid (Below w.heap.size w w2) := ⟨HB.out.trans (HB2.out.mono HB.out.size)⟩
      clear t2 hb2 HB1 HB01
      obtain ⟨A, HA⟩ : ∃ r, Hid (prd (ap l i x) n = r) := ⟨_, ⟨rfl⟩⟩
      rw [HA.out]
      have t3 := apart30 (w := w2) p (some ⟨b, off, none⟩) n sc i
      rw [Hpx.out] at t3
      go_wp2_with fail
      refine t3.mono ?_
      rintro e w3 ⟨rfl, hx1, hx2, hx3, hb3⟩
      have HB3 : Hid (Below wo.heap.size wo w3) := ⟨HB2.out.trans (hb3.mono HB2.out.size)⟩
      have HB03 : Hid (Below w.heap.size w w3) := ⟨HB.out.trans (HB3.out.mono HB.out.size)⟩
      rw [← Hpx.out] at hx1
      have t4 := prod_apart (w := w3) i n p _ l Hn.out (by omega) (HV.out.far (Chg.ofBelow (X := []) HB03.out) (by simp)) hx3 hx1 hx2
      clear t3 hx1 hx2 hx3 hb3 HB2 HB02
      go_wp2_with fail
      refine t4.mono ?_
      rintro e w4 ⟨rfl, hb4⟩
      have HB4 : Hid (Below wo.heap.size wo w4) := ⟨HB3.out.trans (hb4.mono HB3.out.size)⟩
      clear t4 hb4 HB3 HB03
      obtain ⟨Bl, HBl⟩ : ∃ r, Hid (prd (ap l i p) n = r) := ⟨_, ⟨rfl⟩⟩
      rw [HBl.out]
      have t5 := div9 (w := w4) A Bl
      obtain ⟨W, HW⟩ : ∃ r, Hid (A * inv Bl = r) := ⟨_, ⟨rfl⟩⟩
      rw [HW.out] at t5
      obtain ⟨sn, Hsn⟩ : ∃ r, Hid ((wtsU l x i).length = r) := ⟨_, ⟨rfl⟩⟩
      rw [Hsn.out] at HO ⊢
      by_cases hz : Bl = 0
      · rw [if_pos hz] at t5
        have HD : Hid (¬ l.Nodup) := ⟨fun hd => by
          refine ap_nodup.1 hd i hiL ?_
          rw [Hp.out, Hn.out, HBl.out]
          exact hz⟩
        clear hz
        go_wp2_with fail
        refine t5.mono ?_
        rintro e w5 ⟨rfl, hb5⟩
        have HB5 : Hid (Below w.heap.size w w5) := ⟨HB.out.trans ((HB4.out.trans (hb5.mono HB4.out.size)).mono HB.out.size)⟩
        clear t5 hb5
        go_wp2_with fail
        go_ret2
        exact ⟨_, _, rfl, .inr ⟨HD.out, rfl, rfl⟩, HB5.out⟩
      · rw [if_neg hz] at t5
        have HZ' : Hid (∀ j, j < i + 1 → prd (ap l j (l.getD j 0)) n ≠ 0) := ⟨fun j hj => by
          by_cases hji : j = i
          · rw [hji, Hp.out, HBl.out]; exact hz
          · exact HZ.out j (by omega)⟩
        have HS : Hid (wtsU l x (i + 1) = wtsU l x i ++ [W]) := ⟨by
          rw [wtsU_succ, ← HW.out, ← HA.out, ← HBl.out, ← Hp.out, wq, Hn.out]⟩
        clear hz
        obtain ⟨wv, Hwv⟩ : ∃ r, Hid (gi W = r) := ⟨_, ⟨rfl⟩⟩
        rw [Hwv.out] at t5
        go_wp2_with fail
        refine t5.mono ?_
        rintro e w5 ⟨rfl, hb5⟩
        have HB5' : Hid (Below wo.heap.size wo w5) := ⟨HB4.out.trans (hb5.mono HB4.out.size)⟩
        have HB5 : Hid (Below w.heap.size w w5) := ⟨HB.out.trans (HB5'.out.mono HB.out.size)⟩
        have HO5 : Hid (OwnG w5 w.heap.size (.slice a6 sn c6) (wtsU l x i)) := ⟨HO.out.far (Chg.ofBelow (X := []) HB5'.out) (by simp)⟩
        have hl5 : (wtsU l x i).length ≤ 1000000000000 := by rw [wtsU_len]; omega
        have hz5 : w.heap.size ≤ w5.heap.size := HB5.out.size
        clear t5 hb5 HB4 HB5' HO
        go_upto_region 12 with fail
        rw [← Hwv.out]
        go_wp2_with (refine wp_appG1 rfl (.tmp 49) (.tmp 51) rfl rfl HO5.out rfl hl5 hz5 ?_; intro v7 w7 hO7 hG7 hV7)
        have HO7 : Hid (OwnG w7 w.heap.size v7 (wtsU l x (i + 1))) := ⟨by rw [HS.out]; exact hO7⟩
        have HB7 : Hid (Below w.heap.size w w7) := ⟨HB5.out.trans (hG7.below HB5.out.size (fun x hx => (HO5.out.lt x hx).1))⟩
        clear hO7 hG7 hV7
        go_roundg (n - (i + 1))
        case measure => omega
        case rel => exact ⟨i + 1, by omega, by omega, by go_num, HO7, HZ', HB7⟩
    · obtain rfl : n = i := by omega
      go_wp2_with fail
      go_ret2
      refine ⟨_, _, rfl, .inl ⟨?_, rfl, ?_⟩, HB.out⟩
      · exact ap_nodup.2 (fun j hj => by rw [Hn.out]; exact HZ.out j (by rw [← Hn.out]; exact hj))
      · rw [show wts l x = wtsU l x n by rw [← Hn.out]; rfl]; exact HO.out
end
end Go.Proofs.Ytbdmbhpmbklaiaa
