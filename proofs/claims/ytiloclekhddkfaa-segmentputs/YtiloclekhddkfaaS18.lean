/- The law's few. -/
import Derived.Test.YtiloclekhddkfaaS17
import Derived.Test.YtiloclekhddkfaaS9J
namespace Go.Proofs.Ytiloclekhddkfaa
open Go.RowKit Go.Lib

/-- The first 12 lists, and of each the first 12 numbers. -/
def fewL (M : List (List Int)) : List (List Int) := (M.take 12).map (List.take 12)
theorem fewL_take (M : List (List Int)) (k : Nat) (hk : k < M.length) (h12 : k < 12) : fewL (M.take (k + 1)) = fewL (M.take k) ++ [(M.getD k []).take 12] := by
  unfold fewL
  rw [List.take_take, List.take_take, Nat.min_eq_right (by omega), Nat.min_eq_right (by omega), List.take_add_one, List.getElem?_eq_getElem hk, List.map_append]
  simp [List.getD, List.getElem?_eq_getElem hk]
theorem rdi_take {w : World} {x : Option Addr} {m z : Nat} {l : List Int} (h : RdI w (.slice x m z) l) (j : Nat) : RdI w (.slice x (min m j) z) (l.take j) := by
  obtain ⟨a, cap, e, hl, hm, hn, hc⟩ := h
  simp at e
  obtain ⟨rfl, rfl, rfl⟩ := e
  rw [iv_len] at hl hc ⊢
  refine ⟨_, _, by rw [iv_len, List.length_take, Nat.min_comm], by rw [iv_len, List.length_take]; omega, hm, hn, fun y hy i hi => ?_⟩
  rw [iv_len, List.length_take] at hi
  rw [hc y hy i (by omega)]
  unfold iv
  rw [List.map_take, List.getElem?_take, if_pos (by omega)]
section
variable {w : World} {o : Oper} {a : Act} {K : Act → World → Prop} {Q : Exit → Act → World → Prop}
theorem op_appJ1 {S : Nat → Prop} {y : Value} {l : List Int} (s x : Operand)
    (ho : o.op = .call { callee := .builtin .append, args := #[s, x], argTypes := #[37, 37] })
    {base : Nat} {v : Value} {L : List (List Int)} (hs : a.eval s = v) (hown : OwnJ w S base v L) (hy : IoJ w S y l)
    (hx : a.eval x = .slice (some ⟨w.heap.size, 0, none⟩) 1 1) (hlen : L.length ≤ 1000000000000) (hsep : ∀ k, S k → k ∉ ob v) (hbase : base ≤ w.heap.size)
    (h : ∀ v' w', OwnJ w' S base v' (L ++ [l]) → Chg (ob v) w w' → (v'.ownBlock = v.ownBlock ∨ v'.ownBlock = some (w.heap.size + 1)) → K (a.put o.dst v') w') :
    Oper.wp Try.prog o a (w.alloc (.cells #[y] 39)) K Q := by
  obtain ⟨i0, hi, hz0, hz1, hz2⟩ := info_parts' infoL
  obtain ⟨vs, hv1, hv2⟩ := hown
  obtain ⟨v', w', hr, h1, h2, h3⟩ := run_append_at (P := Try.prog) (w.alloc (.cells #[y] 39)) base 37 o.type 39 i0 (.slice none 0 0) 24 Try.underlying37 hi hz0 hz1 hz2 rfl v L.length _ (World.ownsRow.alloc hv1 _) ⟨w.heap.size, 0, none⟩ 1 1 [y] rfl (by
    intro j u hj
    match j, hj with
    | 0, hj => simp at hj; subst hj; simp [Addr.add]) (by intro u hu; simp at hu; subst hu; exact rdi_one hy.bs) (by unfold maxLen; omega) (by omega) (by simp; omega)
  unfold Oper.wp execOp
  simp only [ho, resolve, invoke, builtin, Sem.run_bind, Sem.run_pure, Result.andThen_ok, List.map_toArray, List.map_cons, List.map_nil, hs, hx, hr]
  have hc : Chg (ob v) w w' := (Chg.ofBelow ((Below.refl _ w).alloc (Nat.le_refl _) _)).trans (Chg.ofGrown h2)
  have hx2 : ∀ k, Tr k → S k → k ∉ ob v := fun k _ hk => hsep k hk
  exact h v' w' ⟨vs ++ [y], by simpa using h1, (hv2.append (EachJ.one hy)).far hc hx2⟩ hc (by simpa using h3)
end
section
variable {w : World}
set_option maxHeartbeats 4000000 in
set_option maxRecDepth 100000 in
theorem few_any (v : Value) (M : List (List Int)) (h : ArgL w v M) : Calls Try.prog 19 #[v] w fun e w' => ∃ v', e = .returned v' ∧ OwnJ w' (fun k => k < w.heap.size) w.heap.size v' (fewL M) ∧ Below w.heap.size w w' := by
  have HA := Hid.mk h
  obtain ⟨n, Hn⟩ : ∃ n, Hid (M.length = n) := ⟨_, ⟨rfl⟩⟩
  obtain ⟨av, c0, rfl, hcv⟩ := h.shape
  rw [Hn.out] at HA hcv ⊢
  clear h
  go_enter Try.func19, Try.ntmps19
  go_wp2_with fail
  go_loopg [3, 4] 12 (fun gg s3 s4 wr => ∃ kk : Nat, kk ≤ n ∧ kk ≤ 12 ∧ 12 - kk ≤ gg ∧ s4 = .int .i64 (kk : Int) ∧ Hid (OwnJ wr (fun k => k < w.heap.size) w.heap.size s3 (fewL (M.take kk))) ∧ Hid (Below w.heap.size w wr))
  case atStart => exact ⟨0, Nat.zero_le _, Nat.zero_le _, by omega, rfl, ⟨by simpa [fewL] using OwnJ.nil _ _ _⟩, ⟨Below.refl _ _⟩⟩
  case round =>
    obtain ⟨kk, hkn, hk12, hgg, rfl, HO, HB⟩ := hrel
    obtain ⟨a3, c3, e3, _⟩ := HO.out.rows.shape
    subst e3
    obtain ⟨n3, Hn3⟩ : ∃ m, Hid ((fewL (M.take kk)).length = m) := ⟨_, ⟨rfl⟩⟩
    have hla : (fewL (M.take kk)).length ≤ 1000000000000 := by unfold fewL; rw [List.length_map, List.length_take]; omega
    rw [Hn3.out] at HO ⊢
    by_cases hlt : kk < n
    · by_cases hlt2 : kk < 12
      · have hkz : (kk : Int) < (n : Int) := by omega
        have hkz2 : (kk : Int) < 12 := by omega
        have hkL : kk < M.length := by rw [Hn.out]; exact hlt
        obtain ⟨b1, o1, c1, x1, m1, z1, e1, dw, y1⟩ := HA.out.at' kk hkL
        rw [Hn.out] at e1
        simp at e1
        obtain ⟨rfl, rfl⟩ := e1
        have dr : wr.cell? ⟨b1, o1 + kk, none⟩ = some (.slice x1 m1 z1) := (HB.out.cell (World.block_lt_of_cell? _ _ dw)).trans dw
        obtain ⟨mm, Hmm⟩ : ∃ mm, Hid (min m1 12 = mm) := ⟨_, ⟨rfl⟩⟩
        have hmz : min (m1 : Int) 12 = (mm : Int) := by rw [← Hmm.out]; omega
        have hmc : mm ≤ z1 := by obtain ⟨_, _, e, hl, _⟩ := y1.shape; obtain ⟨_, e1, e2⟩ := Value.slice.inj e; rw [← Hmm.out, e1, e2]; omega
        have HY0 : Hid (IoJ w (fun k => k < w.heap.size) (.slice x1 mm z1) ((M.getD kk []).take 12)) := ⟨by rw [← Hmm.out]; exact rdi_take y1 12, fun hp k hk => ⟨trivial, by
          obtain ⟨bb, oo, cc, e, _, hcell⟩ := y1.at (i := 0) (by rw [List.length_take] at hp; omega)
          simp at e
          obtain ⟨rfl, _, _⟩ := e
          simp [Value.ownBlock] at hk
          subst hk
          exact World.block_lt_of_cell? _ _ (hcell 0 (by rw [List.length_take] at hp; omega))⟩⟩
        have HF := Hid.mk (fewL_take M kk hkL hlt2)
        obtain ⟨w5, Hw5⟩ : ∃ w5, Hid (wr.drew = w5) := ⟨_, ⟨rfl⟩⟩
        have HBr5 : Hid (Below wr.heap.size wr w5) := ⟨by rw [← Hw5.out]; exact ⟨rfl, rfl, rfl, Nat.le_refl _, fun _ _ => rfl⟩⟩
        have HB5 : Hid (Below w.heap.size w w5) := ⟨HB.out.trans (HBr5.out.mono HB.out.size)⟩
        have HO5 : Hid (OwnJ w5 (fun k => k < w.heap.size) w.heap.size (.slice a3 n3 c3) (fewL (M.take kk))) := ⟨HO.out.far (Chg.ofBelow (X := []) HBr5.out) (by simp) (by simp)⟩
        have HY5 : Hid (IoJ w5 (fun k => k < w.heap.size) (.slice x1 mm z1) ((M.getD kk []).take 12)) := ⟨HY0.out.far (Chg.ofBelow (X := []) HB5.out) (by simp)⟩
        have Hsp : Hid (∀ k, (fun k => k < w.heap.size) k → k ∉ ob (.slice a3 n3 c3)) := ⟨fun k hk hm => by
          replace hk : k < w.heap.size := hk
          have := (HO5.out.ge k hm).1
          omega⟩
        have hb5 : w.heap.size ≤ w5.heap.size := HB5.out.size
        have hS0 : (fun w' => w'.cell? ⟨b1, o1 + kk, none⟩ = some (.slice x1 m1 z1)) wr.drew := dr
        have hS6 : (w5.alloc (.cells #[.slice x1 mm z1] 39)).cell? ⟨b1, o1 + kk, none⟩ = some (.slice x1 m1 z1) := by rw [World.cell?_alloc_lt _ _ _ (by rw [← Hw5.out]; exact World.block_lt_of_cell? _ _ dr), ← Hw5.out]; exact dr
        clear y1 dr HY0
        go_upto_region 5 with fail
        refine wp_region_held_drew (S := (fun w' => w'.cell? ⟨b1, o1 + kk, none⟩ = some (.slice x1 m1 z1))) (by kernel_rfl) hS0 (fun hS => ?_)
        refine wpAnyH_take (i := 0) (v := .slice a3 n3 c3) rfl (by kernel_rfl) (by kernel_rfl) (by kernel_rfl) (fun _ _ _ h => h) (Or.inl ⟨by kernel_rfl, fun _ _ => by kernel_rfl⟩) hS ?_
        refine wpAnyH_take (i := 1) (v := .slice (some ⟨b1, o1, none⟩) n c0) rfl (by kernel_rfl) (by kernel_rfl) (by kernel_rfl) (fun _ _ _ h => h) (Or.inl ⟨by kernel_rfl, fun _ _ => by kernel_rfl⟩) hS ?_
        refine wpAnyH_take (i := 2) (v := .int .i64 (kk : Int)) rfl (by kernel_rfl) (by kernel_rfl) (by kernel_rfl) (fun _ _ _ h => h) (Or.inl ⟨by kernel_rfl, fun _ _ => by kernel_rfl⟩) hS ?_
        refine wpAnyH_take (i := 3) (v := (.pointer (some ⟨b1, o1 + kk, none⟩))) rfl (by kernel_rfl) (by kernel_rfl) (by kernel_rfl) (fun _ _ _ h => h) (Or.inl ⟨by kernel_rfl, fun wx hx => by go_simp⟩) hS ?_
        refine wpAnyH_take (i := 4) (v := .slice x1 m1 z1) rfl (by kernel_rfl) (by kernel_rfl) (by kernel_rfl) (fun _ _ _ h => h) (Or.inl ⟨by kernel_rfl, fun wx hx => by go_simp⟩) hS ?_
        refine wpAnyH_take (i := 5) (v := .slice (some ⟨b1, o1, none⟩) n c0) rfl (by kernel_rfl) (by kernel_rfl) (by kernel_rfl) (fun _ _ _ h => h) (Or.inl ⟨by kernel_rfl, fun _ _ => by kernel_rfl⟩) hS ?_
        refine wpAnyH_take (i := 6) (v := .int .i64 (kk : Int)) rfl (by kernel_rfl) (by kernel_rfl) (by kernel_rfl) (fun _ _ _ h => h) (Or.inl ⟨by kernel_rfl, fun _ _ => by kernel_rfl⟩) hS ?_
        refine wpAnyH_take (i := 7) (v := (.pointer (some ⟨b1, o1 + kk, none⟩))) rfl (by kernel_rfl) (by kernel_rfl) (by kernel_rfl) (fun _ _ _ h => h) (Or.inl ⟨by kernel_rfl, fun wx hx => by go_simp⟩) hS ?_
        refine wpAnyH_take (i := 8) (v := .slice x1 m1 z1) rfl (by kernel_rfl) (by kernel_rfl) (by kernel_rfl) (fun _ _ _ h => h) (Or.inl ⟨by kernel_rfl, fun wx hx => by go_simp⟩) hS ?_
        refine wpAnyH_take (i := 9) (v := .int .i64 (m1 : Int)) rfl (by kernel_rfl) (by kernel_rfl) (by kernel_rfl) (fun _ _ _ h => h) (Or.inl ⟨by kernel_rfl, fun wx hx => by go_simp⟩) hS ?_
        refine wpAnyH_take (i := 10) (v := .int .i64 (mm : Int)) rfl (by kernel_rfl) (by kernel_rfl) (by kernel_rfl) (fun _ _ _ h => h) (Or.inl ⟨by kernel_rfl, fun wx hx => by go_simp⟩) hS ?_
        refine wpAnyH_take (i := 11) (v := .slice x1 mm z1) rfl (by kernel_rfl) (by kernel_rfl) (by kernel_rfl) (fun _ _ _ h => h) (Or.inl ⟨by kernel_rfl, fun wx hx => by go_simp⟩) hS ?_
        clear hS hS0
        rw [Hw5.out]
        refine wpAnyH_ready (rs := [12]) (by kernel_rfl) (by simp) (AllReadyH.cons rfl (fun Kc hK => ?_) AllReadyH.nil)
        go_simp
        refine hK.out _ _ hS6 (fun hS => ?_)
        clear hK
        refine wpAnyH_ready (rs := [13]) (by kernel_rfl) (by simp) (AllReadyH.cons rfl (fun Kc hK => ?_) AllReadyH.nil)
        refine rdy_of (by kernel_rfl) ?_
        refine op_appJ1 (.tmp 15) (.tmp 27) rfl (by kernel_rfl) HO5.out HY5.out (by kernel_rfl) hla Hsp.out hb5 ?_
        intro v7 w7 hO7 hG7 hV7
        obtain ⟨a7, c7, e7, _⟩ := hO7.rows.shape
        subst e7
        obtain ⟨n7, Hn7⟩ : ∃ n, Hid ((fewL (M.take kk) ++ [(M.getD kk []).take 12]).length = n) := ⟨_, ⟨rfl⟩⟩
        have HO7 := Hid.mk hO7
        rw [Hn7.out] at HO7 ⊢
        have HB7 : Hid (Below w.heap.size w w7) := ⟨HB5.out.trans (hG7.below hb5 (fun x hx => (HO5.out.ge x hx).1))⟩
        have hS7 : w7.cell? ⟨b1, o1 + kk, none⟩ = some (.slice x1 m1 z1) := (HB7.out.cell (World.block_lt_of_cell? _ _ dw)).trans dw
        clear hO7 hG7 hV7
        refine hK.out _ _ hS7 (fun hS => ?_)
        clear hK
        refine wpAnyH_take (i := 14) (v := .slice a7 n7 c7) rfl (by kernel_rfl) (by kernel_rfl) (by kernel_rfl) (fun _ _ _ h => h) (Or.inl ⟨by kernel_rfl, fun _ _ => by kernel_rfl⟩) hS ?_
        refine wpAnyH_done (by kernel_rfl) ?_ _
        clear hS hS7 hS6
        go_simp
        go_wp2_with fail
        go_roundg (12 - (kk + 1))
        case measure => omega
        case rel =>
          exact ⟨kk + 1, by omega, by omega, by omega, by go_num, ⟨by rw [HF.out]; exact HO7.out⟩, HB7⟩

      · obtain rfl : kk = 12 := by omega
        have hkz : ((12 : Nat) : Int) < (n : Int) := by omega
        have HE : Hid (fewL (M.take 12) = fewL M) := ⟨by unfold fewL; rw [List.take_take, Nat.min_self]⟩
        rw [HE.out] at HO
        go_wp2_with fail
        go_ret
        exact ⟨_, rfl, HO.out, HB.out⟩
    · obtain rfl : kk = n := by omega
      have HE : Hid (M.take kk = M) := ⟨List.take_of_length_le (by rw [Hn.out]; exact Nat.le_refl _)⟩
      rw [HE.out] at HO
      have hkz : ¬ (kk : Int) < (kk : Int) := by omega
      go_wp2_with fail
      go_ret
      exact ⟨_, rfl, HO.out, HB.out⟩
end
end Go.Proofs.Ytiloclekhddkfaa
