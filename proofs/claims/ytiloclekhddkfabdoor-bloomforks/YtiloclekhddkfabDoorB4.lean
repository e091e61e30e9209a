/- The document's lay. -/
import Derived.Test.YtiloclekhddkfabDoorB3
namespace Go.Proofs.YtiloclekhddkfabDoor
open Go.RowKit

/-- Places are on. -/
def layF (l : List Int) (L : List Int) : List Int := L.foldl (fun o x => if x ∈ o then o else o ++ [x]) l
theorem lay_snoc (l L : List Int) (k : Nat) (hk : k < L.length) : layF l (L.take (k + 1)) = if L.getD k 0 ∈ layF l (L.take k) then layF l (L.take k) else layF l (L.take k) ++ [L.getD k 0] := by
  unfold layF
  rw [Oct.take_snoc L k hk, List.foldl_append]
  rfl
theorem lay_len : ∀ (L l : List Int), (layF l L).length ≤ l.length + L.length
  | [], l => by simp [layF]
  | x :: L, l => by
    have h := lay_len L (if x ∈ l then l else l ++ [x])
    unfold layF at h ⊢
    rw [List.foldl_cons, List.length_cons]
    split at h <;> (try rw [List.length_append, List.length_singleton] at h) <;> simp_all <;> omega
theorem rdi_new (w : World) (x : Int) : RdI (w.alloc (.cells #[.int .i64 x] 3)) (.slice (some ⟨w.heap.size, 0, none⟩) 1 1) [x] := by
  refine ⟨_, _, rfl, by simp [iv], by unfold maxLen; omega, by simp, fun y hy i hi => ?_⟩
  cases hy
  simp [iv] at hi
  subst hi
  simp [Addr.add, iv]
theorem op_appI {w : World} {o : Oper} {a : Act} {K : Act → World → Prop} {Q : Exit → Act → World → Prop} (s x : Operand)
    (ho : o.op = .call { callee := .builtin .append, args := #[s, x], argTypes := #[30, 30] })
    {base : Nat} {v u : Value} {xs ys : List Int} (hs : a.eval s = v) (hown : OwnI w base v xs)
    (hx : a.eval x = u) (hu : RdI w u ys) (hlen : xs.length + ys.length ≤ 1000000000000) (hbase : base ≤ w.heap.size)
    (h : ∀ v' w', OwnI w' base v' (xs ++ ys) → Chg (ob v) w w' → (v'.ownBlock = v.ownBlock ∨ v'.ownBlock = some w.heap.size) → K (a.put o.dst v') w') :
    Oper.wp Tryd.prog o a w K Q := by
  obtain ⟨i0, hi, hz0, hz1, hz2⟩ := info_parts' infoInt
  obtain ⟨ao, cap, rfl, hl, hm, hn, hc⟩ := hu
  cases ao with
  | none =>
    have hcap := hn rfl
    subst hcap
    have hy : ys = [] := by rw [iv_len] at hl; exact List.length_eq_zero_iff.1 (by omega)
    subst hy
    have hrun := run_append_owned_none (P := Tryd.prog) (w := w) base 30 o.type 3 i0 1 Tryd.underlying30 hi v xs.length _ hown
    unfold Oper.wp
    simp [execOp, ho, resolve, invoke, builtin, hs, hx, hrun, Result.andThen, iv_len]
    exact h v w (by simpa [OwnI] using hown) (Chg.refl _ _) (.inl rfl)
  | some ad =>
    rw [iv_len] at hx hl hc
    obtain ⟨v', w', hr, h2, h3, h4⟩ := run_append_at (P := Tryd.prog) w base 30 o.type 3 i0 (.int .i64 0) 8 Tryd.underlying30 hi hz0 hz1 hz2 rfl v xs.length _ hown ad ys.length cap (iv ys) (iv_len ys) (by
      intro j u hj
      have hjl : j < ys.length := by
        rcases Nat.lt_or_ge j ys.length with h | h
        · exact h
        · rw [List.getElem?_eq_none (by rw [iv_len]; exact h)] at hj; cases hj
      rw [hc ad rfl j hjl]
      exact hj) (iv_one ys) (by unfold maxLen; omega) (by omega) hbase
    unfold Oper.wp execOp
    simp only [ho, resolve, invoke, builtin, Sem.run_bind, Sem.run_pure, Result.andThen_ok, List.map_toArray, List.map_cons, List.map_nil, hs, hx, hr]
    exact h v' w' (by unfold OwnI; rw [iv_app, List.length_append]; exact h2) (Chg.ofGrown h3) h4
section
variable {w : World}
set_option maxHeartbeats 8000000 in
set_option maxRecDepth 100000 in
theorem lay_any {p : Nat} {bits ways : Int} {v u : Value} {l L : List Int} (h : RfAt w p bits ways v l) (hu : RdI w u L) (hup : 0 < L.length → ∀ g, u.ownBlock = some g → g ≠ p) (X : List Nat) (hX : ∀ x ∈ X, x < w.heap.size) (hvp : 0 < l.length → ∀ g, v.ownBlock = some g → g ∉ X) (hl : l.length + L.length ≤ 1000000) : Calls Tryd.prog 33 #[.pointer (some ⟨p, 0, none⟩), u] w fun e w' => e = .returned (.tuple #[]) ∧ (∃ v', RfAt w' p bits ways v' (layF l L) ∧ (0 < (layF l L).length → ∀ g, v'.ownBlock = some g → g ∉ X)) ∧ Chg [p] w w' := by
  have HL0 := Hid.mk hl
  have HU := Hid.mk hu
  have HUp := Hid.mk hup
  have Hpl : Hid (p < w.heap.size) := ⟨h.lt⟩
  obtain ⟨au, cu, rfl, _⟩ := hu.shape
  obtain ⟨nu, Hnu⟩ : ∃ n, Hid (L.length = n) := ⟨_, ⟨rfl⟩⟩
  have H0 := Hid.mk h
  have Hv0 := Hid.mk hvp
  rw [Hnu.out] at HU HUp ⊢
  have HX := Hid.mk hX
  clear h hu hup hvp hl hX
  have hnub : nu ≤ 1000000 := by have := HL0.out; have := Hnu.out; omega
  go_enter Tryd.func33, Tryd.ntmps33
  go_wp2_with fail
  go_loopg [4] nu (fun gg s4 wr => ∃ (k : Nat) (v : Value), k ≤ nu ∧ nu - k ≤ gg ∧ s4 = .int .i64 (k : Int) ∧ Hid (RfAt wr p bits ways v (layF l (L.take k))) ∧ Hid (0 < (layF l (L.take k)).length → ∀ g, v.ownBlock = some g → g ∉ X) ∧ Hid (Chg [p] w wr))
  case atStart => exact ⟨0, v, Nat.zero_le _, by omega, rfl, H0, Hv0, ⟨Chg.refl _ _⟩⟩
  case round =>
    clear H0 Hv0
    obtain ⟨k, v, hk, hgg, rfl, HF, HVp, HG⟩ := hrel
    have Hlk : Hid ((layF l (L.take k)).length ≤ 1000000) := ⟨by
      have h1 := lay_len (L.take k) l
      have h2 : (L.take k).length ≤ L.length := by rw [List.length_take]; omega
      have := HL0.out
      omega⟩
    by_cases hlt : k < nu
    · have hltz : (k : Int) < (nu : Int) := by omega
      have hkL : k < L.length := by rw [Hnu.out]; exact hlt
      have hRr : RdI wr (.slice au nu cu) L := Rd.far HU.out HG.out (fun hp g hg => by simp; exact HUp.out (by rw [iv_len, Hnu.out] at hp; exact hp) g hg)
      obtain ⟨b1, o1, c1, e1, _, hcell⟩ := hRr.at hkL
      rw [Hnu.out] at e1
      simp at e1
      obtain ⟨rfl, rfl⟩ := e1
      have hx := hcell k hkL
      have HS := Hid.mk (lay_snoc l L k hkL)
      clear hcell hRr
      generalize L.getD k 0 = x at hx HS
      generalize layF l (L.take k) = l1 at HF HVp HS Hlk
      have t1 := ron_any x HF.out (by have := Hlk.out; omega)
      by_cases hin : x ∈ l1
      · rw [if_pos hin] at HS
        rw [decide_eq_true hin] at t1
        go_wp2_with (go_at_call 31; refine t1.mono ?_; rintro e wx ⟨rfl, ex⟩; subst ex)
        go_roundg (nu - (k + 1))
        case measure => omega
        case rel => exact ⟨k + 1, v, by omega, by omega, by go_num, ⟨by rw [HS.out]; exact HF.out⟩, ⟨by rw [HS.out]; exact HVp.out⟩, HG⟩
      · rw [if_neg hin] at HS
        rw [decide_eq_false hin] at t1
        obtain ⟨W0, Hwd⟩ : ∃ w, Hid (wr.drew = w) := ⟨_, ⟨rfl⟩⟩
        have HC0 : Hid (Chg [] wr W0) := ⟨by rw [← Hwd.out]; exact (Chg.refl [] wr).drew⟩
        have HSS : Hid (∀ w', Chg [] wr w' → w'.cell? ⟨b1, o1 + k, none⟩ = some (.int .i64 x)) := ⟨fun w' hc => (hc.cell (a := ⟨b1, o1 + k, none⟩) (World.block_lt_of_cell? _ _ hx) (by simp)).trans hx⟩
        obtain ⟨av, cv, ev, _⟩ := HF.out.on.shape
        subst ev
        obtain ⟨nv, Hnv⟩ : ∃ n, Hid (l1.length = n) := ⟨_, ⟨rfl⟩⟩
        have HCv : Hid (∀ w', Chg [] wr w' → w'.cell? ⟨p, 2, none⟩ = some (.slice av nv cv)) := ⟨fun w' hc => by rw [← Hnv.out]; exact (hc.cell (a := ⟨p, 2, none⟩) (World.block_lt_of_cell? _ _ HF.out.c2) (by simp)).trans HF.out.c2⟩
        have Hfz : Hid (∀ w', Chg [] wr w' → w'.frozen? ⟨p, 2, none⟩ = false) := ⟨fun w' hc => frozen_of_row w' p 2 _ 41 ((hc.block p HF.out.lt (by simp)).trans HF.out.row)⟩
        have Hon : Hid (∀ w', Chg [] wr w' → RdI w' (.slice av nv cv) l1) := ⟨fun w' hc => by rw [← Hnv.out]; exact Rd.far HF.out.on hc (by simp)⟩
        have Hpw : Hid (p < wr.heap.size) := ⟨HF.out.lt⟩
        have Hxp : Hid (b1 ≠ p) := ⟨HUp.out (by omega) b1 rfl⟩
        have HSS2 : Hid (∀ w', Chg [] wr w' → ∀ z, (w'.setCell ⟨p, 2, none⟩ z).cell? ⟨b1, o1 + k, none⟩ = some (.int .i64 x)) := ⟨fun w' hc z => by rw [World.cell?_setCell_other _ _ _ _ (fun e => Hxp.out (by have := congrArg Addr.block e; simpa using this.symm))]; exact HSS.out w' hc⟩
        have hln : ([] : List Int).length + l1.length ≤ 1000000000000 := by have := Hlk.out; simp; omega
        have hln1 : l1.length + [x].length ≤ 1000000000000 := by have := Hlk.out; simp; omega
        obtain ⟨l2, Hl2⟩ : ∃ l2, Hid (l1 ++ [x] = l2) := ⟨_, ⟨rfl⟩⟩
        have HRel : Hid (∀ WB, Chg [] wr WB → ∀ aB nB cB, OwnI WB wr.heap.size (.slice aB nB cB) (l1 ++ [x]) → ∃ (k' : Nat) (v : Value), k' ≤ nu ∧ nu - k' ≤ nu - (k + 1) ∧ Value.int .i64 ((k : Int) + 1) = .int .i64 (k' : Int) ∧ Hid (RfAt (WB.setCell ⟨p, 2, none⟩ (.slice aB nB cB)) p bits ways v (layF l (L.take k'))) ∧ Hid (0 < (layF l (L.take k')).length → ∀ g, v.ownBlock = some g → g ∉ X) ∧ Hid (Chg [p] w (WB.setCell ⟨p, 2, none⟩ (.slice aB nB cB)))) := ⟨fun WB hc aB nB cB hO => ⟨k + 1, .slice aB nB cB, by omega, by omega, by simp, ⟨by
          rw [HS.out]
          refine ⟨heap_setCell_same WB p 2 _ 41 _ ((hc.block p Hpw.out (by simp)).trans HF.out.row), ?_⟩
          exact Rd.far hO.rd ((Chg.refl [p] WB).setCell (.inl (by simp)) _) (fun _ g hg => by have := (hO.lt g hg).1; have := Hpw.out; simp; omega)⟩, ⟨fun _ g hg hm => by have := (hO.lt g hg).1; have := HX.out g hm; have := HG.out.size; omega⟩, ⟨(HG.out.trans (hc.mono (by simp))).setCell (.inl (by simp)) _⟩⟩⟩
        have hS0 : (fun w' => w'.cell? ⟨b1, o1 + k, none⟩ = some (.int .i64 x)) wr.drew := HSS.out _ (Chg.refl [] wr).drew
        have Hl := HRel
        clear HRel
        have HRel := Hl
        clear Hl
        obtain ⟨l, Hle⟩ : ∃ l, Hid (l1 = l) := ⟨_, ⟨rfl⟩⟩
        rw [Hle.out] at Hon HRel hln hln1
        clear HVp HF
        go_upto_region 4 with (go_at_call 31; refine t1.mono ?_; rintro e wx ⟨rfl, ex⟩; subst ex)
        refine wp_region_held_drew (S := (fun w' => w'.cell? ⟨b1, o1 + k, none⟩ = some (.int .i64 x))) (by kernel_rfl) hS0 (fun hS => ?_)
        refine wpAnyH_take (i := 0) (v := .pointer (some ⟨p, 0, none⟩)) rfl (by kernel_rfl) (by kernel_rfl) (by kernel_rfl) (fun _ _ _ h => h) (Or.inl ⟨by kernel_rfl, fun _ _ => by kernel_rfl⟩) hS ?_
        refine wpAnyH_take (i := 2) (v := .pointer (some ⟨p, 0, none⟩)) rfl (by kernel_rfl) (by kernel_rfl) (by kernel_rfl) (fun _ _ _ h => h) (Or.inl ⟨by kernel_rfl, fun _ _ => by kernel_rfl⟩) hS ?_
        refine wpAnyH_take (i := 3) (v := .pointer (some ⟨p, 0, none⟩)) rfl (by kernel_rfl) (by kernel_rfl) (by kernel_rfl) (fun _ _ _ h => h) (Or.inl ⟨by kernel_rfl, fun wx hx => by go_simp⟩) hS ?_
        refine wpAnyH_take (i := 4) (v := .pointer (some ⟨p, 2, none⟩)) rfl (by kernel_rfl) (by kernel_rfl) (by kernel_rfl) (fun _ _ _ h => h) (Or.inl ⟨by kernel_rfl, fun wx hx => by go_simp⟩) hS ?_
        refine wpAnyH_take (i := 7) (v := .slice (some ⟨b1, o1, none⟩) nu cu) rfl (by kernel_rfl) (by kernel_rfl) (by kernel_rfl) (fun _ _ _ h => h) (Or.inl ⟨by kernel_rfl, fun _ _ => by kernel_rfl⟩) hS ?_
        refine wpAnyH_take (i := 8) (v := .int .i64 (k : Int)) rfl (by kernel_rfl) (by kernel_rfl) (by kernel_rfl) (fun _ _ _ h => h) (Or.inl ⟨by kernel_rfl, fun _ _ => by kernel_rfl⟩) hS ?_
        refine wpAnyH_take (i := 9) (v := .pointer (some ⟨b1, o1 + k, none⟩)) rfl (by kernel_rfl) (by kernel_rfl) (by kernel_rfl) (fun _ _ _ h => h) (Or.inl ⟨by kernel_rfl, fun wx hx => by go_simp⟩) hS ?_
        refine wpAnyH_take (i := 10) (v := .int .i64 x) rfl (by kernel_rfl) (by kernel_rfl) (by kernel_rfl) (fun _ _ _ h => h) (Or.inl ⟨by kernel_rfl, fun wx hx => by go_simp⟩) hS ?_
        rw [Hwd.out]
        clear hS
        refine wpAnyH_ready (rs := [1, 5, 11]) (by kernel_rfl) (by simp) (AllReadyH.cons rfl (fun Kc hK => ?_) (AllReadyH.cons rfl (fun Kc hK => ?_) (AllReadyH.cons rfl (fun Kc hK => ?_) AllReadyH.nil)))
        · go_simp
          obtain ⟨e1, He1⟩ : ∃ e, Hid (W0.heap.size = e) := ⟨_, ⟨rfl⟩⟩
          obtain ⟨W1, HW1⟩ : ∃ w, Hid (W0.alloc (.cells #[] 3) = w) := ⟨_, ⟨rfl⟩⟩
          have HB1 : Hid (Below W0.heap.size W0 W1) := ⟨by rw [← HW1.out]; exact (Below.refl _ W0).alloc (Nat.le_refl _) _⟩
          have Hel : Hid (wr.heap.size ≤ e1) := ⟨by rw [← He1.out]; exact HC0.out.size⟩
          have HE1 : Hid (OwnI W1 wr.heap.size (.slice (some ⟨e1, 0, none⟩) 0 0) []) := ⟨by rw [← HW1.out, ← He1.out]; exact own_base (owni_none W0) (fun g hg => by simp [Value.ownBlock] at hg; subst hg; exact HC0.out.size)⟩
          rw [HW1.out, He1.out]
          have HC1 : Hid (Chg [] wr W1) := ⟨HC0.out.trans (Chg.ofBelow HB1.out)⟩
          have Hel1 : Hid (e1 < W1.heap.size) := ⟨by rw [← HW1.out, ← He1.out]; simp⟩
          refine hK.out _ _ (HSS.out _ HC1.out) (fun hS => ?_)
          clear hK
          refine wpAnyH_ready (rs := [5, 11]) (by kernel_rfl) (by simp) (AllReadyH.cons rfl (fun Kc hK => ?_) (AllReadyH.cons rfl (fun Kc hK => ?_) AllReadyH.nil))
          · have hcv := HCv.out W1 HC1.out
            go_simp
            clear hcv
            refine hK.out _ _ (HSS.out _ HC1.out) (fun hS => ?_)
            clear hK
            refine wpAnyH_ready (rs := [6, 11]) (by kernel_rfl) (by simp) (AllReadyH.cons rfl (fun Kc hK => ?_) (AllReadyH.cons rfl (fun Kc hK => ?_) AllReadyH.nil))
            · refine rdy_of (by kernel_rfl) ?_
              refine op_appI (.tmp 19) (.tmp 23) rfl (by kernel_rfl) HE1.out (by kernel_rfl) (Hon.out W1 HC1.out) hln HC1.out.size ?_
              intro vA W2 hOA hGA hVA
              replace hGA : Chg (ob (.slice (some ⟨e1, 0, none⟩) 0 0)) W1 W2 := hGA
              replace hVA : vA.ownBlock = Value.ownBlock (.slice (some ⟨e1, 0, none⟩) 0 0) ∨ vA.ownBlock = some W1.heap.size := hVA
              rw [List.nil_append] at hOA
              have HC2 : Hid (Chg [] wr W2) := ⟨HC1.out.thenNew hGA (fun z hz => .inr (HE1.out.lt z (mem_ob.1 hz)).1)⟩
              have HO2 := Hid.mk hOA
              obtain ⟨aA, cA, eA, _⟩ := hOA.shape
              subst eA
              obtain ⟨nA, HnA⟩ : ∃ n, Hid (l.length = n) := ⟨_, ⟨rfl⟩⟩
              rw [HnA.out] at HO2 ⊢
              clear hOA hGA hVA
              refine hK.out _ _ (HSS.out _ HC2.out) (fun hS => ?_)
              clear hK
              refine wpAnyH_ready (rs := [11]) (by kernel_rfl) (by simp) (AllReadyH.cons rfl (fun Kc hK => ?_) AllReadyH.nil)
              go_simp
              obtain ⟨o2, Ho2⟩ : ∃ e, Hid (W2.heap.size = e) := ⟨_, ⟨rfl⟩⟩
              obtain ⟨W3, HW3⟩ : ∃ w, Hid (W2.alloc (.cells #[.int .i64 x] 3) = w) := ⟨_, ⟨rfl⟩⟩
              have HB3 : Hid (Below W2.heap.size W2 W3) := ⟨by rw [← HW3.out]; exact (Below.refl _ W2).alloc (Nat.le_refl _) _⟩
              have HR3 : Hid (RdI W3 (.slice (some ⟨o2, 0, none⟩) 1 1) [x]) := ⟨by rw [← HW3.out, ← Ho2.out]; exact rdi_new W2 x⟩
              have Ho2l3 : Hid (o2 < W3.heap.size) := ⟨by rw [← HW3.out, ← Ho2.out]; simp⟩
              rw [HW3.out, Ho2.out]
              have HC3 : Hid (Chg [] wr W3) := ⟨HC2.out.trans (Chg.ofBelow HB3.out)⟩
              have HO3 : Hid (OwnI W3 wr.heap.size (.slice aA nA cA) l) := ⟨own_far HO2.out (Chg.ofBelow (X := []) HB3.out) (by simp)⟩
              have Hao : Hid (∀ z ∈ ob (.slice aA nA cA), z ≠ o2) := ⟨fun z hz => by have := (HO2.out.lt z (mem_ob.1 hz)).2; have := Ho2.out; omega⟩
              refine hK.out _ _ (HSS.out _ HC3.out) (fun hS => ?_)
              clear hK
              refine wpAnyH_ready (rs := [12]) (by kernel_rfl) (by simp) (AllReadyH.cons rfl (fun Kc hK => ?_) AllReadyH.nil)
              refine rdy_of (by kernel_rfl) ?_
              refine op_appI (.tmp 24) (.tmp 29) rfl (by kernel_rfl) HO3.out (by kernel_rfl) HR3.out hln1 HC3.out.size ?_
              intro vB WB hOB hGB hVB
              have HCB : Hid (Chg [] wr WB) := ⟨HC3.out.thenNew hGB (fun z hz => .inr (HO3.out.lt z (mem_ob.1 hz)).1)⟩
              obtain ⟨aB, cB, eB, _⟩ := hOB.shape
              subst eB
              have HOB := Hid.mk hOB
              obtain ⟨nB, HnB⟩ : ∃ n, Hid ((l ++ [x]).length = n) := ⟨_, ⟨rfl⟩⟩
              rw [HnB.out] at HOB ⊢
              clear hOB hGB hVB
              refine hK.out _ _ (HSS.out _ HCB.out) (fun hS => ?_)
              clear hK
              refine wpAnyH_take (i := 13) (v := .pointer (some ⟨p, 0, none⟩)) rfl (by kernel_rfl) (by kernel_rfl) (by kernel_rfl) (fun _ _ _ h => h) (Or.inl ⟨by kernel_rfl, fun wx hx => by go_simp⟩) hS ?_
              refine wpAnyH_take (i := 14) (v := .pointer (some ⟨p, 2, none⟩)) rfl (by kernel_rfl) (by kernel_rfl) (by kernel_rfl) (fun _ _ _ h => h) (Or.inl ⟨by kernel_rfl, fun wx hx => by go_simp⟩) hS ?_
              have hfz := Hfz.out WB HCB.out
              have hcv := HCv.out WB HCB.out
              refine wpAnyH_ready (rs := [15]) (by kernel_rfl) (by simp) (AllReadyH.cons rfl (fun Kc hK => ?_) AllReadyH.nil)
              go_simp
              refine hK.out _ _ (HSS2.out WB HCB.out _) (fun hS => ?_)
              clear hK
              refine wpAnyH_done (by kernel_rfl) ?_ _
              clear hS hfz hcv
              go_simp
              go_wp2_with fail
              go_roundg (nu - (k + 1))
              case measure => omega
              case rel => exact HRel.out WB HCB.out aB nB cB HOB.out
            · go_simp
              obtain ⟨o2, Ho2⟩ : ∃ e, Hid (W1.heap.size = e) := ⟨_, ⟨rfl⟩⟩
              obtain ⟨W2, HW2⟩ : ∃ w, Hid (W1.alloc (.cells #[.int .i64 x] 3) = w) := ⟨_, ⟨rfl⟩⟩
              have HB2 : Hid (Below W1.heap.size W1 W2) := ⟨by rw [← HW2.out]; exact (Below.refl _ W1).alloc (Nat.le_refl _) _⟩
              have HR2 : Hid (RdI W2 (.slice (some ⟨o2, 0, none⟩) 1 1) [x]) := ⟨by rw [← HW2.out, ← Ho2.out]; exact rdi_new W1 x⟩
              have Ho2l2 : Hid (o2 < W2.heap.size) := ⟨by rw [← HW2.out, ← Ho2.out]; simp⟩
              rw [HW2.out, Ho2.out]
              have HC2 : Hid (Chg [] wr W2) := ⟨HC1.out.trans (Chg.ofBelow HB2.out)⟩
              have HE2 : Hid (OwnI W2 wr.heap.size (.slice (some ⟨e1, 0, none⟩) 0 0) []) := ⟨own_far HE1.out (Chg.ofBelow (X := []) HB2.out) (by simp)⟩
              have Heo : Hid (e1 ≠ o2) := ⟨by have := Hel1.out; have := Ho2.out; omega⟩
              have Hel2 : Hid (e1 < W2.heap.size) := ⟨Nat.lt_of_lt_of_le Hel1.out HB2.out.size⟩
              refine hK.out _ _ (HSS.out _ HC2.out) (fun hS => ?_)
              clear hK
              refine wpAnyH_ready (rs := [6]) (by kernel_rfl) (by simp) (AllReadyH.cons rfl (fun Kc hK => ?_) AllReadyH.nil)
              refine rdy_of (by kernel_rfl) ?_
              refine op_appI (.tmp 19) (.tmp 23) rfl (by kernel_rfl) HE2.out (by kernel_rfl) (Hon.out W2 HC2.out) hln HC2.out.size ?_
              intro vA W3 hOA hGA hVA
              replace hGA : Chg (ob (.slice (some ⟨e1, 0, none⟩) 0 0)) W2 W3 := hGA
              replace hVA : vA.ownBlock = Value.ownBlock (.slice (some ⟨e1, 0, none⟩) 0 0) ∨ vA.ownBlock = some W2.heap.size := hVA
              rw [List.nil_append] at hOA
              have HC3 : Hid (Chg [] wr W3) := ⟨HC2.out.thenNew hGA (fun z hz => .inr (HE2.out.lt z (mem_ob.1 hz)).1)⟩
              have HO3 := Hid.mk hOA
              obtain ⟨aA, cA, eA, _⟩ := hOA.shape
              subst eA
              obtain ⟨nA, HnA⟩ : ∃ n, Hid (l.length = n) := ⟨_, ⟨rfl⟩⟩
              have HR3 : Hid (RdI W3 (.slice (some ⟨o2, 0, none⟩) 1 1) [x]) := ⟨Rd.far HR2.out hGA (fun _ z hz hm => by simp [ob, Value.ownBlock] at hz hm; have := Heo.out; omega)⟩
              have Ho2l3 : Hid (o2 < W3.heap.size) := ⟨Nat.lt_of_lt_of_le Ho2l2.out hGA.size⟩
              have Hao : Hid (∀ z ∈ ob (.slice aA l.length cA), z ≠ o2) := ⟨fun z hz => by
                rcases hVA with q | q
                · rw [mem_ob.1 hz] at q; simp [Value.ownBlock] at q; have := Heo.out; omega
                · rw [mem_ob.1 hz] at q; have := Ho2l2.out; simp at q; omega⟩
              rw [HnA.out] at HO3 Hao ⊢
              clear hOA hGA hVA
              refine hK.out _ _ (HSS.out _ HC3.out) (fun hS => ?_)
              clear hK
              refine wpAnyH_ready (rs := [12]) (by kernel_rfl) (by simp) (AllReadyH.cons rfl (fun Kc hK => ?_) AllReadyH.nil)
              refine rdy_of (by kernel_rfl) ?_
              refine op_appI (.tmp 24) (.tmp 29) rfl (by kernel_rfl) HO3.out (by kernel_rfl) HR3.out hln1 HC3.out.size ?_
              intro vB WB hOB hGB hVB
              have HCB : Hid (Chg [] wr WB) := ⟨HC3.out.thenNew hGB (fun z hz => .inr (HO3.out.lt z (mem_ob.1 hz)).1)⟩
              obtain ⟨aB, cB, eB, _⟩ := hOB.shape
              subst eB
              have HOB := Hid.mk hOB
              obtain ⟨nB, HnB⟩ : ∃ n, Hid ((l ++ [x]).length = n) := ⟨_, ⟨rfl⟩⟩
              rw [HnB.out] at HOB ⊢
              clear hOB hGB hVB
              refine hK.out _ _ (HSS.out _ HCB.out) (fun hS => ?_)
              clear hK
              refine wpAnyH_take (i := 13) (v := .pointer (some ⟨p, 0, none⟩)) rfl (by kernel_rfl) (by kernel_rfl) (by kernel_rfl) (fun _ _ _ h => h) (Or.inl ⟨by kernel_rfl, fun wx hx => by go_simp⟩) hS ?_
              refine wpAnyH_take (i := 14) (v := .pointer (some ⟨p, 2, none⟩)) rfl (by kernel_rfl) (by kernel_rfl) (by kernel_rfl) (fun _ _ _ h => h) (Or.inl ⟨by kernel_rfl, fun wx hx => by go_simp⟩) hS ?_
              have hfz := Hfz.out WB HCB.out
              have hcv := HCv.out WB HCB.out
              refine wpAnyH_ready (rs := [15]) (by kernel_rfl) (by simp) (AllReadyH.cons rfl (fun Kc hK => ?_) AllReadyH.nil)
              go_simp
              refine hK.out _ _ (HSS2.out WB HCB.out _) (fun hS => ?_)
              clear hK
              refine wpAnyH_done (by kernel_rfl) ?_ _
              clear hS hfz hcv
              go_simp
              go_wp2_with fail
              go_roundg (nu - (k + 1))
              case measure => omega
              case rel => exact HRel.out WB HCB.out aB nB cB HOB.out
          · go_simp
            obtain ⟨o2, Ho2⟩ : ∃ e, Hid (W1.heap.size = e) := ⟨_, ⟨rfl⟩⟩
            obtain ⟨W2, HW2⟩ : ∃ w, Hid (W1.alloc (.cells #[.int .i64 x] 3) = w) := ⟨_, ⟨rfl⟩⟩
            have HB2 : Hid (Below W1.heap.size W1 W2) := ⟨by rw [← HW2.out]; exact (Below.refl _ W1).alloc (Nat.le_refl _) _⟩
            have HR2 : Hid (RdI W2 (.slice (some ⟨o2, 0, none⟩) 1 1) [x]) := ⟨by rw [← HW2.out, ← Ho2.out]; exact rdi_new W1 x⟩
            have Ho2l2 : Hid (o2 < W2.heap.size) := ⟨by rw [← HW2.out, ← Ho2.out]; simp⟩
            rw [HW2.out, Ho2.out]
            have HC2 : Hid (Chg [] wr W2) := ⟨HC1.out.trans (Chg.ofBelow HB2.out)⟩
            have HE2 : Hid (OwnI W2 wr.heap.size (.slice (some ⟨e1, 0, none⟩) 0 0) []) := ⟨own_far HE1.out (Chg.ofBelow (X := []) HB2.out) (by simp)⟩
            have Heo : Hid (e1 ≠ o2) := ⟨by have := Hel1.out; have := Ho2.out; omega⟩
            have Hel2 : Hid (e1 < W2.heap.size) := ⟨Nat.lt_of_lt_of_le Hel1.out HB2.out.size⟩
            refine hK.out _ _ (HSS.out _ HC2.out) (fun hS => ?_)
            clear hK
            refine wpAnyH_ready (rs := [5]) (by kernel_rfl) (by simp) (AllReadyH.cons rfl (fun Kc hK => ?_) AllReadyH.nil)
            have hcv := HCv.out W2 HC2.out
            go_simp
            clear hcv
            refine hK.out _ _ (HSS.out _ HC2.out) (fun hS => ?_)
            clear hK
            refine wpAnyH_ready (rs := [6]) (by kernel_rfl) (by simp) (AllReadyH.cons rfl (fun Kc hK => ?_) AllReadyH.nil)
            refine rdy_of (by kernel_rfl) ?_
            refine op_appI (.tmp 19) (.tmp 23) rfl (by kernel_rfl) HE2.out (by kernel_rfl) (Hon.out W2 HC2.out) hln HC2.out.size ?_
            intro vA W3 hOA hGA hVA
            replace hGA : Chg (ob (.slice (some ⟨e1, 0, none⟩) 0 0)) W2 W3 := hGA
            replace hVA : vA.ownBlock = Value.ownBlock (.slice (some ⟨e1, 0, none⟩) 0 0) ∨ vA.ownBlock = some W2.heap.size := hVA
            rw [List.nil_append] at hOA
            have HC3 : Hid (Chg [] wr W3) := ⟨HC2.out.thenNew hGA (fun z hz => .inr (HE2.out.lt z (mem_ob.1 hz)).1)⟩
            have HO3 := Hid.mk hOA
            obtain ⟨aA, cA, eA, _⟩ := hOA.shape
            subst eA
            obtain ⟨nA, HnA⟩ : ∃ n, Hid (l.length = n) := ⟨_, ⟨rfl⟩⟩
            have HR3 : Hid (RdI W3 (.slice (some ⟨o2, 0, none⟩) 1 1) [x]) := ⟨Rd.far HR2.out hGA (fun _ z hz hm => by simp [ob, Value.ownBlock] at hz hm; have := Heo.out; omega)⟩
            have Ho2l3 : Hid (o2 < W3.heap.size) := ⟨Nat.lt_of_lt_of_le Ho2l2.out hGA.size⟩
            have Hao : Hid (∀ z ∈ ob (.slice aA l.length cA), z ≠ o2) := ⟨fun z hz => by
              rcases hVA with q | q
              · rw [mem_ob.1 hz] at q; simp [Value.ownBlock] at q; have := Heo.out; omega
              · rw [mem_ob.1 hz] at q; have := Ho2l2.out; simp at q; omega⟩
            rw [HnA.out] at HO3 Hao ⊢
            clear hOA hGA hVA
            refine hK.out _ _ (HSS.out _ HC3.out) (fun hS => ?_)
            clear hK
            refine wpAnyH_ready (rs := [12]) (by kernel_rfl) (by simp) (AllReadyH.cons rfl (fun Kc hK => ?_) AllReadyH.nil)
            refine rdy_of (by kernel_rfl) ?_
            refine op_appI (.tmp 24) (.tmp 29) rfl (by kernel_rfl) HO3.out (by kernel_rfl) HR3.out hln1 HC3.out.size ?_
            intro vB WB hOB hGB hVB
            have HCB : Hid (Chg [] wr WB) := ⟨HC3.out.thenNew hGB (fun z hz => .inr (HO3.out.lt z (mem_ob.1 hz)).1)⟩
            obtain ⟨aB, cB, eB, _⟩ := hOB.shape
            subst eB
            have HOB := Hid.mk hOB
            obtain ⟨nB, HnB⟩ : ∃ n, Hid ((l ++ [x]).length = n) := ⟨_, ⟨rfl⟩⟩
            rw [HnB.out] at HOB ⊢
            clear hOB hGB hVB
            refine hK.out _ _ (HSS.out _ HCB.out) (fun hS => ?_)
            clear hK
            refine wpAnyH_take (i := 13) (v := .pointer (some ⟨p, 0, none⟩)) rfl (by kernel_rfl) (by kernel_rfl) (by kernel_rfl) (fun _ _ _ h => h) (Or.inl ⟨by kernel_rfl, fun wx hx => by go_simp⟩) hS ?_
            refine wpAnyH_take (i := 14) (v := .pointer (some ⟨p, 2, none⟩)) rfl (by kernel_rfl) (by kernel_rfl) (by kernel_rfl) (fun _ _ _ h => h) (Or.inl ⟨by kernel_rfl, fun wx hx => by go_simp⟩) hS ?_
            have hfz := Hfz.out WB HCB.out
            have hcv := HCv.out WB HCB.out
            refine wpAnyH_ready (rs := [15]) (by kernel_rfl) (by simp) (AllReadyH.cons rfl (fun Kc hK => ?_) AllReadyH.nil)
            go_simp
            refine hK.out _ _ (HSS2.out WB HCB.out _) (fun hS => ?_)
            clear hK
            refine wpAnyH_done (by kernel_rfl) ?_ _
            clear hS hfz hcv
            go_simp
            go_wp2_with fail
            go_roundg (nu - (k + 1))
            case measure => omega
            case rel => exact HRel.out WB HCB.out aB nB cB HOB.out
        · have hcv := HCv.out W0 HC0.out
          go_simp
          clear hcv
          refine hK.out _ _ (HSS.out _ HC0.out) (fun hS => ?_)
          clear hK
          refine wpAnyH_ready (rs := [1, 11]) (by kernel_rfl) (by simp) (AllReadyH.cons rfl (fun Kc hK => ?_) (AllReadyH.cons rfl (fun Kc hK => ?_) AllReadyH.nil))
          · go_simp
            obtain ⟨e1, He1⟩ : ∃ e, Hid (W0.heap.size = e) := ⟨_, ⟨rfl⟩⟩
            obtain ⟨W1, HW1⟩ : ∃ w, Hid (W0.alloc (.cells #[] 3) = w) := ⟨_, ⟨rfl⟩⟩
            have HB1 : Hid (Below W0.heap.size W0 W1) := ⟨by rw [← HW1.out]; exact (Below.refl _ W0).alloc (Nat.le_refl _) _⟩
            have Hel : Hid (wr.heap.size ≤ e1) := ⟨by rw [← He1.out]; exact HC0.out.size⟩
            have HE1 : Hid (OwnI W1 wr.heap.size (.slice (some ⟨e1, 0, none⟩) 0 0) []) := ⟨by rw [← HW1.out, ← He1.out]; exact own_base (owni_none W0) (fun g hg => by simp [Value.ownBlock] at hg; subst hg; exact HC0.out.size)⟩
            rw [HW1.out, He1.out]
            have HC1 : Hid (Chg [] wr W1) := ⟨HC0.out.trans (Chg.ofBelow HB1.out)⟩
            have Hel1 : Hid (e1 < W1.heap.size) := ⟨by rw [← HW1.out, ← He1.out]; simp⟩
            refine hK.out _ _ (HSS.out _ HC1.out) (fun hS => ?_)
            clear hK
            refine wpAnyH_ready (rs := [6, 11]) (by kernel_rfl) (by simp) (AllReadyH.cons rfl (fun Kc hK => ?_) (AllReadyH.cons rfl (fun Kc hK => ?_) AllReadyH.nil))
            · refine rdy_of (by kernel_rfl) ?_
              refine op_appI (.tmp 19) (.tmp 23) rfl (by kernel_rfl) HE1.out (by kernel_rfl) (Hon.out W1 HC1.out) hln HC1.out.size ?_
              intro vA W2 hOA hGA hVA
              replace hGA : Chg (ob (.slice (some ⟨e1, 0, none⟩) 0 0)) W1 W2 := hGA
              replace hVA : vA.ownBlock = Value.ownBlock (.slice (some ⟨e1, 0, none⟩) 0 0) ∨ vA.ownBlock = some W1.heap.size := hVA
              rw [List.nil_append] at hOA
              have HC2 : Hid (Chg [] wr W2) := ⟨HC1.out.thenNew hGA (fun z hz => .inr (HE1.out.lt z (mem_ob.1 hz)).1)⟩
              have HO2 := Hid.mk hOA
              obtain ⟨aA, cA, eA, _⟩ := hOA.shape
              subst eA
              obtain ⟨nA, HnA⟩ : ∃ n, Hid (l.length = n) := ⟨_, ⟨rfl⟩⟩
              rw [HnA.out] at HO2 ⊢
              clear hOA hGA hVA
              refine hK.out _ _ (HSS.out _ HC2.out) (fun hS => ?_)
              clear hK
              refine wpAnyH_ready (rs := [11]) (by kernel_rfl) (by simp) (AllReadyH.cons rfl (fun Kc hK => ?_) AllReadyH.nil)
              go_simp
              obtain ⟨o2, Ho2⟩ : ∃ e, Hid (W2.heap.size = e) := ⟨_, ⟨rfl⟩⟩
              obtain ⟨W3, HW3⟩ : ∃ w, Hid (W2.alloc (.cells #[.int .i64 x] 3) = w) := ⟨_, ⟨rfl⟩⟩
              have HB3 : Hid (Below W2.heap.size W2 W3) := ⟨by rw [← HW3.out]; exact (Below.refl _ W2).alloc (Nat.le_refl _) _⟩
              have HR3 : Hid (RdI W3 (.slice (some ⟨o2, 0, none⟩) 1 1) [x]) := ⟨by rw [← HW3.out, ← Ho2.out]; exact rdi_new W2 x⟩
              have Ho2l3 : Hid (o2 < W3.heap.size) := ⟨by rw [← HW3.out, ← Ho2.out]; simp⟩
              rw [HW3.out, Ho2.out]
              have HC3 : Hid (Chg [] wr W3) := ⟨HC2.out.trans (Chg.ofBelow HB3.out)⟩
              have HO3 : Hid (OwnI W3 wr.heap.size (.slice aA nA cA) l) := ⟨own_far HO2.out (Chg.ofBelow (X := []) HB3.out) (by simp)⟩
              have Hao : Hid (∀ z ∈ ob (.slice aA nA cA), z ≠ o2) := ⟨fun z hz => by have := (HO2.out.lt z (mem_ob.1 hz)).2; have := Ho2.out; omega⟩
              refine hK.out _ _ (HSS.out _ HC3.out) (fun hS => ?_)
              clear hK
              refine wpAnyH_ready (rs := [12]) (by kernel_rfl) (by simp) (AllReadyH.cons rfl (fun Kc hK => ?_) AllReadyH.nil)
              refine rdy_of (by kernel_rfl) ?_
              refine op_appI (.tmp 24) (.tmp 29) rfl (by kernel_rfl) HO3.out (by kernel_rfl) HR3.out hln1 HC3.out.size ?_
              intro vB WB hOB hGB hVB
              have HCB : Hid (Chg [] wr WB) := ⟨HC3.out.thenNew hGB (fun z hz => .inr (HO3.out.lt z (mem_ob.1 hz)).1)⟩
              obtain ⟨aB, cB, eB, _⟩ := hOB.shape
              subst eB
              have HOB := Hid.mk hOB
              obtain ⟨nB, HnB⟩ : ∃ n, Hid ((l ++ [x]).length = n) := ⟨_, ⟨rfl⟩⟩
              rw [HnB.out] at HOB ⊢
              clear hOB hGB hVB
              refine hK.out _ _ (HSS.out _ HCB.out) (fun hS => ?_)
              clear hK
              refine wpAnyH_take (i := 13) (v := .pointer (some ⟨p, 0, none⟩)) rfl (by kernel_rfl) (by kernel_rfl) (by kernel_rfl) (fun _ _ _ h => h) (Or.inl ⟨by kernel_rfl, fun wx hx => by go_simp⟩) hS ?_
              refine wpAnyH_take (i := 14) (v := .pointer (some ⟨p, 2, none⟩)) rfl (by kernel_rfl) (by kernel_rfl) (by kernel_rfl) (fun _ _ _ h => h) (Or.inl ⟨by kernel_rfl, fun wx hx => by go_simp⟩) hS ?_
              have hfz := Hfz.out WB HCB.out
              have hcv := HCv.out WB HCB.out
              refine wpAnyH_ready (rs := [15]) (by kernel_rfl) (by simp) (AllReadyH.cons rfl (fun Kc hK => ?_) AllReadyH.nil)
              go_simp
              refine hK.out _ _ (HSS2.out WB HCB.out _) (fun hS => ?_)
              clear hK
              refine wpAnyH_done (by kernel_rfl) ?_ _
              clear hS hfz hcv
              go_simp
              go_wp2_with fail
              go_roundg (nu - (k + 1))
              case measure => omega
              case rel => exact HRel.out WB HCB.out aB nB cB HOB.out
            · go_simp
              obtain ⟨o2, Ho2⟩ : ∃ e, Hid (W1.heap.size = e) := ⟨_, ⟨rfl⟩⟩
              obtain ⟨W2, HW2⟩ : ∃ w, Hid (W1.alloc (.cells #[.int .i64 x] 3) = w) := ⟨_, ⟨rfl⟩⟩
              have HB2 : Hid (Below W1.heap.size W1 W2) := ⟨by rw [← HW2.out]; exact (Below.refl _ W1).alloc (Nat.le_refl _) _⟩
              have HR2 : Hid (RdI W2 (.slice (some ⟨o2, 0, none⟩) 1 1) [x]) := ⟨by rw [← HW2.out, ← Ho2.out]; exact rdi_new W1 x⟩
              have Ho2l2 : Hid (o2 < W2.heap.size) := ⟨by rw [← HW2.out, ← Ho2.out]; simp⟩
              rw [HW2.out, Ho2.out]
              have HC2 : Hid (Chg [] wr W2) := ⟨HC1.out.trans (Chg.ofBelow HB2.out)⟩
              have HE2 : Hid (OwnI W2 wr.heap.size (.slice (some ⟨e1, 0, none⟩) 0 0) []) := ⟨own_far HE1.out (Chg.ofBelow (X := []) HB2.out) (by simp)⟩
              have Heo : Hid (e1 ≠ o2) := ⟨by have := Hel1.out; have := Ho2.out; omega⟩
              have Hel2 : Hid (e1 < W2.heap.size) := ⟨Nat.lt_of_lt_of_le Hel1.out HB2.out.size⟩
              refine hK.out _ _ (HSS.out _ HC2.out) (fun hS => ?_)
              clear hK
              refine wpAnyH_ready (rs := [6]) (by kernel_rfl) (by simp) (AllReadyH.cons rfl (fun Kc hK => ?_) AllReadyH.nil)
              refine rdy_of (by kernel_rfl) ?_
              refine op_appI (.tmp 19) (.tmp 23) rfl (by kernel_rfl) HE2.out (by kernel_rfl) (Hon.out W2 HC2.out) hln HC2.out.size ?_
              intro vA W3 hOA hGA hVA
              replace hGA : Chg (ob (.slice (some ⟨e1, 0, none⟩) 0 0)) W2 W3 := hGA
              replace hVA : vA.ownBlock = Value.ownBlock (.slice (some ⟨e1, 0, none⟩) 0 0) ∨ vA.ownBlock = some W2.heap.size := hVA
              rw [List.nil_append] at hOA
              have HC3 : Hid (Chg [] wr W3) := ⟨HC2.out.thenNew hGA (fun z hz => .inr (HE2.out.lt z (mem_ob.1 hz)).1)⟩
              have HO3 := Hid.mk hOA
              obtain ⟨aA, cA, eA, _⟩ := hOA.shape
              subst eA
              obtain ⟨nA, HnA⟩ : ∃ n, Hid (l.length = n) := ⟨_, ⟨rfl⟩⟩
              have HR3 : Hid (RdI W3 (.slice (some ⟨o2, 0, none⟩) 1 1) [x]) := ⟨Rd.far HR2.out hGA (fun _ z hz hm => by simp [ob, Value.ownBlock] at hz hm; have := Heo.out; omega)⟩
              have Ho2l3 : Hid (o2 < W3.heap.size) := ⟨Nat.lt_of_lt_of_le Ho2l2.out hGA.size⟩
              have Hao : Hid (∀ z ∈ ob (.slice aA l.length cA), z ≠ o2) := ⟨fun z hz => by
                rcases hVA with q | q
                · rw [mem_ob.1 hz] at q; simp [Value.ownBlock] at q; have := Heo.out; omega
                · rw [mem_ob.1 hz] at q; have := Ho2l2.out; simp at q; omega⟩
              rw [HnA.out] at HO3 Hao ⊢
              clear hOA hGA hVA
              refine hK.out _ _ (HSS.out _ HC3.out) (fun hS => ?_)
              clear hK
              refine wpAnyH_ready (rs := [12]) (by kernel_rfl) (by simp) (AllReadyH.cons rfl (fun Kc hK => ?_) AllReadyH.nil)
              refine rdy_of (by kernel_rfl) ?_
              refine op_appI (.tmp 24) (.tmp 29) rfl (by kernel_rfl) HO3.out (by kernel_rfl) HR3.out hln1 HC3.out.size ?_
              intro vB WB hOB hGB hVB
              have HCB : Hid (Chg [] wr WB) := ⟨HC3.out.thenNew hGB (fun z hz => .inr (HO3.out.lt z (mem_ob.1 hz)).1)⟩
              obtain ⟨aB, cB, eB, _⟩ := hOB.shape
              subst eB
              have HOB := Hid.mk hOB
              obtain ⟨nB, HnB⟩ : ∃ n, Hid ((l ++ [x]).length = n) := ⟨_, ⟨rfl⟩⟩
              rw [HnB.out] at HOB ⊢
              clear hOB hGB hVB
              refine hK.out _ _ (HSS.out _ HCB.out) (fun hS => ?_)
              clear hK
              refine wpAnyH_take (i := 13) (v := .pointer (some ⟨p, 0, none⟩)) rfl (by kernel_rfl) (by kernel_rfl) (by kernel_rfl) (fun _ _ _ h => h) (Or.inl ⟨by kernel_rfl, fun wx hx => by go_simp⟩) hS ?_
              refine wpAnyH_take (i := 14) (v := .pointer (some ⟨p, 2, none⟩)) rfl (by kernel_rfl) (by kernel_rfl) (by kernel_rfl) (fun _ _ _ h => h) (Or.inl ⟨by kernel_rfl, fun wx hx => by go_simp⟩) hS ?_
              have hfz := Hfz.out WB HCB.out
              have hcv := HCv.out WB HCB.out
              refine wpAnyH_ready (rs := [15]) (by kernel_rfl) (by simp) (AllReadyH.cons rfl (fun Kc hK => ?_) AllReadyH.nil)
              go_simp
              refine hK.out _ _ (HSS2.out WB HCB.out _) (fun hS => ?_)
              clear hK
              refine wpAnyH_done (by kernel_rfl) ?_ _
              clear hS hfz hcv
              go_simp
              go_wp2_with fail
              go_roundg (nu - (k + 1))
              case measure => omega
              case rel => exact HRel.out WB HCB.out aB nB cB HOB.out
          · go_simp
            obtain ⟨o2, Ho2⟩ : ∃ e, Hid (W0.heap.size = e) := ⟨_, ⟨rfl⟩⟩
            obtain ⟨W1, HW1⟩ : ∃ w, Hid (W0.alloc (.cells #[.int .i64 x] 3) = w) := ⟨_, ⟨rfl⟩⟩
            have HB1 : Hid (Below W0.heap.size W0 W1) := ⟨by rw [← HW1.out]; exact (Below.refl _ W0).alloc (Nat.le_refl _) _⟩
            have HR1 : Hid (RdI W1 (.slice (some ⟨o2, 0, none⟩) 1 1) [x]) := ⟨by rw [← HW1.out, ← Ho2.out]; exact rdi_new W0 x⟩
            have Ho2l1 : Hid (o2 < W1.heap.size) := ⟨by rw [← HW1.out, ← Ho2.out]; simp⟩
            rw [HW1.out, Ho2.out]
            have HC1 : Hid (Chg [] wr W1) := ⟨HC0.out.trans (Chg.ofBelow HB1.out)⟩
            refine hK.out _ _ (HSS.out _ HC1.out) (fun hS => ?_)
            clear hK
            refine wpAnyH_ready (rs := [1]) (by kernel_rfl) (by simp) (AllReadyH.cons rfl (fun Kc hK => ?_) AllReadyH.nil)
            go_simp
            obtain ⟨e1, He1⟩ : ∃ e, Hid (W1.heap.size = e) := ⟨_, ⟨rfl⟩⟩
            obtain ⟨W2, HW2⟩ : ∃ w, Hid (W1.alloc (.cells #[] 3) = w) := ⟨_, ⟨rfl⟩⟩
            have HB2 : Hid (Below W1.heap.size W1 W2) := ⟨by rw [← HW2.out]; exact (Below.refl _ W1).alloc (Nat.le_refl _) _⟩
            have Hel : Hid (wr.heap.size ≤ e1) := ⟨by rw [← He1.out]; exact HC1.out.size⟩
            have HE2 : Hid (OwnI W2 wr.heap.size (.slice (some ⟨e1, 0, none⟩) 0 0) []) := ⟨by rw [← HW2.out, ← He1.out]; exact own_base (owni_none W1) (fun g hg => by simp [Value.ownBlock] at hg; subst hg; exact HC1.out.size)⟩
            rw [HW2.out, He1.out]
            have HC2 : Hid (Chg [] wr W2) := ⟨HC1.out.trans (Chg.ofBelow HB2.out)⟩
            have HR2 : Hid (RdI W2 (.slice (some ⟨o2, 0, none⟩) 1 1) [x]) := ⟨Rd.far HR1.out (Chg.ofBelow (X := []) HB2.out) (by simp)⟩
            have Heo : Hid (e1 ≠ o2) := ⟨by rw [← He1.out]; have := Ho2l1.out; omega⟩
            have Ho2l2 : Hid (o2 < W2.heap.size) := ⟨Nat.lt_of_lt_of_le Ho2l1.out HB2.out.size⟩
            refine hK.out _ _ (HSS.out _ HC2.out) (fun hS => ?_)
            clear hK
            refine wpAnyH_ready (rs := [6]) (by kernel_rfl) (by simp) (AllReadyH.cons rfl (fun Kc hK => ?_) AllReadyH.nil)
            refine rdy_of (by kernel_rfl) ?_
            refine op_appI (.tmp 19) (.tmp 23) rfl (by kernel_rfl) HE2.out (by kernel_rfl) (Hon.out W2 HC2.out) hln HC2.out.size ?_
            intro vA W3 hOA hGA hVA
            replace hGA : Chg (ob (.slice (some ⟨e1, 0, none⟩) 0 0)) W2 W3 := hGA
            replace hVA : vA.ownBlock = Value.ownBlock (.slice (some ⟨e1, 0, none⟩) 0 0) ∨ vA.ownBlock = some W2.heap.size := hVA
            rw [List.nil_append] at hOA
            have HC3 : Hid (Chg [] wr W3) := ⟨HC2.out.thenNew hGA (fun z hz => .inr (HE2.out.lt z (mem_ob.1 hz)).1)⟩
            have HO3 := Hid.mk hOA
            obtain ⟨aA, cA, eA, _⟩ := hOA.shape
            subst eA
            obtain ⟨nA, HnA⟩ : ∃ n, Hid (l.length = n) := ⟨_, ⟨rfl⟩⟩
            have HR3 : Hid (RdI W3 (.slice (some ⟨o2, 0, none⟩) 1 1) [x]) := ⟨Rd.far HR2.out hGA (fun _ z hz hm => by simp [ob, Value.ownBlock] at hz hm; have := Heo.out; omega)⟩
            have Ho2l3 : Hid (o2 < W3.heap.size) := ⟨Nat.lt_of_lt_of_le Ho2l2.out hGA.size⟩
            have Hao : Hid (∀ z ∈ ob (.slice aA l.length cA), z ≠ o2) := ⟨fun z hz => by
              rcases hVA with q | q
              · rw [mem_ob.1 hz] at q; simp [Value.ownBlock] at q; have := Heo.out; omega
              · rw [mem_ob.1 hz] at q; have := Ho2l2.out; simp at q; omega⟩
            rw [HnA.out] at HO3 Hao ⊢
            clear hOA hGA hVA
            refine hK.out _ _ (HSS.out _ HC3.out) (fun hS => ?_)
            clear hK
            refine wpAnyH_ready (rs := [12]) (by kernel_rfl) (by simp) (AllReadyH.cons rfl (fun Kc hK => ?_) AllReadyH.nil)
            refine rdy_of (by kernel_rfl) ?_
            refine op_appI (.tmp 24) (.tmp 29) rfl (by kernel_rfl) HO3.out (by kernel_rfl) HR3.out hln1 HC3.out.size ?_
            intro vB WB hOB hGB hVB
            have HCB : Hid (Chg [] wr WB) := ⟨HC3.out.thenNew hGB (fun z hz => .inr (HO3.out.lt z (mem_ob.1 hz)).1)⟩
            obtain ⟨aB, cB, eB, _⟩ := hOB.shape
            subst eB
            have HOB := Hid.mk hOB
            obtain ⟨nB, HnB⟩ : ∃ n, Hid ((l ++ [x]).length = n) := ⟨_, ⟨rfl⟩⟩
            rw [HnB.out] at HOB ⊢
            clear hOB hGB hVB
            refine hK.out _ _ (HSS.out _ HCB.out) (fun hS => ?_)
            clear hK
            refine wpAnyH_take (i := 13) (v := .pointer (some ⟨p, 0, none⟩)) rfl (by kernel_rfl) (by kernel_rfl) (by kernel_rfl) (fun _ _ _ h => h) (Or.inl ⟨by kernel_rfl, fun wx hx => by go_simp⟩) hS ?_
            refine wpAnyH_take (i := 14) (v := .pointer (some ⟨p, 2, none⟩)) rfl (by kernel_rfl) (by kernel_rfl) (by kernel_rfl) (fun _ _ _ h => h) (Or.inl ⟨by kernel_rfl, fun wx hx => by go_simp⟩) hS ?_
            have hfz := Hfz.out WB HCB.out
            have hcv := HCv.out WB HCB.out
            refine wpAnyH_ready (rs := [15]) (by kernel_rfl) (by simp) (AllReadyH.cons rfl (fun Kc hK => ?_) AllReadyH.nil)
            go_simp
            refine hK.out _ _ (HSS2.out WB HCB.out _) (fun hS => ?_)
            clear hK
            refine wpAnyH_done (by kernel_rfl) ?_ _
            clear hS hfz hcv
            go_simp
            go_wp2_with fail
            go_roundg (nu - (k + 1))
            case measure => omega
            case rel => exact HRel.out WB HCB.out aB nB cB HOB.out
        · go_simp
          obtain ⟨o2, Ho2⟩ : ∃ e, Hid (W0.heap.size = e) := ⟨_, ⟨rfl⟩⟩
          obtain ⟨W1, HW1⟩ : ∃ w, Hid (W0.alloc (.cells #[.int .i64 x] 3) = w) := ⟨_, ⟨rfl⟩⟩
          have HB1 : Hid (Below W0.heap.size W0 W1) := ⟨by rw [← HW1.out]; exact (Below.refl _ W0).alloc (Nat.le_refl _) _⟩
          have HR1 : Hid (RdI W1 (.slice (some ⟨o2, 0, none⟩) 1 1) [x]) := ⟨by rw [← HW1.out, ← Ho2.out]; exact rdi_new W0 x⟩
          have Ho2l1 : Hid (o2 < W1.heap.size) := ⟨by rw [← HW1.out, ← Ho2.out]; simp⟩
          rw [HW1.out, Ho2.out]
          have HC1 : Hid (Chg [] wr W1) := ⟨HC0.out.trans (Chg.ofBelow HB1.out)⟩
          refine hK.out _ _ (HSS.out _ HC1.out) (fun hS => ?_)
          clear hK
          refine wpAnyH_ready (rs := [1, 5]) (by kernel_rfl) (by simp) (AllReadyH.cons rfl (fun Kc hK => ?_) (AllReadyH.cons rfl (fun Kc hK => ?_) AllReadyH.nil))
          · go_simp
            obtain ⟨e1, He1⟩ : ∃ e, Hid (W1.heap.size = e) := ⟨_, ⟨rfl⟩⟩
            obtain ⟨W2, HW2⟩ : ∃ w, Hid (W1.alloc (.cells #[] 3) = w) := ⟨_, ⟨rfl⟩⟩
            have HB2 : Hid (Below W1.heap.size W1 W2) := ⟨by rw [← HW2.out]; exact (Below.refl _ W1).alloc (Nat.le_refl _) _⟩
            have Hel : Hid (wr.heap.size ≤ e1) := ⟨by rw [← He1.out]; exact HC1.out.size⟩
            have HE2 : Hid (OwnI W2 wr.heap.size (.slice (some ⟨e1, 0, none⟩) 0 0) []) := ⟨by rw [← HW2.out, ← He1.out]; exact own_base (owni_none W1) (fun g hg => by simp [Value.ownBlock] at hg; subst hg; exact HC1.out.size)⟩
            rw [HW2.out, He1.out]
            have HC2 : Hid (Chg [] wr W2) := ⟨HC1.out.trans (Chg.ofBelow HB2.out)⟩
            have HR2 : Hid (RdI W2 (.slice (some ⟨o2, 0, none⟩) 1 1) [x]) := ⟨Rd.far HR1.out (Chg.ofBelow (X := []) HB2.out) (by simp)⟩
            have Heo : Hid (e1 ≠ o2) := ⟨by rw [← He1.out]; have := Ho2l1.out; omega⟩
            have Ho2l2 : Hid (o2 < W2.heap.size) := ⟨Nat.lt_of_lt_of_le Ho2l1.out HB2.out.size⟩
            refine hK.out _ _ (HSS.out _ HC2.out) (fun hS => ?_)
            clear hK
            refine wpAnyH_ready (rs := [5]) (by kernel_rfl) (by simp) (AllReadyH.cons rfl (fun Kc hK => ?_) AllReadyH.nil)
            have hcv := HCv.out W2 HC2.out
            go_simp
            clear hcv
            refine hK.out _ _ (HSS.out _ HC2.out) (fun hS => ?_)
            clear hK
            refine wpAnyH_ready (rs := [6]) (by kernel_rfl) (by simp) (AllReadyH.cons rfl (fun Kc hK => ?_) AllReadyH.nil)
            refine rdy_of (by kernel_rfl) ?_
            refine op_appI (.tmp 19) (.tmp 23) rfl (by kernel_rfl) HE2.out (by kernel_rfl) (Hon.out W2 HC2.out) hln HC2.out.size ?_
            intro vA W3 hOA hGA hVA
            replace hGA : Chg (ob (.slice (some ⟨e1, 0, none⟩) 0 0)) W2 W3 := hGA
            replace hVA : vA.ownBlock = Value.ownBlock (.slice (some ⟨e1, 0, none⟩) 0 0) ∨ vA.ownBlock = some W2.heap.size := hVA
            rw [List.nil_append] at hOA
            have HC3 : Hid (Chg [] wr W3) := ⟨HC2.out.thenNew hGA (fun z hz => .inr (HE2.out.lt z (mem_ob.1 hz)).1)⟩
            have HO3 := Hid.mk hOA
            obtain ⟨aA, cA, eA, _⟩ := hOA.shape
            subst eA
            obtain ⟨nA, HnA⟩ : ∃ n, Hid (l.length = n) := ⟨_, ⟨rfl⟩⟩
            have HR3 : Hid (RdI W3 (.slice (some ⟨o2, 0, none⟩) 1 1) [x]) := ⟨Rd.far HR2.out hGA (fun _ z hz hm => by simp [ob, Value.ownBlock] at hz hm; have := Heo.out; omega)⟩
            have Ho2l3 : Hid (o2 < W3.heap.size) := ⟨Nat.lt_of_lt_of_le Ho2l2.out hGA.size⟩
            have Hao : Hid (∀ z ∈ ob (.slice aA l.length cA), z ≠ o2) := ⟨fun z hz => by
              rcases hVA with q | q
              · rw [mem_ob.1 hz] at q; simp [Value.ownBlock] at q; have := Heo.out; omega
              · rw [mem_ob.1 hz] at q; have := Ho2l2.out; simp at q; omega⟩
            rw [HnA.out] at HO3 Hao ⊢
            clear hOA hGA hVA
            refine hK.out _ _ (HSS.out _ HC3.out) (fun hS => ?_)
            clear hK
            refine wpAnyH_ready (rs := [12]) (by kernel_rfl) (by simp) (AllReadyH.cons rfl (fun Kc hK => ?_) AllReadyH.nil)
            refine rdy_of (by kernel_rfl) ?_
            refine op_appI (.tmp 24) (.tmp 29) rfl (by kernel_rfl) HO3.out (by kernel_rfl) HR3.out hln1 HC3.out.size ?_
            intro vB WB hOB hGB hVB
            have HCB : Hid (Chg [] wr WB) := ⟨HC3.out.thenNew hGB (fun z hz => .inr (HO3.out.lt z (mem_ob.1 hz)).1)⟩
            obtain ⟨aB, cB, eB, _⟩ := hOB.shape
            subst eB
            have HOB := Hid.mk hOB
            obtain ⟨nB, HnB⟩ : ∃ n, Hid ((l ++ [x]).length = n) := ⟨_, ⟨rfl⟩⟩
            rw [HnB.out] at HOB ⊢
            clear hOB hGB hVB
            refine hK.out _ _ (HSS.out _ HCB.out) (fun hS => ?_)
            clear hK
            refine wpAnyH_take (i := 13) (v := .pointer (some ⟨p, 0, none⟩)) rfl (by kernel_rfl) (by kernel_rfl) (by kernel_rfl) (fun _ _ _ h => h) (Or.inl ⟨by kernel_rfl, fun wx hx => by go_simp⟩) hS ?_
            refine wpAnyH_take (i := 14) (v := .pointer (some ⟨p, 2, none⟩)) rfl (by kernel_rfl) (by kernel_rfl) (by kernel_rfl) (fun _ _ _ h => h) (Or.inl ⟨by kernel_rfl, fun wx hx => by go_simp⟩) hS ?_
            have hfz := Hfz.out WB HCB.out
            have hcv := HCv.out WB HCB.out
            refine wpAnyH_ready (rs := [15]) (by kernel_rfl) (by simp) (AllReadyH.cons rfl (fun Kc hK => ?_) AllReadyH.nil)
            go_simp
            refine hK.out _ _ (HSS2.out WB HCB.out _) (fun hS => ?_)
            clear hK
            refine wpAnyH_done (by kernel_rfl) ?_ _
            clear hS hfz hcv
            go_simp
            go_wp2_with fail
            go_roundg (nu - (k + 1))
            case measure => omega
            case rel => exact HRel.out WB HCB.out aB nB cB HOB.out
          · have hcv := HCv.out W1 HC1.out
            go_simp
            clear hcv
            refine hK.out _ _ (HSS.out _ HC1.out) (fun hS => ?_)
            clear hK
            refine wpAnyH_ready (rs := [1]) (by kernel_rfl) (by simp) (AllReadyH.cons rfl (fun Kc hK => ?_) AllReadyH.nil)
            go_simp
            obtain ⟨e1, He1⟩ : ∃ e, Hid (W1.heap.size = e) := ⟨_, ⟨rfl⟩⟩
            obtain ⟨W2, HW2⟩ : ∃ w, Hid (W1.alloc (.cells #[] 3) = w) := ⟨_, ⟨rfl⟩⟩
            have HB2 : Hid (Below W1.heap.size W1 W2) := ⟨by rw [← HW2.out]; exact (Below.refl _ W1).alloc (Nat.le_refl _) _⟩
            have Hel : Hid (wr.heap.size ≤ e1) := ⟨by rw [← He1.out]; exact HC1.out.size⟩
            have HE2 : Hid (OwnI W2 wr.heap.size (.slice (some ⟨e1, 0, none⟩) 0 0) []) := ⟨by rw [← HW2.out, ← He1.out]; exact own_base (owni_none W1) (fun g hg => by simp [Value.ownBlock] at hg; subst hg; exact HC1.out.size)⟩
            rw [HW2.out, He1.out]
            have HC2 : Hid (Chg [] wr W2) := ⟨HC1.out.trans (Chg.ofBelow HB2.out)⟩
            have HR2 : Hid (RdI W2 (.slice (some ⟨o2, 0, none⟩) 1 1) [x]) := ⟨Rd.far HR1.out (Chg.ofBelow (X := []) HB2.out) (by simp)⟩
            have Heo : Hid (e1 ≠ o2) := ⟨by rw [← He1.out]; have := Ho2l1.out; omega⟩
            have Ho2l2 : Hid (o2 < W2.heap.size) := ⟨Nat.lt_of_lt_of_le Ho2l1.out HB2.out.size⟩
            refine hK.out _ _ (HSS.out _ HC2.out) (fun hS => ?_)
            clear hK
            refine wpAnyH_ready (rs := [6]) (by kernel_rfl) (by simp) (AllReadyH.cons rfl (fun Kc hK => ?_) AllReadyH.nil)
            refine rdy_of (by kernel_rfl) ?_
            refine op_appI (.tmp 19) (.tmp 23) rfl (by kernel_rfl) HE2.out (by kernel_rfl) (Hon.out W2 HC2.out) hln HC2.out.size ?_
            intro vA W3 hOA hGA hVA
            replace hGA : Chg (ob (.slice (some ⟨e1, 0, none⟩) 0 0)) W2 W3 := hGA
            replace hVA : vA.ownBlock = Value.ownBlock (.slice (some ⟨e1, 0, none⟩) 0 0) ∨ vA.ownBlock = some W2.heap.size := hVA
            rw [List.nil_append] at hOA
            have HC3 : Hid (Chg [] wr W3) := ⟨HC2.out.thenNew hGA (fun z hz => .inr (HE2.out.lt z (mem_ob.1 hz)).1)⟩
            have HO3 := Hid.mk hOA
            obtain ⟨aA, cA, eA, _⟩ := hOA.shape
            subst eA
            obtain ⟨nA, HnA⟩ : ∃ n, Hid (l.length = n) := ⟨_, ⟨rfl⟩⟩
            have HR3 : Hid (RdI W3 (.slice (some ⟨o2, 0, none⟩) 1 1) [x]) := ⟨Rd.far HR2.out hGA (fun _ z hz hm => by simp [ob, Value.ownBlock] at hz hm; have := Heo.out; omega)⟩
            have Ho2l3 : Hid (o2 < W3.heap.size) := ⟨Nat.lt_of_lt_of_le Ho2l2.out hGA.size⟩
            have Hao : Hid (∀ z ∈ ob (.slice aA l.length cA), z ≠ o2) := ⟨fun z hz => by
              rcases hVA with q | q
              · rw [mem_ob.1 hz] at q; simp [Value.ownBlock] at q; have := Heo.out; omega
              · rw [mem_ob.1 hz] at q; have := Ho2l2.out; simp at q; omega⟩
            rw [HnA.out] at HO3 Hao ⊢
            clear hOA hGA hVA
            refine hK.out _ _ (HSS.out _ HC3.out) (fun hS => ?_)
            clear hK
            refine wpAnyH_ready (rs := [12]) (by kernel_rfl) (by simp) (AllReadyH.cons rfl (fun Kc hK => ?_) AllReadyH.nil)
            refine rdy_of (by kernel_rfl) ?_
            refine op_appI (.tmp 24) (.tmp 29) rfl (by kernel_rfl) HO3.out (by kernel_rfl) HR3.out hln1 HC3.out.size ?_
            intro vB WB hOB hGB hVB
            have HCB : Hid (Chg [] wr WB) := ⟨HC3.out.thenNew hGB (fun z hz => .inr (HO3.out.lt z (mem_ob.1 hz)).1)⟩
            obtain ⟨aB, cB, eB, _⟩ := hOB.shape
            subst eB
            have HOB := Hid.mk hOB
            obtain ⟨nB, HnB⟩ : ∃ n, Hid ((l ++ [x]).length = n) := ⟨_, ⟨rfl⟩⟩
            rw [HnB.out] at HOB ⊢
            clear hOB hGB hVB
            refine hK.out _ _ (HSS.out _ HCB.out) (fun hS => ?_)
            clear hK
            refine wpAnyH_take (i := 13) (v := .pointer (some ⟨p, 0, none⟩)) rfl (by kernel_rfl) (by kernel_rfl) (by kernel_rfl) (fun _ _ _ h => h) (Or.inl ⟨by kernel_rfl, fun wx hx => by go_simp⟩) hS ?_
            refine wpAnyH_take (i := 14) (v := .pointer (some ⟨p, 2, none⟩)) rfl (by kernel_rfl) (by kernel_rfl) (by kernel_rfl) (fun _ _ _ h => h) (Or.inl ⟨by kernel_rfl, fun wx hx => by go_simp⟩) hS ?_
            have hfz := Hfz.out WB HCB.out
            have hcv := HCv.out WB HCB.out
            refine wpAnyH_ready (rs := [15]) (by kernel_rfl) (by simp) (AllReadyH.cons rfl (fun Kc hK => ?_) AllReadyH.nil)
            go_simp
            refine hK.out _ _ (HSS2.out WB HCB.out _) (fun hS => ?_)
            clear hK
            refine wpAnyH_done (by kernel_rfl) ?_ _
            clear hS hfz hcv
            go_simp
            go_wp2_with fail
            go_roundg (nu - (k + 1))
            case measure => omega
            case rel => exact HRel.out WB HCB.out aB nB cB HOB.out
    · obtain rfl : k = nu := by omega
      have HT : Hid (L.take k = L) := ⟨List.take_of_length_le (by rw [Hnu.out]; exact Nat.le_refl _)⟩
      rw [HT.out] at HF HVp
      go_wp2_with fail
      go_end0
      exact ⟨rfl, ⟨v, HF.out, HVp.out⟩, HG.out⟩
end
end Go.Proofs.YtiloclekhddkfabDoor
