/- Contract of Hash.Write at bytes; the moves of a region that draws its order, by hand. -/
import Derived.Test.YthfikoghbnicoabDoorD5
import Derived.BigRegion
namespace Go.Proofs.YthfikoghbnicoabDoor
open Go.RowKit
attribute [local go_sem ↓] Go.wp_at_zero Go.wp_at_succ

theorem Bs.grown {w w' : World} {a : Option Addr} {L c g : Nat} {bs : List Int} (h : Bs w (.slice a L c) bs) (hg : w.grownBy w' (some g)) (hne : ∀ x, a = some x → x.block ≠ g) : Bs w' (.slice a L c) bs := by
  obtain ⟨a', c', hv, hl, hm, hn, hc⟩ := h
  simp only [Value.slice.injEq] at hv
  obtain ⟨rfl, rfl, rfl⟩ := hv
  refine ⟨a, c, rfl, hl, hm, hn, fun x hx i hi => ?_⟩
  have hblk : (x.add i).block = x.block := by unfold Addr.add; split <;> simp_all
  exact hg.cell (hc x hx i hi) (by simp only [ne_eq, Option.some.injEq]; rw [hblk]; exact hne x hx)

theorem take_snoc (bs : List Int) (k : Nat) (h : k < bs.length) : bs.take (k + 1) = bs.take k ++ [bs.getD k 0] := by
  rw [List.take_succ_eq_append_getElem h, List.getD_eq_getElem?_getD, List.getElem?_eq_getElem h]; rfl

theorem grown_drew {w w' : World} {g : Option Nat} (h : w.grownBy w' g) : w.grownBy w'.drew g := ⟨h.os, h.tape, h.output, h.size, h.block⟩

theorem ready_plain {P : Program} {md : Region.Mode} {ops : Array Oper} {Q : Exit → Act → World → Prop} {fuel : Nat} {listed : Array Bool} {a : Act} {w : World} {i : Nat} {o : Oper} {rs : List Nat} (ho : ops[i]? = some o) (hg : o.guard = none)
    (h : ∀ K' : Act → World → Prop, (∀ a w, wpAny P md ops Q fuel (listed.setIfInBounds i true) a w → K' a w) → Oper.wp P o a w K' Q)
    (hs : AllReady P md ops Q fuel listed a w rs) : AllReady P md ops Q fuel listed a w (i :: rs) :=
  AllReady.cons ho (fun K' hK => by
    have hw : Region.wanted o (yielded ops a.tmps) = true := by unfold Region.wanted; rw [hg]
    rw [if_pos hw]; exact h K' hK) hs
theorem run_loadS {g : Nat} {s b : Nat → Int} {n : Int} {w : World} (hH : Hat w g s b n) : (Instr.loadAt 49 (.pointer (some ⟨g, 0, none⟩))).run Tryd.prog w = .ok (.agg (arr .u32 8 s)) w :=
  run_loadAt_mid w g 0 49 (arr .u32 8 s).toList _ hH.rangeS Tryd.underlying49 rfl (by rw [Array.length_toList, arr_size]; exact info49)
theorem run_loadB {g : Nat} {s b : Nat → Int} {n : Int} {w : World} (hH : Hat w g s b n) : (Instr.loadAt 50 (.pointer (some ⟨g, 8, none⟩))).run Tryd.prog w = .ok (.agg (arr .u8 64 b)) w :=
  run_loadAt_mid w g 8 50 (arr .u8 64 b).toList _ hH.rangeB Tryd.underlying50 rfl (by rw [Array.length_toList, arr_size]; exact info50)
theorem run_storeS {g : Nat} {s s' b : Nat → Int} {n : Int} {w : World} (hH : Hat w g s b n) : (Instr.storeAt 49 (.pointer (some ⟨g, 0, none⟩)) (.agg (arr .u32 8 s'))).run Tryd.prog w = .ok () (w.setCells g 0 (arr .u32 8 s').toList) :=
  run_storeAt_mid w g 0 49 _ (by rw [arr_size]; exact hH.thereS) (by rw [arr_size]; exact info49) (arr_one _ _ _)
theorem wp_loadS {g : Nat} {s b : Nat → Int} {n : Int} {op : Oper} {a : Act} {w : World} {K : Act → World → Prop} {Q : Exit → Act → World → Prop} (x : Operand) (ho : op.op = .load 49 x) (hx : a.eval x = .pointer (some ⟨g, 0, none⟩)) (hH : Hat w g s b n)
    (h : K (a.put op.dst (.agg (arr .u32 8 s))) w) : op.wp Tryd.prog a w K Q :=
  wp_load_mid 49 x ho g 0 hx (arr .u32 8 s).toList _ hH.rangeS Tryd.underlying49 rfl (by rw [Array.length_toList, arr_size]; exact info49) h
theorem wp_loadB {g : Nat} {s b : Nat → Int} {n : Int} {op : Oper} {a : Act} {w : World} {K : Act → World → Prop} {Q : Exit → Act → World → Prop} (x : Operand) (ho : op.op = .load 50 x) (hx : a.eval x = .pointer (some ⟨g, 8, none⟩)) (hH : Hat w g s b n)
    (h : K (a.put op.dst (.agg (arr .u8 64 b))) w) : op.wp Tryd.prog a w K Q :=
  wp_load_mid 50 x ho g 8 hx (arr .u8 64 b).toList _ hH.rangeB Tryd.underlying50 rfl (by rw [Array.length_toList, arr_size]; exact info50) h
theorem wp_storeS {g : Nat} {s s' b : Nat → Int} {n : Int} {op : Oper} {a : Act} {w : World} {K : Act → World → Prop} {Q : Exit → Act → World → Prop} (x y : Operand) (ho : op.op = .store 49 x y) (hx : a.eval x = .pointer (some ⟨g, 0, none⟩)) (hy : a.eval y = .agg (arr .u32 8 s')) (hH : Hat w g s b n)
    (h : K (a.put op.dst undef) (w.setCells g 0 (arr .u32 8 s').toList)) : op.wp Tryd.prog a w K Q :=
  wp_store_mid 49 x y ho g 0 _ hx hy (by rw [arr_size]; exact hH.thereS) (by rw [arr_size]; exact info49) (arr_one _ _ _) h

theorem enter23 (args : Array Value) (w : World) : (callFunc 23 args).run Tryd.prog w = .ok (.enter 23 args) w := by kernel_rfl
section
variable {md : Region.Mode} {ops : Array Oper} {Q : Exit → Act → World → Prop} {fuel : Nat} {listed : Array Bool} {a : Act} {w : World} {i : Nat} {o : Oper} {rs : List Nat} {g : Nat} {s b : Nat → Int} {n : Int}
theorem ready_call {f : FuncId} {xs : Array Operand} {ats : Array TypeId} {args : Array Value} {R : Ending → World → Prop} (ho : ops[i]? = some o) (hg : o.guard = none) (hop : o.op = .call { callee := .value (.func f), args := xs, argTypes := ats })
    (hargs : (#[] ++ xs.map a.eval ++ #[] : Array Value) = args) (hrun : (callFunc f args).run Tryd.prog w = .ok (.enter f args) w) (hc : Calls Tryd.prog f args w R)
    (h : ∀ e w', R e w' → ∃ v, e = .returned v ∧ wpAny Tryd.prog md ops Q fuel (listed.setIfInBounds i true) (a.put o.dst v) w')
    (hs : AllReady Tryd.prog md ops Q fuel listed a w rs) : AllReady Tryd.prog md ops Q fuel listed a w (i :: rs) :=
  ready_plain ho hg (fun K' hK => by
    obtain ⟨dst, op, ty, pos, after, guard⟩ := o
    simp only at hop
    subst hop
    unfold Oper.wp
    rw [execOp_call_go, hargs, hrun]
    refine hc.mono ?_
    intro e w' hr
    obtain ⟨v, rfl, hv⟩ := h e w' hr
    exact hK _ _ hv) hs
theorem ready_loadS (ho : ops[i]? = some o) (hg : o.guard = none) (x : Operand) (hop : o.op = .load 49 x) (hx : a.eval x = .pointer (some ⟨g, 0, none⟩)) (hH : Hat w g s b n)
    (h : wpAny Tryd.prog md ops Q fuel (listed.setIfInBounds i true) (a.put o.dst (.agg (arr .u32 8 s))) w) (hs : AllReady Tryd.prog md ops Q fuel listed a w rs) : AllReady Tryd.prog md ops Q fuel listed a w (i :: rs) :=
  ready_plain ho hg (fun _ hK => wp_loadS x hop hx hH (hK _ _ h)) hs
theorem ready_loadB (ho : ops[i]? = some o) (hg : o.guard = none) (x : Operand) (hop : o.op = .load 50 x) (hx : a.eval x = .pointer (some ⟨g, 8, none⟩)) (hH : Hat w g s b n)
    (h : wpAny Tryd.prog md ops Q fuel (listed.setIfInBounds i true) (a.put o.dst (.agg (arr .u8 64 b))) w) (hs : AllReady Tryd.prog md ops Q fuel listed a w rs) : AllReady Tryd.prog md ops Q fuel listed a w (i :: rs) :=
  ready_plain ho hg (fun _ hK => wp_loadB x hop hx hH (hK _ _ h)) hs
theorem ready_storeS {s' : Nat → Int} (ho : ops[i]? = some o) (hg : o.guard = none) (x y : Operand) (hop : o.op = .store 49 x y) (hx : a.eval x = .pointer (some ⟨g, 0, none⟩)) (hy : a.eval y = .agg (arr .u32 8 s')) (hH : Hat w g s b n)
    (h : wpAny Tryd.prog md ops Q fuel (listed.setIfInBounds i true) (a.put o.dst undef) (w.setCells g 0 (arr .u32 8 s').toList)) (hs : AllReady Tryd.prog md ops Q fuel listed a w rs) : AllReady Tryd.prog md ops Q fuel listed a w (i :: rs) :=
  ready_plain ho hg (fun _ hK => wp_storeS x y hop hx hy hH (hK _ _ h)) hs
end

set_option maxHeartbeats 1500000 in
set_option maxRecDepth 100000 in
theorem write_core (g bb off cap : Nat) (q0 : HSt) (K : Nat → Int) (p : List Int) (L : Nat) (w : World) (hL : p.length = L) (hlc : L ≤ cap) (_hm : cap ≤ maxLen) (hg : Hat w g q0.s q0.b q0.n) (hne : bb ≠ g) (hg2 : g ≠ 2) (hK : KeysAt w K)
    (hc : ∀ i, i < L → w.cell? ⟨bb, off + i, none⟩ = some (.int .u8 (p.getD i 0))) (hby : ∀ x ∈ p, 0 ≤ x ∧ x < 256) (hqb : ∀ j, 0 ≤ q0.b j ∧ q0.b j < 256) (hn : q0.n + L ≤ 281474976710656) :
    Calls Tryd.prog 13 #[.pointer (some ⟨g, 0, none⟩), .slice (some ⟨bb, off, none⟩) L cap] w fun e w' => e = .returned (.int .i64 0) ∧ (∃ q, q = p.foldl (wstep K) q0 ∧ Hat w' g q.s q.b q.n ∧ (∀ j, 0 ≤ q.b j ∧ q.b j < 256)) ∧ w.grownBy w' (some g) := by
  unfold maxLen at _hm
  have HC0 : Hid _ := hc
  have HB0 : Hid _ := hby
  clear hc hby
  go_enter Tryd.func13, Tryd.ntmps13
  go_wp2
  go_loopw [11] (fun i wr => ∃ (k : Nat) (q : HSt), k ≤ L ∧ i = .int .i64 k ∧ Hid (q = (p.take k).foldl (wstep K) q0) ∧ q.n = q0.n + k ∧ Hat wr g q.s q.b q.n ∧ Hid (∀ j, 0 ≤ q.b j ∧ q.b j < 256) ∧ w.grownBy wr (some g) ∧ Hid (KeysAt wr K)) (fun i _ => L - (intOf i).toNat)
  case atStart => exact ⟨0, q0, Nat.zero_le _, rfl, rfl, rfl, hg, hqb, grown_of_below (Below.refl _ _), hK⟩
  case round =>
    clear hg hqb hK
    obtain ⟨k, q, hk, rfl, HQ, hqn, hH, HQB, hgr, HK⟩ := hrel
    by_cases hlt : k < L
    · obtain ⟨x, HX⟩ : ∃ x, Hid (x = p.getD k 0) := ⟨_, rfl⟩
      have hcx : wr.cell? ⟨bb, off + k, none⟩ = some (.int .u8 x) := by rw [HX.out]; exact hgr.cell (HC0.out k hlt) (by simp; exact hne)
      have HN : Hid (q.n = q0.n + k) := hqn
      have hnb : q.n < 281474976710656 := by omega
      clear hqn
      have cn := hH.cellN
      have fn := hH.frozen 72
      have cb := hH.cellB (q.n % 64) (Nat.mod_lt _ (by decide))
      have fb := hH.frozen (8 + q.n % 64)
      have hH2 := (hH.setB (q.n % 64) (Nat.mod_lt _ (by decide)) x).setN ((q.n : Int) + 1)
      have hg2' : w.grownBy ((wr.setCell ⟨g, 8 + q.n % 64, none⟩ (.int .u8 x)).setCell ⟨g, 72, none⟩ (.int .i64 ((q.n : Int) + 1))) (some g) := grown_trans hgr (grown_trans (grown_set _ _ _ _) (grown_set _ _ _ _))
      have HH2 : Hid (Hat ((wr.setCell ⟨g, 8 + q.n % 64, none⟩ (.int .u8 x)).setCell ⟨g, 72, none⟩ (.int .i64 ((q.n : Int) + 1))) g q.s (upd q.b (q.n % 64) x) ((q.n + 1 : Nat) : Int)) := by
        have h2 : ((q.n + 1 : Nat) : Int) = (q.n : Int) + 1 := by omega
        rw [h2]; exact hH2
      have HG2 : Hid _ := hg2'
      have HST : Hid ((p.take (k + 1)).foldl (wstep K) q0 = wstep K q x) := by
        rw [take_snoc p k (by omega), List.foldl_append, HQ.out, HX.out]; rfl
      have HUB : Hid (∀ j, 0 ≤ upd q.b (q.n % 64) x j ∧ upd q.b (q.n % 64) x j < 256) := by
        intro j
        unfold upd
        split
        · rw [HX.out]; apply HB0.out; rw [List.getD_eq_getElem?_getD, List.getElem?_eq_getElem (by omega)]; exact List.getElem_mem _
        · exact HQB.out j
      clear hH2 hg2' hH hgr HQ HX HQB
      by_cases hz : (q.n + 1) % 64 = 0
      · have hz' : (((q.n : Int) + 1) % 64 == 0) = true := by simp; omega
        have HW : Hid (wstep K q x = ⟨mixS K q.s (upd q.b (q.n % 64) x), upd q.b (q.n % 64) x, q.n + 1⟩) := by show wstep K q x = _; unfold wstep; rw [if_pos hz]
        go_wp2
        go_region
        clear hcx
        go_wp2
        have hHx : Hat ((wr.setCell ⟨g, 8 + q.n % 64, none⟩ (.int .u8 x)).setCell ⟨g, 72, none⟩ (.int .i64 ((q.n : Int) + 1))).drew g q.s (upd q.b (q.n % 64) x) ((q.n + 1 : Nat) : Int) := HH2.out
        have hGx : w.grownBy ((wr.setCell ⟨g, 8 + q.n % 64, none⟩ (.int .u8 x)).setCell ⟨g, 72, none⟩ (.int .i64 ((q.n : Int) + 1))).drew (some g) := grown_drew HG2.out
        have hKx : KeysAt ((wr.setCell ⟨g, 8 + q.n % 64, none⟩ (.int .u8 x)).setCell ⟨g, 72, none⟩ (.int .i64 ((q.n : Int) + 1))).drew K := KeysAt.grown HK.out (grown_drew (grown_trans (grown_set _ _ _ _) (grown_set _ _ _ _))) hg2
        generalize ((wr.setCell ⟨g, 8 + q.n % 64, none⟩ (.int .u8 x)).setCell ⟨g, 72, none⟩ (.int .i64 ((q.n : Int) + 1))).drew = wx at hHx hGx hKx ⊢
        clear HK HG2 HH2
        refine wp_region_any (by kernel_rfl) ?_
        change wpAny _ _ _ _ _ _ _ wx.drew
        refine wpAny_take (i := 0) (v := .pointer (some ⟨g, 0, none⟩)) rfl (by kernel_rfl) (by kernel_rfl) (by kernel_rfl) (fun _ _ _ h => h) (Or.inl ⟨by kernel_rfl, fun _ => by kernel_rfl⟩) ?_
        refine wpAny_take (i := 1) (v := .pointer (some ⟨g, 0, none⟩)) rfl (by kernel_rfl) (by kernel_rfl) (by kernel_rfl) (fun _ _ _ h => h) (Or.inl ⟨by kernel_rfl, fun _ => by kernel_rfl⟩) ?_
        refine wpAny_take (i := 2) (v := .pointer (some ⟨g, 0, none⟩)) rfl (by kernel_rfl) (by kernel_rfl) (by kernel_rfl) (fun _ _ _ h => h) (Or.inl ⟨by kernel_rfl, fun _ => by go_simp⟩) ?_
        refine wpAny_take (i := 3) (v := .pointer (some ⟨g, 0, none⟩)) rfl (by kernel_rfl) (by kernel_rfl) (by kernel_rfl) (fun _ _ _ h => h) (Or.inl ⟨by kernel_rfl, fun _ => by go_simp⟩) ?_
        refine wpAny_take (i := 5) (v := .pointer (some ⟨g, 0, none⟩)) rfl (by kernel_rfl) (by kernel_rfl) (by kernel_rfl) (fun _ _ _ h => h) (Or.inl ⟨by kernel_rfl, fun _ => by kernel_rfl⟩) ?_
        refine wpAny_take (i := 6) (v := .pointer (some ⟨g, 0, none⟩)) rfl (by kernel_rfl) (by kernel_rfl) (by kernel_rfl) (fun _ _ _ h => h) (Or.inl ⟨by kernel_rfl, fun _ => by go_simp⟩) ?_
        refine wpAny_take (i := 7) (v := .pointer (some ⟨g, 8, none⟩)) rfl (by kernel_rfl) (by kernel_rfl) (by kernel_rfl) (fun _ _ _ h => h) (Or.inl ⟨by kernel_rfl, fun _ => by go_simp⟩) ?_
        refine wpAny_ready (rs := [4, 8]) (by kernel_rfl) (by simp) (ready_loadS (o := { dst := some 42, op := .load 49 (.tmp 41), type := 49, pos := "digest.go:54", after := #[{ on := 3, ground := Ground.data }], guard := none }) rfl rfl (.tmp 41) rfl (by kernel_rfl) hHx.drew ?_ (ready_loadB (o := { dst := some 46, op := .load 50 (.tmp 45), type := 50, pos := "digest.go:54", after := #[{ on := 7, ground := Ground.data }], guard := none }) rfl rfl (.tmp 45) rfl (by kernel_rfl) hHx.drew ?_ AllReady.nil))
        · refine wpAny_ready (rs := [8]) (by kernel_rfl) (by simp) (ready_loadB (o := { dst := some 46, op := .load 50 (.tmp 45), type := 50, pos := "digest.go:54", after := #[{ on := 7, ground := Ground.data }], guard := none }) rfl rfl (.tmp 45) rfl (by kernel_rfl) hHx.drew ?_ AllReady.nil)
          refine wpAny_ready (rs := [9]) (by kernel_rfl) (by simp) (ready_call rfl rfl rfl (by kernel_rfl) (enter23 _ _) (mix_any q.s (upd q.b (q.n % 64) x) K HUB.out wx.drew hKx) ?_ AllReady.nil)
          rintro e w2 ⟨rfl, hb2⟩
          refine ⟨_, rfl, ?_⟩
          have hH2 := hHx.drew.below hb2
          have hg3 : w.grownBy (w2.setCells g 0 (arr .u32 8 (mixS K q.s (upd q.b (q.n % 64) x))).toList) (some g) := grown_trans (grown_trans (grown_drew hGx) (grown_of_below hb2)) (grown_setS _ _ _)
          have hk3 : KeysAt (w2.setCells g 0 (arr .u32 8 (mixS K q.s (upd q.b (q.n % 64) x))).toList) K := KeysAt.grown hKx (grown_trans (grown_drew (grown_of_below (Below.refl _ _))) (grown_trans (grown_of_below hb2) (grown_setS _ _ _))) hg2
          have hH3 := hH2.setS (mixS K q.s (upd q.b (q.n % 64) x))
          refine wpAny_take (i := 10) (v := .pointer (some ⟨g, 0, none⟩)) rfl (by kernel_rfl) (by kernel_rfl) (by kernel_rfl) (fun _ _ _ h => h) (Or.inl ⟨by kernel_rfl, fun _ => by go_simp⟩) ?_
          refine wpAny_take (i := 11) (v := .pointer (some ⟨g, 0, none⟩)) rfl (by kernel_rfl) (by kernel_rfl) (by kernel_rfl) (fun _ _ _ h => h) (Or.inl ⟨by kernel_rfl, fun _ => by go_simp⟩) ?_
          refine wpAny_ready (rs := [12]) (by kernel_rfl) (by simp) (ready_storeS (s' := mixS K q.s (upd q.b (q.n % 64) x)) rfl rfl (.tmp 49) (.tmp 47) rfl (by kernel_rfl) (by kernel_rfl) hH2 ?_ AllReady.nil)
          refine wpAny_done (by kernel_rfl) ?_ _
          generalize w2.setCells g 0 (arr .u32 8 (mixS K q.s (upd q.b (q.n % 64) x))).toList = w3 at hH3 hg3 hk3 ⊢
          clear hKx hGx hHx hH2 hb2
          go_simp
          go_wp2
          go_roundw
          case rel =>
            exact ⟨k + 1, ⟨mixS K q.s (upd q.b (q.n % 64) x), upd q.b (q.n % 64) x, q.n + 1⟩, by omega, by go_num, (by show _ = _; rw [HST.out, HW.out]), (by show q.n + 1 = _; rw [HN.out]; omega), hH3, HUB, hg3, hk3⟩
          case measure => simp [intOf]; omega
        · refine wpAny_ready (rs := [4]) (by kernel_rfl) (by simp) (ready_loadS (o := { dst := some 42, op := .load 49 (.tmp 41), type := 49, pos := "digest.go:54", after := #[{ on := 3, ground := Ground.data }], guard := none }) rfl rfl (.tmp 41) rfl (by kernel_rfl) hHx.drew ?_ AllReady.nil)
          refine wpAny_ready (rs := [9]) (by kernel_rfl) (by simp) (ready_call rfl rfl rfl (by kernel_rfl) (enter23 _ _) (mix_any q.s (upd q.b (q.n % 64) x) K HUB.out wx.drew hKx) ?_ AllReady.nil)
          rintro e w2 ⟨rfl, hb2⟩
          refine ⟨_, rfl, ?_⟩
          have hH2 := hHx.drew.below hb2
          have hg3 : w.grownBy (w2.setCells g 0 (arr .u32 8 (mixS K q.s (upd q.b (q.n % 64) x))).toList) (some g) := grown_trans (grown_trans (grown_drew hGx) (grown_of_below hb2)) (grown_setS _ _ _)
          have hk3 : KeysAt (w2.setCells g 0 (arr .u32 8 (mixS K q.s (upd q.b (q.n % 64) x))).toList) K := KeysAt.grown hKx (grown_trans (grown_drew (grown_of_below (Below.refl _ _))) (grown_trans (grown_of_below hb2) (grown_setS _ _ _))) hg2
          have hH3 := hH2.setS (mixS K q.s (upd q.b (q.n % 64) x))
          refine wpAny_take (i := 10) (v := .pointer (some ⟨g, 0, none⟩)) rfl (by kernel_rfl) (by kernel_rfl) (by kernel_rfl) (fun _ _ _ h => h) (Or.inl ⟨by kernel_rfl, fun _ => by go_simp⟩) ?_
          refine wpAny_take (i := 11) (v := .pointer (some ⟨g, 0, none⟩)) rfl (by kernel_rfl) (by kernel_rfl) (by kernel_rfl) (fun _ _ _ h => h) (Or.inl ⟨by kernel_rfl, fun _ => by go_simp⟩) ?_
          refine wpAny_ready (rs := [12]) (by kernel_rfl) (by simp) (ready_storeS (s' := mixS K q.s (upd q.b (q.n % 64) x)) rfl rfl (.tmp 49) (.tmp 47) rfl (by kernel_rfl) (by kernel_rfl) hH2 ?_ AllReady.nil)
          refine wpAny_done (by kernel_rfl) ?_ _
          generalize w2.setCells g 0 (arr .u32 8 (mixS K q.s (upd q.b (q.n % 64) x))).toList = w3 at hH3 hg3 hk3 ⊢
          clear hKx hGx hHx hH2 hb2
          go_simp
          go_wp2
          go_roundw
          case rel =>
            exact ⟨k + 1, ⟨mixS K q.s (upd q.b (q.n % 64) x), upd q.b (q.n % 64) x, q.n + 1⟩, by omega, by go_num, (by show _ = _; rw [HST.out, HW.out]), (by show q.n + 1 = _; rw [HN.out]; omega), hH3, HUB, hg3, hk3⟩
          case measure => simp [intOf]; omega
      · have hz' : (((q.n : Int) + 1) % 64 == 0) = false := by simp; omega
        have HW : Hid (wstep K q x = ⟨q.s, upd q.b (q.n % 64) x, q.n + 1⟩) := by show wstep K q x = _; unfold wstep; rw [if_neg hz]
        go_wp2
        go_region
        clear hcx
        go_wp2
        go_roundw
        case rel =>
          refine ⟨k + 1, ⟨q.s, upd q.b (q.n % 64) x, q.n + 1⟩, by omega, by go_num, (by show _ = _; rw [HST.out, HW.out]), (by show q.n + 1 = _; rw [HN.out]; omega), HH2.out, HUB, ?_, ?_⟩
          · exact grown_drew HG2.out
          · exact KeysAt.grown HK.out (grown_drew (grown_trans (grown_set _ _ _ _) (grown_set _ _ _ _))) hg2
        case measure => simp [intOf]; omega
    · have hkL : k = L := by omega
      subst hkL
      go_wp2
      go_ret
      refine ⟨rfl, ⟨q, ?_, hH, HQB.out⟩, hgr⟩
      rw [HQ.out, List.take_of_length_le (by omega)]
end Go.Proofs.YthfikoghbnicoabDoor
