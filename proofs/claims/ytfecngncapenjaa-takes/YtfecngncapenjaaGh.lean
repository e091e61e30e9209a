/- Texts joined into one: H3, H4, H5, H6. -/
import Derived.Test.YtfecngncapenjaaH2
import Derived.Test.YtfecngncapenjaaHP
import Derived.BigRegion
import Derived.RegionTactic
import Derived.Laws.ByValue
import Derived.Shelf.Abstract
/- A row of trees: Swap. -/
namespace Go.Proofs.Ytfecngncapenjaa
open Go.RowKit Go.Lib

theorem set_share {w : World} {base g n cap : Nat} {L : List Sh} (h : OwnE sh3 3 46 w base (.slice (some ⟨g, 0, none⟩) n cap) L) (hn : L.length = n) {k : Nat} (hk : k < n) (a b : Int) (c : SlP) :
    OwnE sh3 3 46 (((w.setCell ⟨g, k * 3, none⟩ (.int .i64 a)).setCell ⟨g, k * 3 + 1, none⟩ (.int .u8 b)).setCell ⟨g, k * 3 + 2, none⟩ (sv c)) base (.slice (some ⟨g, 0, none⟩) n cap) (L.set k (a, b, c)) := by
  have h0 := h.own
  rw [hn] at h0
  have h1 := own_setCell (own_setCell (own_setCell h0 (k * 3) (.int .i64 a)) (k * 3 + 1) (.int .u8 b)) (k * 3 + 2) (sv c)
  have hl : (fl sh3 L).length = n * 3 := h0.1
  have e : (((fl sh3 L).set (k * 3) (.int .i64 a)).set (k * 3 + 1) (.int .u8 b)).set (k * 3 + 2) (sv c) = fl sh3 (L.set k (a, b, c)) := by
    apply List.ext_getElem?
    intro p
    rw [fl_set sh3 3 s0 L (fun x hx => (h.each x hx).1) k (by omega) (a, b, c) rfl p, List.getElem?_set, List.getElem?_set, List.getElem?_set]
    simp only [List.length_set]
    by_cases h2 : p / 3 = k
    · rw [show (if p / 3 = k ∧ 0 < 3 then (sh3 (a, b, c))[p % 3]? else (fl sh3 L)[p]?) = (sh3 (a, b, c))[p % 3]? from if_pos ⟨h2, by omega⟩]
      have h3 : p % 3 = 0 ∨ p % 3 = 1 ∨ p % 3 = 2 := by omega
      rcases h3 with h3 | h3 | h3
      · have hp : k * 3 = p := by omega
        rw [if_neg (by omega), if_neg (by omega), if_pos hp, if_pos (by omega), h3]
        rfl
      · have hp : k * 3 + 1 = p := by omega
        rw [if_neg (by omega), if_pos hp, if_pos (by omega), h3]
        rfl
      · have hp : k * 3 + 2 = p := by omega
        rw [if_pos hp, if_pos (by omega), h3]
        rfl
    · rw [show (if p / 3 = k ∧ 0 < 3 then (sh3 (a, b, c))[p % 3]? else (fl sh3 L)[p]?) = (fl sh3 L)[p]? from if_neg (by omega), if_neg (by omega), if_neg (by omega), if_neg (by omega)]
  rw [e] at h1
  exact ⟨by rw [List.length_set, hn]; exact h1, fun x _ => sh3_one x⟩
section
variable {w : World}
set_option maxHeartbeats 8000000 in
set_option maxRecDepth 100000 in
theorem swap74 {base g n c : Nat} {L : List Sh} (h : OwnE sh3 3 46 w base (.slice (some ⟨g, 0, none⟩) n c) L) (hn : L.length = n) (hc : c ≤ maxLen) {i j : Nat} (hi : i < n) (hj : j < n) :
    Calls Try.prog 74 #[.slice (some ⟨g, 0, none⟩) n c, .int .i64 (i : Int), .int .i64 (j : Int)] w fun e w' => e = .returned (.tuple #[]) ∧ OwnE sh3 3 46 w' base (.slice (some ⟨g, 0, none⟩) n c) (swp L i j) ∧ Chg [g] w w' := by
  have H := Hid.mk h
  have Hn := Hid.mk hn
  have hi0 := own_cellE h s0 (j := 0) (i := i) (by omega) (by decide)
  have hi1 := own_cellE h s0 (j := 1) (i := i) (by omega) (by decide)
  have hi2 := own_cellE h s0 (j := 2) (i := i) (by omega) (by decide)
  have hj0 := own_cellE h s0 (j := 0) (i := j) (by omega) (by decide)
  have hj1 := own_cellE h s0 (j := 1) (i := j) (by omega) (by decide)
  have hj2 := own_cellE h s0 (j := 2) (i := j) (by omega) (by decide)
  unfold swp
  obtain ⟨⟨x1, x2, xa, xn, xc, xl⟩, Hx⟩ : ∃ x, Hid (L.getD i s0 = x) := ⟨_, ⟨rfl⟩⟩
  obtain ⟨⟨y1, y2, ya, yn, yc, yl⟩, Hy⟩ : ∃ x, Hid (L.getD j s0 = x) := ⟨_, ⟨rfl⟩⟩
  rw [Hx.out] at hi0 hi1 hi2 ⊢
  rw [Hy.out] at hj0 hj1 hj2 ⊢
  simp [sh3, sv] at hi0 hi1 hi2 hj0 hj1 hj2
  obtain ⟨cur, hrow, _⟩ := own_rowE h
  have Hrow := Hid.mk hrow
  have hcx : c ≤ 9223372036854775807 := hc
  have hnc : n ≤ c := by have := (h.rd s0).shape; obtain ⟨a', c', e', h1, _⟩ := this; simp at e'; omega
  have hiz : (i : Int) < (n : Int) := by omega
  have hjz : (j : Int) < (n : Int) := by omega
  have f0 : w.frozen? ⟨g, i * 3, none⟩ = false := frozen_of_row w g _ _ 46 hrow
  have f1 : w.frozen? ⟨g, i * 3 + 1, none⟩ = false := frozen_of_row w g _ _ 46 hrow
  have f2 : w.frozen? ⟨g, i * 3 + 2, none⟩ = false := frozen_of_row w g _ _ 46 hrow
  have k0 : w.frozen? ⟨g, j * 3, none⟩ = false := frozen_of_row w g _ _ 46 hrow
  have k1 : w.frozen? ⟨g, j * 3 + 1, none⟩ = false := frozen_of_row w g _ _ 46 hrow
  have k2 : w.frozen? ⟨g, j * 3 + 2, none⟩ = false := frozen_of_row w g _ _ 46 hrow
  clear h hn hrow
  by_cases hij : i = j
  · subst hij
    have e := Hx.out.symm.trans Hy.out
    cases e
    clear k0 k1 k2 Hy
    go_enter Try.func74, Try.ntmps74
    go_upto_region 0 with fail
    go_region
    go_end0
    have h1 := set_share H.out Hn.out hi x1 x2 (xa, xn, xc, xl)
    have h2 := set_share h1 (by rw [List.length_set]; exact Hn.out) hj x1 x2 (xa, xn, xc, xl)
    refine ⟨rfl, h2.far (Chg.refl (X := []) _).drew (by simp), ?_⟩
    exact ((((((((Chg.refl [g] w).setCell (.inl (by simp)) _).setCell (.inl (by simp)) _).setCell (.inl (by simp)) _).setCell (.inl (by simp)) _).setCell (.inl (by simp)) _).setCell (.inl (by simp)) _).drew)
  · skip
    have n0 : ¬ i * 3 = j * 3 := by omega
    have m0 : ¬ j * 3 = i * 3 := by omega
    have n1 : ¬ i * 3 = j * 3 + 1 := by omega
    have m1 : ¬ j * 3 + 1 = i * 3 := by omega
    have n2 : ¬ i * 3 = j * 3 + 2 := by omega
    have m2 : ¬ j * 3 + 2 = i * 3 := by omega
    have n3 : ¬ i * 3 + 1 = j * 3 := by omega
    have m3 : ¬ j * 3 = i * 3 + 1 := by omega
    have n4 : ¬ i * 3 + 1 = j * 3 + 1 := by omega
    have m4 : ¬ j * 3 + 1 = i * 3 + 1 := by omega
    have n5 : ¬ i * 3 + 1 = j * 3 + 2 := by omega
    have m5 : ¬ j * 3 + 2 = i * 3 + 1 := by omega
    have n6 : ¬ i * 3 + 2 = j * 3 := by omega
    have m6 : ¬ j * 3 = i * 3 + 2 := by omega
    have n7 : ¬ i * 3 + 2 = j * 3 + 1 := by omega
    have m7 : ¬ j * 3 + 1 = i * 3 + 2 := by omega
    have n8 : ¬ i * 3 + 2 = j * 3 + 2 := by omega
    have m8 : ¬ j * 3 + 2 = i * 3 + 2 := by omega
    clear hij
    go_enter Try.func74, Try.ntmps74
    go_upto_region 0 with fail
    go_region
    go_end0
    have h1 := set_share H.out Hn.out hi y1 y2 (ya, yn, yc, yl)
    have h2 := set_share h1 (by rw [List.length_set]; exact Hn.out) hj x1 x2 (xa, xn, xc, xl)
    refine ⟨rfl, h2.far (Chg.refl (X := []) _).drew (by simp), ?_⟩
    exact ((((((((Chg.refl [g] w).setCell (.inl (by simp)) _).setCell (.inl (by simp)) _).setCell (.inl (by simp)) _).setCell (.inl (by simp)) _).setCell (.inl (by simp)) _).setCell (.inl (by simp)) _).drew)
end
end Go.Proofs.Ytfecngncapenjaa

/- The heap's methods, reached through the interface. -/
namespace Go.Proofs.Ytfecngncapenjaa
open Go.RowKit Go.Lib Go.Shelf

theorem finds_push (w : World) (b : Nat) : (method 225 50 (.pointer (some ⟨b, 0, none⟩)) "Push").run Try.prog w = .ok (81, .pointer (some ⟨b, 0, none⟩)) w := by kernel_rfl
theorem finds_pop (w : World) (b : Nat) : (method 225 50 (.pointer (some ⟨b, 0, none⟩)) "Pop").run Try.prog w = .ok (80, .pointer (some ⟨b, 0, none⟩)) w := by kernel_rfl
theorem load43 (w : World) (b : Nat) (sl : Value) (h : w.cell? ⟨b, 0, none⟩ = some sl) : (loadVar 43 ⟨b, 0, none⟩).run Try.prog w = .ok sl w := by
  go_simp
theorem finds_len (w : World) (b : Nat) (sl : Value) (h : w.cell? ⟨b, 0, none⟩ = some sl) : (method 225 50 (.pointer (some ⟨b, 0, none⟩)) "Len").run Try.prog w = .ok (72, sl) w := by
  have e : (method 225 50 (.pointer (some ⟨b, 0, none⟩)) "Len").run Try.prog w = (do let r ← loadVar 43 ⟨b, 0, none⟩; pure (72, r) : Sem (FuncId × Value)).run Try.prog w := by kernel_rfl
  rw [e, Sem.run_bind, load43 w b sl h]
  rfl
theorem finds_less (w : World) (b : Nat) (sl : Value) (h : w.cell? ⟨b, 0, none⟩ = some sl) : (method 225 50 (.pointer (some ⟨b, 0, none⟩)) "Less").run Try.prog w = .ok (73, sl) w := by
  have e : (method 225 50 (.pointer (some ⟨b, 0, none⟩)) "Less").run Try.prog w = (do let r ← loadVar 43 ⟨b, 0, none⟩; pure (73, r) : Sem (FuncId × Value)).run Try.prog w := by kernel_rfl
  rw [e, Sem.run_bind, load43 w b sl h]
  rfl
theorem finds_swap (w : World) (b : Nat) (sl : Value) (h : w.cell? ⟨b, 0, none⟩ = some sl) : (method 225 50 (.pointer (some ⟨b, 0, none⟩)) "Swap").run Try.prog w = .ok (74, sl) w := by
  have e : (method 225 50 (.pointer (some ⟨b, 0, none⟩)) "Swap").run Try.prog w = (do let r ← loadVar 43 ⟨b, 0, none⟩; pure (74, r) : Sem (FuncId × Value)).run Try.prog w := by kernel_rfl
  rw [e, Sem.run_bind, load43 w b sl h]
  rfl
theorem eg72 : ∀ args w, (callFunc 72 args).run Try.prog w = .ok (.enter 72 args) w := enters_of Try.func72 (by kernel_rfl) rfl
theorem eg73 : ∀ args w, (callFunc 73 args).run Try.prog w = .ok (.enter 73 args) w := enters_of Try.func73 (by kernel_rfl) rfl
theorem eg74 : ∀ args w, (callFunc 74 args).run Try.prog w = .ok (.enter 74 args) w := enters_of Try.func74 (by kernel_rfl) rfl
theorem eg80 : ∀ args w, (callFunc 80 args).run Try.prog w = .ok (.enter 80 args) w := enters_of Try.func80 (by kernel_rfl) rfl
theorem eg81 : ∀ args w, (callFunc 81 args).run Try.prog w = .ok (.enter 81 args) w := enters_of Try.func81 (by kernel_rfl) rfl
/-- A variable that holds a row of trees. -/
structure Box (w : World) (b base : Nat) (sl : Value) (L : List Sh) : Prop where
  box : w.heap[b]? = some (.cells #[sl] 43 (0, 0))
  own : OwnE sh3 3 46 w base sl L
theorem Box.cell {w : World} {b base : Nat} {sl : Value} {L : List Sh} (h : Box w b base sl L) : w.cell? ⟨b, 0, none⟩ = some sl := by rw [cell_of_row _ _ _ _ _ _ h.box]; rfl
theorem Box.lt {w : World} {b base : Nat} {sl : Value} {L : List Sh} (h : Box w b base sl L) : b < w.heap.size := (Array.getElem?_eq_some_iff.1 h.box).1
theorem Box.not {w : World} {b base : Nat} {sl : Value} {L : List Sh} (h : Box w b base sl L) : b ∉ ob sl := fun hm => by
  obtain ⟨cs, hcs⟩ := h.own.ty b hm
  rw [h.box] at hcs
  simp at hcs
theorem Box.far {w w' : World} {b base : Nat} {sl : Value} {L : List Sh} {X : List Nat} (h : Box w b base sl L) (hc : Chg X w w') (hb : b ∉ X) (hx : ∀ g ∈ ob sl, g ∉ X) : Box w' b base sl L :=
  ⟨(hc.block b h.lt hb).trans h.box, h.own.far hc hx⟩
theorem Box.gw {w w' : World} {b base : Nat} {sl : Value} {L : List Sh} (h : Box w b base sl L) (hc : Gw w w') : Box w' b base sl L := h.far (Chg.ofBelow (X := []) hc.below) (by simp) (by simp)
end Go.Proofs.Ytfecngncapenjaa

/- container/heap.up over a row of trees. -/
namespace Go.Proofs.Ytfecngncapenjaa
open Go.RowKit Go.Lib Go.Shelf

theorem quo_par {j : Nat} (h : 0 < j) : ((j : Int) - 1).tdiv 2 = ((par j : Nat) : Int) := by
  obtain ⟨k, rfl⟩ : ∃ k, j = k + 1 := ⟨j - 1, by omega⟩
  have e : ((k + 1 : Nat) : Int) - 1 = (k : Int) := by omega
  rw [e]
  unfold par
  rw [Nat.add_sub_cancel]
  exact (Int.ofNat_tdiv k 2).symm
set_option maxHeartbeats 4000000 in
set_option maxRecDepth 100000 in
theorem up43 {w : World} {base b g n c : Nat} {M : List Sh} (h : Box w b base (.slice (some ⟨g, 0, none⟩) n c) M) (hn : M.length = n) (hc : c ≤ maxLen) {j : Nat} (hj : j < n) (hu : HUp M n j) (hbg : b ≠ g) :
    Calls Try.prog 43 #[.iface 50 (.pointer (some ⟨b, 0, none⟩)), .int .i64 (j : Int)] w fun e w' => e = .returned (.tuple #[]) ∧ ∃ M', Box w' b base (.slice (some ⟨g, 0, none⟩) n c) M' ∧ M'.Perm M ∧ Heap M' n ∧ Chg [g] w w' := by
  have e73 := eg73
  have e74 := eg74
  have HX := Hid.mk h
  have Hn := Hid.mk hn
  have HU := Hid.mk hu
  have Hbg := Hid.mk hbg
  have hcx : c ≤ 9223372036854775807 := hc
  have hnc : n ≤ c := by have := (h.own.rd s0).shape; obtain ⟨a', c', e', h1, _⟩ := this; simp at e'; omega
  clear h hn hu hbg
  go_enter Try.func43, Try.ntmps43
  go_wp2_with fail
  go_loopg [1, 4] n (fun gg s1 _ wr => ∃ i : Nat, ∃ M' : List Sh, i < n ∧ i ≤ gg ∧ s1 = .int .i64 (i : Int) ∧ Hid (Box wr b base (.slice (some ⟨g, 0, none⟩) n c) M') ∧ Hid (M'.Perm M) ∧ Hid (HUp M' n i) ∧ Hid (Chg [g] w wr))
  case atStart => exact ⟨j, M, hj, by omega, rfl, HX, ⟨List.Perm.refl _⟩, HU, ⟨Chg.refl _ _⟩⟩
  case round =>
    clear HX HU
    obtain ⟨i, M', hi, hgg, rfl, HX, HP, HU, HG⟩ := hrel
    rename World => wo
    have Hl : Hid (M'.length = n) := ⟨by rw [HP.out.length_eq, Hn.out]⟩
    by_cases h0 : i = 0
    · subst h0
      go_wp2_with fail
      go_end0
      exact ⟨rfl, M', HX.out, HP.out, up_stop HU.out (.inl rfl), HG.out⟩
    · have h1 : 0 < i := by omega
      have hq := quo_par h1
      have hpi : par i < i := by unfold par; omega
      obtain ⟨p, Hp⟩ : ∃ p, Hid (par i = p) := ⟨_, ⟨rfl⟩⟩
      rw [Hp.out] at hq hpi
      have hpn : p < n := by omega
      have hne : ((p : Int) == (i : Int)) = false := by simp; omega
      have m1 := finds_less wo b _ HX.out.cell
      have t1 := less73 HX.out.own Hl.out hc hi hpn
      obtain ⟨z, Hz⟩ : ∃ z, Hid (shl (M'.getD i s0) (M'.getD p s0) = z) := ⟨_, ⟨rfl⟩⟩
      rw [Hz.out] at t1
      have HuS := Hid.mk (up_step (by rw [Hl.out]; exact HU.out) h1 (by rw [Hl.out]; exact hi))
      have HuE := Hid.mk (fun hz => up_stop HU.out (.inr hz))
      rw [Hp.out, show At M' i = M'.getD i s0 from rfl, show At M' p = M'.getD p s0 from rfl, Hz.out, Hl.out] at HuS
      rw [Hp.out, show At M' i = M'.getD i s0 from rfl, show At M' p = M'.getD p s0 from rfl, Hz.out] at HuE
      cases z with
      | false =>
        go_wp2_with fail
        refine t1.mono ?_
        rintro e w1 ⟨rfl, hg1⟩
        have HG1 := Hid.mk hg1
        clear t1 hg1 m1
        go_wp2_with fail
        go_end0
        exact ⟨rfl, M', HX.out.gw HG1.out, HP.out, HuE.out (by trivial), HG.out.trans (Chg.ofBelow HG1.out.below)⟩
      | true =>
        go_wp2_with fail
        refine t1.mono ?_
        rintro e w1 ⟨rfl, hg1⟩
        have HX1 := Hid.mk (HX.out.gw hg1)
        have HG1 := Hid.mk (HG.out.trans (Chg.ofBelow hg1.below))
        clear t1 hg1 m1
        have m2 := finds_swap w1 b _ HX1.out.cell
        have t2 := swap74 HX1.out.own Hl.out hc hpn hi
        go_wp2_with fail
        refine t2.mono ?_
        rintro e w2 ⟨rfl, hO2, hG2⟩
        have HX2 : Hid (Box w2 b base (.slice (some ⟨g, 0, none⟩) n c) (swp M' p i)) := ⟨⟨(hG2.block b HX1.out.lt (by simpa using Hbg.out)).trans HX1.out.box, hO2⟩⟩
        have HG2 := Hid.mk (HG1.out.trans hG2)
        have HP2 : Hid ((swp M' p i).Perm M) := ⟨(swp_perm (by rw [Hl.out]; exact hpn) (by rw [Hl.out]; exact hi)).trans HP.out⟩
        clear t2 hO2 hG2 m2
        go_wp2_with fail
        go_roundg p
        case measure => omega
        case rel => exact ⟨p, swp M' p i, hpn, Nat.le_refl _, rfl, HX2, HP2, ⟨HuS.out (by trivial)⟩, HG2⟩
end Go.Proofs.Ytfecngncapenjaa

/- container/heap.down over a row of trees. -/
namespace Go.Proofs.Ytfecngncapenjaa
open Go.RowKit Go.Lib Go.Shelf

set_option maxHeartbeats 8000000 in
set_option maxRecDepth 100000 in
theorem down51 {w : World} {base b g m c : Nat} {M : List Sh} (h : Box w b base (.slice (some ⟨g, 0, none⟩) m c) M) (hm : M.length = m) (hc : c ≤ maxLen) {n : Nat} (hnm : n ≤ m) (hnb : n ≤ 10000000000000) (hu : HDn M n 0) (hbg : b ≠ g) :
    Calls Try.prog 51 #[.iface 50 (.pointer (some ⟨b, 0, none⟩)), .int .i64 0, .int .i64 (n : Int)] w fun e w' => ∃ x, e = .returned (.bool x) ∧ ∃ M', Box w' b base (.slice (some ⟨g, 0, none⟩) m c) M' ∧ M'.Perm M ∧ Heap M' n ∧ (∀ k, n ≤ k → At M' k = At M k) ∧ Chg [g] w w' := by
  have e73 := eg73
  have e74 := eg74
  have HX := Hid.mk h
  have Hm := Hid.mk hm
  have HD := Hid.mk hu
  have Hbg := Hid.mk hbg
  have hcx : c ≤ 9223372036854775807 := hc
  have hnc : m ≤ c := by have := (h.own.rd s0).shape; obtain ⟨a', c', e', h1, _⟩ := this; simp at e'; omega
  clear h hm hu hbg
  go_enter Try.func51, Try.ntmps51
  go_wp2_with fail
  go_loopg [7, 8, 9, 10] n (fun gg s7 _ _ _ wr => ∃ i : Nat, ∃ M' : List Sh, i ≤ n ∧ n - i ≤ gg ∧ s7 = .int .i64 (i : Int) ∧ Hid (Box wr b base (.slice (some ⟨g, 0, none⟩) m c) M') ∧ Hid (M'.Perm M) ∧ Hid (HDn M' n i) ∧ Hid (∀ k, n ≤ k → At M' k = At M k) ∧ Hid (Chg [g] w wr))
  case atStart => exact ⟨0, M, Nat.zero_le _, Nat.le_refl _, rfl, HX, ⟨List.Perm.refl _⟩, HD, ⟨fun _ _ => rfl⟩, ⟨Chg.refl _ _⟩⟩
  case round =>
    clear HX HD
    obtain ⟨i, M', hi, hgg, rfl, HX, HP, HD, HF, HG⟩ := hrel
    rename World => wo
    have Hl : Hid (M'.length = m) := ⟨by rw [HP.out.length_eq, Hm.out]⟩
    obtain ⟨q1, Hq1⟩ : ∃ q, Hid (2 * i + 1 = q) := ⟨_, ⟨rfl⟩⟩
    have hq1 : 2 * (i : Int) + 1 = (q1 : Int) := by have := Hq1.out; omega
    have hib : i ≤ 10000000000000 := by omega
    by_cases h1 : q1 < n
    · have h1z : ¬ (n : Int) ≤ (q1 : Int) := by omega
      have hq1p : ¬ (q1 : Int) < 0 := by omega
      have hiq : i < q1 := by have := Hq1.out; omega
      obtain ⟨q2, Hq2⟩ : ∃ q, Hid (q1 + 1 = q) := ⟨_, ⟨rfl⟩⟩
      have hq2 : (q1 : Int) + 1 = (q2 : Int) := by have := Hq2.out; omega
      have hq2b : q2 ≤ n := by have := Hq2.out; omega
      have hiq2 : i < q2 := by have := Hq2.out; omega
      have Hch : Hid (∀ k, 0 < k → par k = i → k = q1 ∨ k = q2) := ⟨fun k k0 hk => by have := Hq1.out; have := Hq2.out; unfold par at hk; omega⟩
      have Hp1 : Hid (par q1 = i) := ⟨by rw [← Hq1.out]; unfold par; omega⟩
      have Hp2 : Hid (par q2 = i) := ⟨by rw [← Hq2.out, ← Hq1.out]; unfold par; omega⟩
      by_cases h2 : q2 < n
      · have h2z : (q2 : Int) < (n : Int) := by omega
        have m1 := finds_less wo b _ HX.out.cell
        have t1 := less73 HX.out.own Hl.out hc (i := q2) (j := q1) (by omega) (by omega)
        obtain ⟨y, Hy⟩ : ∃ z, Hid (shl (M'.getD q2 s0) (M'.getD q1 s0) = z) := ⟨_, ⟨rfl⟩⟩
        rw [Hy.out] at t1
        cases y with
        | true =>
          have Hlow : Hid (∀ k, 0 < k → k < n → par k = i → shl (At M' k) (At M' q2) = false) := ⟨fun k k0 _ hk => by
            rcases Hch.out k k0 hk with rfl | rfl
            · exact shl_as Hy.out
            · exact shl_irr _⟩
          go_upto_region 8 with (refine t1.mono ?_; rintro e w1 ⟨rfl, hg1⟩; have HX1 := Hid.mk (HX.out.gw hg1); have HG1 := Hid.mk (HG.out.trans (Chg.ofBelow hg1.below)); clear t1 hg1 m1)
          have m5 := finds_less w1 b _ HX1.out.cell
          have t5 := less73 HX1.out.own Hl.out hc (i := q2) (j := i) (by omega) (by omega)
          obtain ⟨z, Hz⟩ : ∃ z, Hid (shl (M'.getD q2 s0) (M'.getD i s0) = z) := ⟨_, ⟨rfl⟩⟩
          rw [Hz.out] at t5
          have HdS := Hid.mk (dn_step (by rw [Hl.out]; exact hnm) HD.out (j := q2) (by omega) h2 Hp2.out Hlow.out)
          have HdE : Hid (z = false → Heap M' n) := ⟨fun hz => dn_stop HD.out (fun k k0 hk hp => shl_nt (Hlow.out k k0 hk hp) (by rw [← hz, ← Hz.out]; rfl))⟩
          rw [show At M' q2 = M'.getD q2 s0 from rfl, show At M' i = M'.getD i s0 from rfl, Hz.out] at HdS
          cases z with
          | false =>
            go_wp2_with fail
            refine t5.mono ?_
            rintro e w5 ⟨rfl, hg5⟩
            have HX5 := Hid.mk (HX1.out.gw hg5)
            have HG5 := Hid.mk (HG1.out.trans (Chg.ofBelow hg5.below))
            have HE := Hid.mk (HdE.out (by trivial))
            clear t5 hg5 m5
            go_wp2_with fail
            go_ret
            exact ⟨_, rfl, M', HX5.out, HP.out, HE.out, HF.out, HG5.out⟩
          | true =>
            go_wp2_with fail
            refine t5.mono ?_
            rintro e w5 ⟨rfl, hg5⟩
            have HX5 := Hid.mk (HX1.out.gw hg5)
            have HG5 := Hid.mk (HG1.out.trans (Chg.ofBelow hg5.below))
            have HS := Hid.mk (HdS.out (by trivial))
            clear t5 hg5 m5
            have m6 := finds_swap w5 b _ HX5.out.cell
            have t6 := swap74 HX5.out.own Hl.out hc (i := i) (j := q2) (by omega) (by omega)
            go_wp2_with fail
            refine t6.mono ?_
            rintro e w6 ⟨rfl, hO6, hG6⟩
            have HX6 : Hid (Box w6 b base (.slice (some ⟨g, 0, none⟩) m c) (swp M' i q2)) := ⟨⟨(hG6.block b HX5.out.lt (by simpa using Hbg.out)).trans HX5.out.box, hO6⟩⟩
            have HG6 := Hid.mk (HG5.out.trans hG6)
            have HP6 : Hid ((swp M' i q2).Perm M) := ⟨(swp_perm (by rw [Hl.out]; omega) (by rw [Hl.out]; omega)).trans HP.out⟩
            have HF6 : Hid (∀ k, n ≤ k → At (swp M' i q2) k = At M k) := ⟨fun k hk => by rw [swp_at (by rw [Hl.out]; omega) (by rw [Hl.out]; omega), if_neg (by omega), if_neg (by omega)]; exact HF.out k hk⟩
            clear t6 hO6 hG6 m6
            go_wp2_with fail
            go_roundg (n - q2)
            case measure => omega
            case rel => exact ⟨q2, swp M' i q2, by omega, Nat.le_refl _, rfl, HX6, HP6, HS, HF6, HG6⟩
        | false =>
          have Hlow : Hid (∀ k, 0 < k → k < n → par k = i → shl (At M' k) (At M' q1) = false) := ⟨fun k k0 _ hk => by
            rcases Hch.out k k0 hk with rfl | rfl
            · exact shl_irr _
            · exact Hy.out⟩
          go_upto_region 8 with (refine t1.mono ?_; rintro e w1 ⟨rfl, hg1⟩; have HX1 := Hid.mk (HX.out.gw hg1); have HG1 := Hid.mk (HG.out.trans (Chg.ofBelow hg1.below)); clear t1 hg1 m1)
          have m5 := finds_less w1 b _ HX1.out.cell
          have t5 := less73 HX1.out.own Hl.out hc (i := q1) (j := i) (by omega) (by omega)
          obtain ⟨z, Hz⟩ : ∃ z, Hid (shl (M'.getD q1 s0) (M'.getD i s0) = z) := ⟨_, ⟨rfl⟩⟩
          rw [Hz.out] at t5
          have HdS := Hid.mk (dn_step (by rw [Hl.out]; exact hnm) HD.out (j := q1) (by omega) h1 Hp1.out Hlow.out)
          have HdE : Hid (z = false → Heap M' n) := ⟨fun hz => dn_stop HD.out (fun k k0 hk hp => shl_nt (Hlow.out k k0 hk hp) (by rw [← hz, ← Hz.out]; rfl))⟩
          rw [show At M' q1 = M'.getD q1 s0 from rfl, show At M' i = M'.getD i s0 from rfl, Hz.out] at HdS
          cases z with
          | false =>
            go_wp2_with fail
            refine t5.mono ?_
            rintro e w5 ⟨rfl, hg5⟩
            have HX5 := Hid.mk (HX1.out.gw hg5)
            have HG5 := Hid.mk (HG1.out.trans (Chg.ofBelow hg5.below))
            have HE := Hid.mk (HdE.out (by trivial))
            clear t5 hg5 m5
            go_wp2_with fail
            go_ret
            exact ⟨_, rfl, M', HX5.out, HP.out, HE.out, HF.out, HG5.out⟩
          | true =>
            go_wp2_with fail
            refine t5.mono ?_
            rintro e w5 ⟨rfl, hg5⟩
            have HX5 := Hid.mk (HX1.out.gw hg5)
            have HG5 := Hid.mk (HG1.out.trans (Chg.ofBelow hg5.below))
            have HS := Hid.mk (HdS.out (by trivial))
            clear t5 hg5 m5
            have m6 := finds_swap w5 b _ HX5.out.cell
            have t6 := swap74 HX5.out.own Hl.out hc (i := i) (j := q1) (by omega) (by omega)
            go_wp2_with fail
            refine t6.mono ?_
            rintro e w6 ⟨rfl, hO6, hG6⟩
            have HX6 : Hid (Box w6 b base (.slice (some ⟨g, 0, none⟩) m c) (swp M' i q1)) := ⟨⟨(hG6.block b HX5.out.lt (by simpa using Hbg.out)).trans HX5.out.box, hO6⟩⟩
            have HG6 := Hid.mk (HG5.out.trans hG6)
            have HP6 : Hid ((swp M' i q1).Perm M) := ⟨(swp_perm (by rw [Hl.out]; omega) (by rw [Hl.out]; omega)).trans HP.out⟩
            have HF6 : Hid (∀ k, n ≤ k → At (swp M' i q1) k = At M k) := ⟨fun k hk => by rw [swp_at (by rw [Hl.out]; omega) (by rw [Hl.out]; omega), if_neg (by omega), if_neg (by omega)]; exact HF.out k hk⟩
            clear t6 hO6 hG6 m6
            go_wp2_with fail
            go_roundg (n - q1)
            case measure => omega
            case rel => exact ⟨q1, swp M' i q1, by omega, Nat.le_refl _, rfl, HX6, HP6, HS, HF6, HG6⟩
      · have h2z : ¬ (q2 : Int) < (n : Int) := by omega
        have Hlow : Hid (∀ k, 0 < k → k < n → par k = i → shl (At M' k) (At M' q1) = false) := ⟨fun k k0 hk' hk => by
          rcases Hch.out k k0 hk with rfl | rfl
          · exact shl_irr _
          · omega⟩
        go_upto_region 8 with fail
        have m5 := finds_less wo b _ HX.out.cell
        have t5 := less73 HX.out.own Hl.out hc (i := q1) (j := i) (by omega) (by omega)
        obtain ⟨z, Hz⟩ : ∃ z, Hid (shl (M'.getD q1 s0) (M'.getD i s0) = z) := ⟨_, ⟨rfl⟩⟩
        rw [Hz.out] at t5
        have HdS := Hid.mk (dn_step (by rw [Hl.out]; exact hnm) HD.out (j := q1) (by omega) h1 Hp1.out Hlow.out)
        have HdE : Hid (z = false → Heap M' n) := ⟨fun hz => dn_stop HD.out (fun k k0 hk hp => shl_nt (Hlow.out k k0 hk hp) (by rw [← hz, ← Hz.out]; rfl))⟩
        rw [show At M' q1 = M'.getD q1 s0 from rfl, show At M' i = M'.getD i s0 from rfl, Hz.out] at HdS
        cases z with
        | false =>
          go_wp2_with fail
          refine t5.mono ?_
          rintro e w5 ⟨rfl, hg5⟩
          have HX5 := Hid.mk (HX.out.gw hg5)
          have HG5 := Hid.mk (HG.out.trans (Chg.ofBelow hg5.below))
          have HE := Hid.mk (HdE.out (by trivial))
          clear t5 hg5 m5
          go_wp2_with fail
          go_ret
          exact ⟨_, rfl, M', HX5.out, HP.out, HE.out, HF.out, HG5.out⟩
        | true =>
          go_wp2_with fail
          refine t5.mono ?_
          rintro e w5 ⟨rfl, hg5⟩
          have HX5 := Hid.mk (HX.out.gw hg5)
          have HG5 := Hid.mk (HG.out.trans (Chg.ofBelow hg5.below))
          have HS := Hid.mk (HdS.out (by trivial))
          clear t5 hg5 m5
          have m6 := finds_swap w5 b _ HX5.out.cell
          have t6 := swap74 HX5.out.own Hl.out hc (i := i) (j := q1) (by omega) (by omega)
          go_wp2_with fail
          refine t6.mono ?_
          rintro e w6 ⟨rfl, hO6, hG6⟩
          have HX6 : Hid (Box w6 b base (.slice (some ⟨g, 0, none⟩) m c) (swp M' i q1)) := ⟨⟨(hG6.block b HX5.out.lt (by simpa using Hbg.out)).trans HX5.out.box, hO6⟩⟩
          have HG6 := Hid.mk (HG5.out.trans hG6)
          have HP6 : Hid ((swp M' i q1).Perm M) := ⟨(swp_perm (by rw [Hl.out]; omega) (by rw [Hl.out]; omega)).trans HP.out⟩
          have HF6 : Hid (∀ k, n ≤ k → At (swp M' i q1) k = At M k) := ⟨fun k hk => by rw [swp_at (by rw [Hl.out]; omega) (by rw [Hl.out]; omega), if_neg (by omega), if_neg (by omega)]; exact HF.out k hk⟩
          clear t6 hO6 hG6 m6
          go_wp2_with fail
          go_roundg (n - q1)
          case measure => omega
          case rel => exact ⟨q1, swp M' i q1, by omega, Nat.le_refl _, rfl, HX6, HP6, HS, HF6, HG6⟩
    · have h1z : (n : Int) ≤ (q1 : Int) := by omega
      have HE := Hid.mk (dn_stop HD.out (fun k k0 hk hp => by have := Hq1.out; unfold par at hp; omega))
      go_wp2_with fail
      go_ret
      exact ⟨_, rfl, M', HX.out, HP.out, HE.out, HF.out, HG.out⟩
end Go.Proofs.Ytfecngncapenjaa
