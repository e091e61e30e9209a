/- As many shards as a group has of data: add, baseOf, baseLeft; small questions. -/
import Derived.Test.YtbdmbhpmbklaiaaS4
namespace Go.Proofs.Ytbdmbhpmbklaiaa
open Go.RowKit Gf

def BaseX (w : World) (B : Nat × TypeId) (base p : Nat) (pv rv : Value) (P : List G) (R : List Sd) : Prop := w.heap[p]? = some (.cells #[pv, rv] 44 (0, 0)) ∧ OwnG w base pv P ∧ OwnR w B base rv R ∧ base ≤ p
def BaseAt (w : World) (B : Nat × TypeId) (base p : Nat) (P : List G) (R : List Sd) : Prop := ∃ pv rv, BaseX w B base p pv rv P R
theorem BaseX.below {w w' : World} {B : Nat × TypeId} {base p : Nat} {pv rv : Value} {P : List G} {R : List Sd} (h : BaseX w B base p pv rv P R) (hb : Below w.heap.size w w') : BaseX w' B base p pv rv P R :=
  ⟨(hb.block _ (Array.getElem?_eq_some_iff.1 h.1).1).trans h.1, h.2.1.far (Chg.ofBelow (X := []) hb) (by simp), h.2.2.1.below hb, h.2.2.2⟩
section
variable {w : World}
set_option maxHeartbeats 4000000 in
set_option maxRecDepth 100000 in
theorem add37 {B : Nat × TypeId} {base p : Nat} {P : List G} {R : List Sd} (i : Nat) (sa : Option Addr) (sn sc : Nat) (s : Sd) (h : BaseAt w B base p P R) (hB : B.1 ≤ base) (hT : B.2 = 1000) (hs : RdS w B (.slice sa sn sc) s) (hi : i < 256) (hP : P.length ≤ 1000) (hR : R.length ≤ 1000) (hbase : base ≤ w.heap.size) :
    Calls Try.prog 37 #[.pointer (some ⟨p, 0, none⟩), .int .i64 i, .slice sa sn sc] w fun e w' => e = .returned (.tuple #[]) ∧ BaseAt w' B base p (P ++ [gn i]) (R ++ [s]) ∧ Below base w w' := by
  obtain ⟨pv, rv, h1, h2, h3, h4⟩ := h
  obtain ⟨pa, pc, rfl, _⟩ := h2.rd.shape
  obtain ⟨ra, rc, rfl, _⟩ := h3.rd.shape
  have HS := Hid.mk hs
  have HG := Hid.mk h2
  have HR := Hid.mk h3
  have HX := Hid.mk h1
  have c0 : w.cell? ⟨p, 0, none⟩ = some (.slice pa P.length pc) := by rw [cell_of_row _ _ _ _ _ _ h1]; rfl
  obtain ⟨n, Hn⟩ : ∃ n, Hid (P.length = n) := ⟨_, ⟨rfl⟩⟩
  obtain ⟨m, Hm⟩ : ∃ n, Hid (R.length = n) := ⟨_, ⟨rfl⟩⟩
  rw [Hn.out] at HG HX c0
  rw [Hm.out] at HR HX
  have hPl : P.length ≤ 1000000000000 := by omega
  have hRl : R.length ≤ 1000000000000 := by omega
  have hgn := gi_gn hi
  obtain ⟨y, Hy⟩ : ∃ y, Hid (gn i = y) := ⟨_, ⟨rfl⟩⟩
  rw [Hy.out] at hgn ⊢
  have hT : Ty w 44 p := ⟨_, h1⟩
  have HT := Hid.mk hT
  clear hs h1 h2 h3 hT
  go_enter Try.func37, Try.ntmps37
  go_upto_region 1 with (rw [← hgn]; refine wp_appG1 rfl (.tmp 10) (.tmp 13) rfl rfl HG.out rfl hPl hbase ?_; intro v7 w7 hO7 hG7 hV7; obtain ⟨a7, c7, e7, _⟩ := hO7.rd.shape; subst e7; obtain ⟨n7, Hn7⟩ : ∃ n, Hid ((P ++ [y]).length = n) := ⟨_, ⟨rfl⟩⟩; rw [Hn7.out] at hO7 hV7 ⊢; have HO7 := Hid.mk hO7; have HG7 : Hid (Chg (ob (.slice pa n pc)) w w7) := ⟨hG7⟩; have HX7 : Hid (w7.heap[p]? = some (.cells #[.slice pa n pc, .slice ra m rc] 44 (0, 0))) := ⟨(HG7.out.block p (Array.getElem?_eq_some_iff.1 HX.out).1 (fun hm => (Ty.ne HT.out (own_ty HG.out (mem_ob.1 hm)) (by decide)) rfl)).trans HX.out⟩; have f7 : w7.frozen? ⟨p, 0, none⟩ = false := frozen_of_row w7 p 0 _ 44 HX7.out; have c7' : w7.cell? ⟨p, 0, none⟩ = some (.slice pa n pc) := (by rw [cell_of_row _ _ _ _ _ _ HX7.out]; rfl); clear hO7 hG7 hV7)
  obtain ⟨w8, Hw8⟩ : ∃ x, Hid (w7.setCell ⟨p, 0, none⟩ (.slice a7 n7 c7) = x) := ⟨_, ⟨rfl⟩⟩
  have hin : ∀ k, k < B.1 ∨ Ty w B.2 k → k ∉ ob (.slice pa n pc) := fun k hk hm => by
    rcases hk with hk | hk
    · have := (HG.out.lt k hm).1; omega
    · exact (Ty.ne hk (own_ty HG.out (mem_ob.1 hm)) (by rw [hT]; decide)) rfl
  have HR7 : Hid (OwnR w7 B base (.slice ra m rc) R) := ⟨HR.out.far HG7.out hin (fun k hk hm => (Ty.ne (HR.out.ty k hk) (own_ty HG.out (mem_ob.1 hm)) (by decide)) rfl)⟩
  have HS7 : Hid (RdS w7 B (.slice sa sn sc) s) := ⟨HS.out.far HG7.out hin⟩
  have HT7 : Hid (Ty w7 44 p) := ⟨⟨_, HX7.out⟩⟩
  have hc8 := (Chg.refl [p] w7).setCell (a := ⟨p, 0, none⟩) (.inl (by simp)) (.slice a7 n7 c7)
  have hp8 : ∀ k, k < B.1 ∨ Ty w7 B.2 k → k ∉ [p] := fun k hk hm => by
    simp at hm
    subst hm
    rcases hk with hk | hk
    · omega
    · exact (Ty.ne hk HT7.out (by rw [hT]; decide)) rfl
  have HR8 : Hid (OwnR w8 B base (.slice ra m rc) R) := ⟨by rw [← Hw8.out]; exact HR7.out.far hc8 hp8 (fun k hk hm => by simp at hm; subst hm; exact (Ty.ne (HR7.out.ty k hk) HT7.out (by decide)) rfl)⟩
  have HS8 : Hid (RdS w8 B (.slice sa sn sc) s) := ⟨by rw [← Hw8.out]; exact HS7.out.far hc8 hp8⟩
  have HO8 : Hid (OwnG w8 base (.slice a7 n7 c7) (P ++ [y])) := ⟨by rw [← Hw8.out]; exact HO7.out.far hc8 (fun k hk hm => by simp at hm; subst hm; exact (Ty.ne (own_ty HO7.out (mem_ob.1 hk)) HT7.out (by decide)) rfl)⟩
  have HX8 : Hid (w8.heap[p]? = some (.cells #[.slice a7 n7 c7, .slice ra m rc] 44 (0, 0))) := ⟨by rw [← Hw8.out]; exact heap_setCell_same w7 p 0 _ 44 _ HX7.out⟩
  have HB8 : Hid (Below base w w8) := ⟨by
    rw [← Hw8.out]
    exact (HG7.out.below hbase (fun k hk => (HG.out.lt k hk).1)).trans (hc8.below (Nat.le_trans hbase HG7.out.size) (by simp; exact h4))⟩
  have hb8 : base ≤ w8.heap.size := Nat.le_trans hbase HB8.out.size
  have d1 : w8.cell? ⟨p, 1, none⟩ = some (.slice ra m rc) := by rw [cell_of_row _ _ _ _ _ _ HX8.out]; rfl
  have HT8 : Hid (Ty w8 44 p) := ⟨⟨_, HX8.out⟩⟩
  rw [Hw8.out]
  clear hin hc8 hp8 HR7 HS7 HO7 HX7 f7 c7' HG7 c0
  go_wp2_with (refine wp_appR1 rfl (.tmp 21) (.tmp 23) rfl rfl HR8.out hB (by rw [hT]; decide) HS8.out rfl hRl hb8 ?_; intro v9 w9 hO9 hG9 hV9; obtain ⟨a9, c9, e9, _⟩ := hO9.rd.shape; subst e9; obtain ⟨n9, Hn9⟩ : ∃ n, Hid ((R ++ [s]).length = n) := ⟨_, ⟨rfl⟩⟩; rw [Hn9.out] at hO9 hV9 ⊢; have HO9 := Hid.mk hO9; have HG9 : Hid (Chg (ob (.slice ra m rc)) w8 w9) := ⟨hG9⟩; have HX9 : Hid (w9.heap[p]? = some (.cells #[.slice a7 n7 c7, .slice ra m rc] 44 (0, 0))) := ⟨(HG9.out.block p (Array.getElem?_eq_some_iff.1 HX8.out).1 (fun hm => (Ty.ne HT8.out (HR8.out.ty p hm) (by decide)) rfl)).trans HX8.out⟩; have f9 : w9.frozen? ⟨p, 1, none⟩ = false := frozen_of_row w9 p 1 _ 44 HX9.out; have c9' : w9.cell? ⟨p, 1, none⟩ = some (.slice ra m rc) := (by rw [cell_of_row _ _ _ _ _ _ HX9.out]; rfl); clear hO9 hG9 hV9)
  go_end0
  have hcA := (Chg.refl [p] w9).setCell (a := ⟨p, 1, none⟩) (.inl (by simp)) (.slice a9 n9 c9)
  have HT9 : Ty w9 44 p := ⟨_, HX9.out⟩
  have hpA : ∀ k, k < B.1 ∨ Ty w9 B.2 k → k ∉ [p] := fun k hk hm => by
    simp at hm
    subst hm
    rcases hk with hk | hk
    · omega
    · exact (Ty.ne hk HT9 (by rw [hT]; decide)) rfl
  have HO89 : OwnG w9 base (.slice a7 n7 c7) (P ++ [y]) := HO8.out.far HG9.out (fun k hk hm => (Ty.ne (own_ty HO8.out (mem_ob.1 hk)) (HR8.out.ty k hm) (by decide)) rfl)
  refine ⟨rfl, ⟨_, _, heap_setCell_same w9 p 1 _ 44 _ HX9.out, HO89.far hcA (fun k hk hm => by simp at hm; subst hm; exact (Ty.ne (own_ty HO89 (mem_ob.1 hk)) HT9 (by decide)) rfl), HO9.out.far hcA hpA (fun k hk hm => by simp at hm; subst hm; exact (Ty.ne (HO9.out.ty k hk) HT9 (by decide)) rfl), h4⟩, ?_⟩
  exact HB8.out.trans ((HG9.out.below hb8 (fun k hk => (HR8.out.lt k hk).1)).trans (hcA.below (Nat.le_trans hb8 HG9.out.size) (by simp; exact h4)))
theorem isData21 (n : Int) : Calls Try.prog 21 #[.int .i64 n] w fun e w' => e = .returned (.bool (decide (1 ≤ n ∧ n ≤ 32))) ∧ w = w' := by
  by_cases h1 : 1 ≤ n
  · by_cases h2 : n ≤ 32
    · rw [decide_eq_true ⟨h1, h2⟩]
      go_enter Try.func21, Try.ntmps21
      go_wp2_with fail
      go_ret
      exact ⟨rfl, rfl⟩
    · rw [decide_eq_false (fun h => h2 h.2)]
      go_enter Try.func21, Try.ntmps21
      go_wp2_with fail
      go_ret
      exact ⟨rfl, rfl⟩
  · rw [decide_eq_false (fun h => h1 h.1)]
    go_enter Try.func21, Try.ntmps21
    go_wp2_with fail
    go_ret
    exact ⟨rfl, rfl⟩
theorem isParity22 (n : Int) : Calls Try.prog 22 #[.int .i64 n] w fun e w' => e = .returned (.bool (decide (0 ≤ n ∧ n ≤ 16))) ∧ w = w' := by
  by_cases h1 : 0 ≤ n
  · by_cases h2 : n ≤ 16
    · rw [decide_eq_true ⟨h1, h2⟩]
      go_enter Try.func22, Try.ntmps22
      go_wp2_with fail
      go_ret
      exact ⟨rfl, rfl⟩
    · rw [decide_eq_false (fun h => h2 h.2)]
      go_enter Try.func22, Try.ntmps22
      go_wp2_with fail
      go_ret
      exact ⟨rfl, rfl⟩
  · rw [decide_eq_false (fun h => h1 h.1)]
    go_enter Try.func22, Try.ntmps22
    go_wp2_with fail
    go_ret
    exact ⟨rfl, rfl⟩
end
end Go.Proofs.Ytbdmbhpmbklaiaa
