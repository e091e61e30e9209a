/- Bytes, and those of a piece behind them: follow. -/
import Derived.Test.YtoneepoaodoijaaQ3
namespace Go.Proofs.Ytoneepoaodoijaa
open Go.RowKit Go.Lib Oct

theorem Chg.step {X Y : List Nat} {w w1 w2 : World} (h : Chg X w w1) (k : Chg Y w1 w2) (hY : ∀ g ∈ Y, g ∈ X ∨ w.heap.size ≤ g) : Chg X w w2 :=
  ⟨k.os.trans h.os, k.tape.trans h.tape, k.output.trans h.output, Nat.le_trans h.size k.size, fun j hj hx => (k.block j (Nat.lt_of_lt_of_le hj h.size) (fun hm => by rcases hY j hm with h1 | h1; exact hx h1; omega)).trans (h.block j hj hx)⟩
/-- Where a slice lies: in its elder block, or in a new one. -/
def NewB (w : World) (u v : Value) : Prop := ∀ g ∈ ob v, g ∈ ob u ∨ w.heap.size ≤ g
section
variable {w : World}
set_option maxHeartbeats 4000000 in
set_option maxRecDepth 100000 in
theorem follow21 (a : Option Addr) (n c : Nat) (far m : Nat) (pv : Value) (p pl : List Int) {base : Nat} (hpl : RdY w (.slice a n c) pl) (hp : OwnY w base pv p) (hbase : base ≤ w.heap.size) (hby : By (p ++ pl)) (hfar : m = 0 ∨ (1 ≤ far ∧ far ≤ (p ++ pl).length)) (hlen : p.length + pl.length + m ≤ 1000000) (hff : far ≤ 9007199254740991) :
    Calls Try.prog 21 #[pcv a n c far m, pv] w fun e w' => ∃ a' n' c', e = .returned (.slice a' n' c') ∧ OwnY w' base (.slice a' n' c') (cpy far m (p ++ pl)) ∧ Chg (ob pv) w w' ∧ NewB w pv (.slice a' n' c') := by
  obtain ⟨w1, Hw1⟩ : ∃ x, Hid (w.alloc (.cells #[.slice a n c, .int .i64 (far : Int), .int .i64 (m : Int)] 38) = x) := ⟨_, ⟨rfl⟩⟩
  have HB1 : Hid (Below w.heap.size w w1) := ⟨by rw [← Hw1.out]; exact (Below.refl _ w).alloc (Nat.le_refl _) _⟩
  have HX1 : Hid (w1.heap[w.heap.size]? = some (.cells #[.slice a n c, .int .i64 (far : Int), .int .i64 (m : Int)] 38 (0, 0))) := ⟨by rw [← Hw1.out]; exact heap_alloc_new w _⟩
  obtain ⟨q, Hq⟩ : ∃ q, Hid (w.heap.size = q) := ⟨_, ⟨rfl⟩⟩
  rw [Hq.out] at HX1
  have HO1 : Hid (OwnY w1 base pv p) := ⟨own_far hp (Chg.ofBelow (X := []) HB1.out) (by simp)⟩
  have HP1 : Hid (RdY w1 (.slice a n c) pl) := ⟨hpl.far (Chg.ofBelow (X := []) HB1.out) (by simp)⟩
  have hb1 : base ≤ w1.heap.size := Nat.le_trans hbase HB1.out.size
  have hl1 : p.length + pl.length ≤ 1000000000000 := by omega
  obtain ⟨pa, pc, e, _⟩ := hp.shape
  subst e
  have HBy := Hid.mk hby
  obtain ⟨P, HP⟩ : ∃ P, Hid (p ++ pl = P) := ⟨_, ⟨rfl⟩⟩
  obtain ⟨L, HL⟩ : ∃ L, Hid (P.length = L) := ⟨_, ⟨rfl⟩⟩
  have hL : L ≤ 1000000 ∧ L + m ≤ 1000000 := by rw [← HL.out, ← HP.out, List.length_append]; omega
  rw [HP.out, HL.out] at hfar
  have HCh : Hid (Chg (ob (.slice pa p.length pc)) w w1) := ⟨Chg.ofBelow HB1.out⟩
  have HNs : Hid (∀ (v : Value) (w2 : World), (v.ownBlock = (Value.slice pa p.length pc).ownBlock ∨ v.ownBlock = some w1.heap.size) → NewB w (.slice pa p.length pc) v) := ⟨fun v w2 h g hg => by
    rcases h with h | h
    · exact .inl (mem_ob.2 (h.symm.trans (mem_ob.1 hg)))
    · have := mem_ob.1 hg
      rw [h] at this
      simp at this
      have := HB1.out.size
      omega⟩
  obtain ⟨pn, Hpn⟩ : ∃ L, Hid (p.length = L) := ⟨_, ⟨rfl⟩⟩
  rw [HP.out]
  rw [Hpn.out] at HO1 HCh HNs ⊢
  have hl2 : p.length + pl.length ≤ 1000000000000 := hl1
  have c0 : w1.cell? ⟨q, 0, none⟩ = some (.slice a n c) := by rw [cell_of_row _ _ _ _ _ _ HX1.out]; rfl
  unfold pcv
  clear hp hpl hby hlen hl1
  go_enter Try.func21, Try.ntmps21
  go_upto_region 2 with (rw [Hw1.out]; refine wp_appY rfl (.tmp 5) (.tmp 7) rfl rfl HO1.out rfl HP1.out hl2 hb1 ?_; intro v2 w2 hO2 hG2 hV2; have HO2 := Hid.mk hO2; have HG2 := Hid.mk hG2; have HV2 := Hid.mk hV2; clear hO2 hG2 hV2)
  rw [Hq.out]
  have HX2 : Hid (w2.heap[q]? = some (.cells #[.slice a n c, .int .i64 (far : Int), .int .i64 (m : Int)] 38 (0, 0))) := ⟨(HG2.out.block q (Array.getElem?_eq_some_iff.1 HX1.out).1 (fun hm => (Ty.ne (⟨_, HX1.out⟩ : Ty w1 38 q) (own_ty HO1.out (mem_ob.1 hm)) (by decide)) rfl)).trans HX1.out⟩
  have HC2 : Hid (Chg (ob (.slice pa pn pc)) w w2) := ⟨HCh.out.thenNew HG2.out (fun x hx => .inl hx)⟩
  have HN2 := Hid.mk (HNs.out v2 w2 HV2.out)
  rw [HP.out] at HO2
  have hb2 : base ≤ w2.heap.size := Nat.le_trans hb1 HG2.out.size
  obtain ⟨a2, c2, e2, _⟩ := HO2.out.shape
  subst e2
  rw [HL.out] at HO2 HN2 ⊢
  have d2 : w2.cell? ⟨q, 2, none⟩ = some (.int .i64 (m : Int)) := by rw [cell_of_row _ _ _ _ _ _ HX2.out]; rfl
  have HCP : Hid (∀ i, (cpy far i P).length = L + i) := ⟨fun i => by rw [cpy_len, HL.out]⟩
  have HBP : Hid (∀ i, By (cpy far i P)) := ⟨fun i => by have := HBy.out; rw [HP.out] at this; exact this.cpy⟩
  clear HO1 HP1 HX1 HV2 HG2 HNs HBy HCh
  go_upto_region 3 with fail
  go_loopg [11, 1] m (fun gg s11 s1 wr => ∃ (i : Nat) (ra : Option Addr) (rc : Nat), i ≤ m ∧ m - i ≤ gg ∧ s11 = .int .i64 (i : Int) ∧ s1 = .slice ra (L + i) rc ∧ Hid (OwnY wr base (.slice ra (L + i) rc) (cpy far i P)) ∧ Hid (Chg (ob (.slice pa pn pc)) w wr) ∧ Hid (NewB w (.slice pa pn pc) (.slice ra (L + i) rc)) ∧ Hid (wr.heap[q]? = some (.cells #[.slice a n c, .int .i64 (far : Int), .int .i64 (m : Int)] 38 (0, 0))))
  case atStart => exact ⟨0, a2, c2, Nat.zero_le _, by omega, rfl, rfl, HO2, HC2, HN2, HX2⟩
  case round =>
    clear HO2 HC2 HN2 HX2 d2
    obtain ⟨i, ra, rc, him, hgg, rfl, rfl, HO, HC, HN, HX⟩ := hrel
    rename World => wo
    by_cases hlt : i < m
    · have hltz : (i : Int) < (m : Int) := by omega
      have hf : 1 ≤ far ∧ far ≤ L := by rcases hfar with h | h; omega; exact h
      have d1 : wo.cell? ⟨q, 1, none⟩ = some (.int .i64 (far : Int)) := by rw [cell_of_row _ _ _ _ _ _ HX.out]; rfl
      obtain ⟨b, off, cap, e, hcp, hat⟩ := HO.out.rd.at (i := L + i - far) (by rw [HCP.out]; omega)
      rw [HCP.out] at e hat hcp
      simp only [Value.slice.injEq] at e
      obtain ⟨rfl, -, rfl⟩ := e
      have d3 := hat (L + i - far) (by omega)
      obtain ⟨y, Hy⟩ : ∃ y, Hid ((cpy far i P).getD (L + i - far) 0 = y) := ⟨_, ⟨rfl⟩⟩
      rw [Hy.out] at d3
      have HNX : Hid (cpy far (i + 1) P = cpy far i P ++ [y]) := ⟨by rw [cpy_snoc, HCP.out, Hy.out]⟩
      have hsub : IntKind.i64.wrap (((L + i : Nat) : Int) - (far : Int)) = ((L + i - far : Nat) : Int) := by rw [show ((L + i : Nat) : Int) - (far : Int) = ((L + i - far : Nat) : Int) by omega]; exact IntWalk.i64_in _ ⟨by omega, by omega⟩
      have hidx : ((L + i - far : Nat) : Int) < ((L + i : Nat) : Int) := by omega
      obtain ⟨k, Hk⟩ : ∃ k, Hid (L + i - far = k) := ⟨_, ⟨rfl⟩⟩
      obtain ⟨s, Hs⟩ : ∃ k, Hid (L + i = k) := ⟨_, ⟨rfl⟩⟩
      have hcl : (cpy far i P).length ≤ 1000000000000 := by rw [HCP.out]; omega
      have hbo : base ≤ wo.heap.size := Nat.le_trans hbase HC.out.size
      have hsk : k < s := by rw [← Hk.out, ← Hs.out]; omega
      rw [Hk.out] at d3 hsub hidx
      rw [Hs.out] at hsub hidx HO HN hcp ⊢
      have hle : s ≤ 1000000 := by rw [← Hs.out]; omega
      clear hat
      go_wp2_with (refine wp_appY1 (y := y) rfl (.tmp 13) (.tmp 22) rfl rfl HO.out rfl hcl hbo ?_; intro v7 w7 hO7 hG7 hV7; have HO7 := Hid.mk hO7; have HG7 := Hid.mk hG7; have HV7 := Hid.mk hV7; clear hO7 hG7 hV7)
      rw [← HNX.out] at HO7
      obtain ⟨a7, c7, e7, _⟩ := HO7.out.shape
      rw [HCP.out] at e7
      subst e7
      have HC7 : Hid (Chg (ob (.slice pa pn pc)) w w7) := ⟨HC.out.thenNew HG7.out HN.out⟩
      have HN7 : Hid (NewB w (.slice pa pn pc) (.slice a7 (L + (i + 1)) c7)) := ⟨fun g hg => by
        rcases HV7.out with h | h
        · exact HN.out g (mem_ob.2 (h.symm.trans (mem_ob.1 hg)))
        · have h2 := mem_ob.1 hg
          rw [h] at h2
          simp at h2
          have := HC.out.size
          right
          omega⟩
      have HX7 : Hid (w7.heap[q]? = some (.cells #[.slice a n c, .int .i64 (far : Int), .int .i64 (m : Int)] 38 (0, 0))) := ⟨(HG7.out.block q (Array.getElem?_eq_some_iff.1 HX.out).1 (fun hm => (Ty.ne (⟨_, HX.out⟩ : Ty wo 38 q) (own_ty HO.out (mem_ob.1 hm)) (by decide)) rfl)).trans HX.out⟩
      go_roundg (m - (i + 1))
      case measure => omega
      case rel => exact ⟨i + 1, a7, c7, by omega, by omega, by go_num, rfl, HO7, HC7, HN7, HX7⟩
    · obtain rfl : m = i := by omega
      go_wp2_with fail
      go_ret
      exact ⟨_, _, _, rfl, HO.out, HC.out, HN.out⟩
end
end Go.Proofs.Ytoneepoaodoijaa
