/- A piece as it is laid: bytes. -/
import Derived.Test.YtoneepoaodoijaaQ4
import Derived.Laws.OwnMore
namespace Go.Proofs.Ytoneepoaodoijaa
open Go.RowKit Go.Lib Oct

/-- How a piece is laid. -/
def lay (x : Pc) : List Int := if 0 < x.pl.length then ((x.pl.length - 1 : Nat) : Int) :: x.pl else ((124 + x.n : Nat) : Int) :: numB x.far
theorem owny_one (w : World) (y : Int) : OwnY (w.alloc (.cells #[.int .u8 y] 5)) w.heap.size (.slice (some ⟨w.heap.size, 0, none⟩) 1 1) [y] :=
  ⟨rfl, .inr ⟨w.heap.size, 1, #[.int .u8 y], rfl, Nat.le_refl _, heap_alloc_new w _, Nat.le_refl _, by decide, rfl, rfl⟩⟩
theorem own_lo {w : World} {base : Nat} {e : TypeId} {k : Nat} {v : Value} {n : Nat} {xs : List Value} (h : w.ownsRow base e k v n xs) {g : Nat} (hg : v.ownBlock = some g) : base ≤ g := by
  rcases h.2 with ⟨rfl, _⟩ | ⟨b, c, cs, rfl, hb, _⟩
  · simp [Value.ownBlock] at hg
  · simp [Value.ownBlock] at hg
    omega
section
variable {w : World}
set_option maxHeartbeats 4000000 in
set_option maxRecDepth 100000 in
theorem bytes15 (a : Option Addr) (n c : Nat) (far m : Nat) (pl : List Int) (hpl : RdY w (.slice a n c) pl) (hn : pl.length ≤ 128) (hm : m ≤ 131) (hff : far ≤ 9007199254740991) :
    Calls Try.prog 15 #[pcv a n c far m] w fun e w' => ∃ a' n' c', e = .returned (.slice a' n' c') ∧ OwnY w' w.heap.size (.slice a' n' c') (lay ⟨pl, far, m⟩) ∧ Below w.heap.size w w' := by
  obtain ⟨w1, Hw1⟩ : ∃ x, Hid (w.alloc (.cells #[.slice a n c, .int .i64 (far : Int), .int .i64 (m : Int)] 38) = x) := ⟨_, ⟨rfl⟩⟩
  have HB1 : Hid (Below w.heap.size w w1) := ⟨by rw [← Hw1.out]; exact (Below.refl _ w).alloc (Nat.le_refl _) _⟩
  have HX1 : Hid (w1.heap[w.heap.size]? = some (.cells #[.slice a n c, .int .i64 (far : Int), .int .i64 (m : Int)] 38 (0, 0))) := ⟨by rw [← Hw1.out]; exact heap_alloc_new w _⟩
  obtain ⟨q, Hq⟩ : ∃ q, Hid (w.heap.size = q) := ⟨_, ⟨rfl⟩⟩
  have hnn : n = pl.length := by obtain ⟨_, _, e, _⟩ := hpl.shape; simp only [Value.slice.injEq] at e; exact e.2.1
  have HP1 : Hid (RdY w1 (.slice a n c) pl) := ⟨hpl.far (Chg.ofBelow (X := []) HB1.out) (by simp)⟩
  have t1 := isPlain26 (w := w1) a n c (far : Int) (m : Int)
  have Hnn := Hid.mk hnn
  have hn2 : n ≤ 128 := by omega
  obtain ⟨L, HL⟩ : ∃ L, Hid (lay ⟨pl, far, m⟩ = L) := ⟨_, ⟨rfl⟩⟩
  rw [HL.out]
  have hlt := (Array.getElem?_eq_some_iff.1 HX1.out).1
  rw [Hq.out] at HX1 hlt
  unfold pcv at t1 ⊢
  clear hpl hnn hn
  go_enter Try.func15, Try.ntmps15
  go_wp2_with fail
  rw [Hw1.out, Hq.out]
  refine t1.mono ?_
  rintro e w2 ⟨rfl, hb2⟩
  have HB2 : Hid (Below w.heap.size w w2) := ⟨HB1.out.trans (hb2.mono HB1.out.size)⟩
  have HX2 : Hid (w2.heap[q]? = some (.cells #[.slice a n c, .int .i64 (far : Int), .int .i64 (m : Int)] 38 (0, 0))) := ⟨(hb2.block q hlt).trans HX1.out⟩
  have HP2 : Hid (RdY w2 (.slice a n c) pl) := ⟨HP1.out.far (Chg.ofBelow (X := []) hb2) (by simp)⟩
  have c0 : w2.cell? ⟨q, 0, none⟩ = some (.slice a n c) := by rw [cell_of_row _ _ _ _ _ _ HX2.out]; rfl
  have c1 : w2.cell? ⟨q, 1, none⟩ = some (.int .i64 (far : Int)) := by rw [cell_of_row _ _ _ _ _ _ HX2.out]; rfl
  have c2 : w2.cell? ⟨q, 2, none⟩ = some (.int .i64 (m : Int)) := by rw [cell_of_row _ _ _ _ _ _ HX2.out]; rfl
  clear t1 hb2 HP1
  by_cases h0 : 0 < n
  · have hs1 : IntKind.i64.wrap ((n : Int) - 1) = ((n - 1 : Nat) : Int) := by rw [show (n : Int) - 1 = ((n - 1 : Nat) : Int) by omega]; exact IntWalk.i64_in _ ⟨by omega, by omega⟩
    have hs2 : IntKind.u8.wrap ((n - 1 : Nat) : Int) = ((n - 1 : Nat) : Int) := IntWalk.u8_in _ ⟨by omega, by omega⟩
    have HLe : Hid (L = [((n - 1 : Nat) : Int)] ++ pl) := ⟨by rw [← HL.out]; unfold lay; rw [if_pos (by simp only; rw [← Hnn.out]; exact h0)]; simp only; rw [← Hnn.out]; rfl⟩
    obtain ⟨y, Hy⟩ : ∃ y, Hid (((n - 1 : Nat) : Int) = y) := ⟨_, ⟨rfl⟩⟩
    rw [Hy.out] at hs1 hs2 HLe
    have HO3 : Hid (OwnY (w2.alloc (.cells #[.int .u8 y] 5)) w2.heap.size (.slice (some ⟨w2.heap.size, 0, none⟩) 1 1) [y]) := ⟨owny_one w2 y⟩
    have HB3 : Hid (Below w2.heap.size w2 (w2.alloc (.cells #[.int .u8 y] 5))) := ⟨(Below.refl _ w2).alloc (Nat.le_refl _) _⟩
    have HP3 : Hid (RdY (w2.alloc (.cells #[.int .u8 y] 5)) (.slice a n c) pl) := ⟨HP2.out.far (Chg.ofBelow (X := []) HB3.out) (by simp)⟩
    have hl3 : [y].length + pl.length ≤ 1000000000000 := by have := Hnn.out; simp; omega
    have c3 : (w2.alloc (.cells #[.int .u8 y] 5)).cell? ⟨q, 0, none⟩ = some (.slice a n c) := by rw [cell_of_row _ _ _ _ _ _ ((HB3.out.block q (Array.getElem?_eq_some_iff.1 HX2.out).1).trans HX2.out)]; rfl
    go_wp2_with (refine wp_appY rfl (.tmp 12) (.tmp 14) rfl rfl HO3.out rfl HP3.out hl3 HB3.out.size ?_; intro v4 w4 hO4 hG4 hV4; have HO4 := Hid.mk hO4; have HG4 := Hid.mk hG4; clear hO4 hG4 hV4)
    rw [← HLe.out] at HO4
    have HG4' : Hid (Chg (ob (.slice (some ⟨w2.heap.size, 0, none⟩) 1 1)) (w2.alloc (.cells #[.int .u8 y] 5)) w4) := HG4
    obtain ⟨a4, c4, e4, _⟩ := HO4.out.shape
    subst e4
    have HB4 : Hid (Below w.heap.size w w4) := ⟨HB2.out.trans ((HB3.out.trans (HG4'.out.below (B := w2.heap.size) HB3.out.size (by intro x hx; have := mem_ob.1 hx; simp [Value.ownBlock] at this; exact Nat.le_of_eq this))).mono HB2.out.size)⟩
    have HO5 : Hid (OwnY w4 w.heap.size (.slice a4 L.length c4) L) := ⟨own_base HO4.out (fun g hg => Nat.le_trans HB2.out.size (own_lo HO4.out hg))⟩
    go_ret
    exact ⟨a4, _, c4, rfl, HO5.out, HB4.out⟩
  · have hn0 : n = 0 := by omega
    subst hn0
    have HLe : Hid (L = [((124 + m : Nat) : Int)] ++ numB far) := ⟨by rw [← HL.out]; unfold lay; rw [if_neg (by simp only; rw [← Hnn.out]; omega)]; rfl⟩
    have t3 := num_good far w2 hff
    go_wp2_with fail
    refine t3.mono ?_
    rintro e w3 ⟨v3, rfl, ho3, hb3⟩
    have HB3 : Hid (Below w.heap.size w w3) := ⟨HB2.out.trans (hb3.mono HB2.out.size)⟩
    have c3 : w3.cell? ⟨q, 2, none⟩ = some (.int .i64 (m : Int)) := by rw [cell_of_row _ _ _ _ _ _ ((hb3.block q (Array.getElem?_eq_some_iff.1 HX2.out).1).trans HX2.out)]; rfl
    have HR3 : Hid (RdY w3 v3 (numB far)) := ⟨own_rd ho3⟩
    obtain ⟨nb, Hnb⟩ : ∃ x, Hid (numB far = x) := ⟨_, ⟨rfl⟩⟩
    have hnb : nb.length ≤ 8 := by rw [← Hnb.out]; exact numB_len8 far hff
    rw [Hnb.out] at HR3 HLe
    have hs1 : IntKind.i64.wrap (128 + (m : Int)) = 128 + (m : Int) := IntWalk.i64_in _ ⟨by omega, by omega⟩
    have hs3 : IntKind.i64.wrap (128 + (m : Int) - 4) = ((124 + m : Nat) : Int) := by rw [show 128 + (m : Int) - 4 = ((124 + m : Nat) : Int) by omega]; exact IntWalk.i64_in _ ⟨by omega, by omega⟩
    have hs2 : IntKind.u8.wrap ((124 + m : Nat) : Int) = ((124 + m : Nat) : Int) := IntWalk.u8_in _ ⟨by omega, by omega⟩
    obtain ⟨y, Hy⟩ : ∃ y, Hid (((124 + m : Nat) : Int) = y) := ⟨_, ⟨rfl⟩⟩
    rw [Hy.out] at hs3 hs2 HLe
    have HO4 : Hid (OwnY (w3.alloc (.cells #[.int .u8 y] 5)) w3.heap.size (.slice (some ⟨w3.heap.size, 0, none⟩) 1 1) [y]) := ⟨owny_one w3 y⟩
    have HB4 : Hid (Below w3.heap.size w3 (w3.alloc (.cells #[.int .u8 y] 5))) := ⟨(Below.refl _ w3).alloc (Nat.le_refl _) _⟩
    have HR4 : Hid (RdY (w3.alloc (.cells #[.int .u8 y] 5)) v3 nb) := ⟨HR3.out.far (Chg.ofBelow (X := []) HB4.out) (by simp)⟩
    have hl3 : [y].length + nb.length ≤ 1000000000000 := by simp; omega
    clear t3 ho3 hb3 c0 c1 c2 HP2
    go_wp2_with (refine wp_appY rfl (.tmp 27) (.tmp 28) rfl rfl HO4.out rfl HR4.out hl3 HB4.out.size ?_; intro v5 w5 hO5 hG5 hV5; have HO5 := Hid.mk hO5; have HG5 := Hid.mk hG5; clear hO5 hG5 hV5)
    rw [← HLe.out] at HO5
    have HG5' : Hid (Chg (ob (.slice (some ⟨w3.heap.size, 0, none⟩) 1 1)) (w3.alloc (.cells #[.int .u8 y] 5)) w5) := HG5
    obtain ⟨a5, c5, e5, _⟩ := HO5.out.shape
    subst e5
    have HB5 : Hid (Below w.heap.size w w5) := ⟨HB3.out.trans ((HB4.out.trans (HG5'.out.below (B := w3.heap.size) HB4.out.size (by intro x hx; have := mem_ob.1 hx; simp [Value.ownBlock] at this; exact Nat.le_of_eq this))).mono HB3.out.size)⟩
    have HO6 : Hid (OwnY w5 w.heap.size (.slice a5 L.length c5) L) := ⟨own_base HO5.out (fun g hg => Nat.le_trans HB3.out.size (own_lo HO5.out hg))⟩
    go_ret
    exact ⟨a5, _, c5, rfl, HO6.out, HB5.out⟩
end
end Go.Proofs.Ytoneepoaodoijaa
