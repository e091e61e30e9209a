/- OctetReads: what holds of both readers while the script is played. -/
import Derived.Test.YthfikoghbnicoaaW15
namespace Go.Proofs.Ythfikoghbnicoaa
open Go.RowKit

/-- An address outside a block. -/
def NoBlk (a : Option Addr) (g : Nat) : Prop := ∀ x, a = some x → x.block ≠ g

theorem Bs.grown {w w' : World} {a : Option Addr} {L c g : Nat} {bs : List Int} (h : Bs w (.slice a L c) bs) (hg : w.grownBy w' (some g)) (hne : NoBlk a g) : Bs w' (.slice a L c) bs := by
  obtain ⟨a', c', hv, hl, hm, hn, hc⟩ := h
  simp only [Value.slice.injEq] at hv
  obtain ⟨rfl, rfl, rfl⟩ := hv
  refine ⟨a, c, rfl, hl, hm, hn, fun x hx i hi => ?_⟩
  have hblk : (x.add i).block = x.block := by unfold Addr.add; split <;> simp_all
  exact hg.cell (hc x hx i hi) (by simp only [ne_eq, Option.some.injEq]; rw [hblk]; exact hne x hx)

theorem OwnB.noBlk {w : World} {base : Nat} {e : TypeId} {a : Option Addr} {L c g : Nat} {bs : List Int} (h : OwnB w base e (.slice a L c) bs) (hg : g < base ∨ w.heap.size ≤ g) : NoBlk a g := by
  intro x hx
  subst hx
  have := World.ownsRow.lt h x.block rfl
  omega

theorem OwnB.noObj {w : World} {base : Nat} {a : Option Addr} {L c g : Nat} {bs : List Int} {cur : Array Value} {t : TypeId} (h : OwnB w base 5 (.slice a L c) bs) (hg : w.heap[g]? = some (.cells cur t (0, 0))) (ht : t ≠ 5) : NoBlk a g := by
  intro x hx hxg
  subst hx
  rcases h.2 with ⟨h', _⟩ | ⟨g', cap', cur', h', _, hh, _⟩
  · simp at h'
  · simp only [Value.slice.injEq, Option.some.injEq] at h'
    obtain ⟨rfl, _⟩ := h'
    simp only at hxg
    rw [hxg, hg] at hh
    simp only [Option.some.injEq, Obj.cells.injEq] at hh
    exact ht hh.2.1

/-- Where an owned slice that is not empty lies. -/
theorem OwnB.at {w : World} {base : Nat} {e : TypeId} {a : Option Addr} {L c : Nat} {bs : List Int} (h : OwnB w base e (.slice a L c) bs) (hp : 0 < bs.length) : ∃ g, a = some ⟨g, 0, none⟩ ∧ base ≤ g ∧ g < w.heap.size := by
  rcases h.2 with ⟨h', h0⟩ | ⟨g', cap', cur', h', hb, hh, _⟩
  · omega
  · simp only [Value.slice.injEq] at h'
    exact ⟨g', h'.1, hb, (Array.getElem?_eq_some_iff.1 hh).1⟩

theorem OwnB.kept' {w w' : World} {base : Nat} {e : TypeId} {a : Option Addr} {L c g : Nat} {bs : List Int} (h : OwnB w base e (.slice a L c) bs) (hg : w.grownBy w' (some g)) (hne : NoBlk a g) : OwnB w' base e (.slice a L c) bs := by
  refine World.ownsRow.kept h hg ?_
  cases a with
  | none => exact .inl rfl
  | some x => exact .inr (by simp only [Value.ownBlock, ne_eq, Option.some.injEq]; exact hne x rfl)

/-- What does not change while the script is played. -/
structure RFix (B gx gy : Nat) (ax ay : Option Addr) : Prop where
  ne : gx ≠ gy
  lx : B ≤ gx
  ly : B ≤ gy
  xx : NoBlk ax gx
  xy : NoBlk ax gy
  yx : NoBlk ay gx
  yy : NoBlk ay gy

/-- Both readers are at one place, with one fault. -/
structure RInv (Z B gx gy : Nat) (ax ay : Option Addr) (L cx cy : Nat) (bs : List Int) (w0 : World) (w : World) (e i : Int) : Prop where
  hx : w.heap[gx]? = some (XO e i ax L cx)
  hy : w.heap[gy]? = some (YO e i ay L cy)
  bx : Bs w (.slice ax L cx) bs
  bY : Bs w (.slice ay L cy) bs
  low : Below B w0 w
  sz : Z ≤ w.heap.size

variable {Z B gx gy : Nat} {ax ay : Option Addr} {L cx cy : Nat} {bs : List Int} {w0 w w1 w2 : World} {e i : Int}

theorem RInv.szx (h : RInv Z B gx gy ax ay L cx cy bs w0 w e i) : gx < w.heap.size := (Array.getElem?_eq_some_iff.1 h.hx).1
theorem RInv.szy (h : RInv Z B gx gy ax ay L cx cy bs w0 w e i) : gy < w.heap.size := (Array.getElem?_eq_some_iff.1 h.hy).1

theorem low_grown (F : B ≤ w.heap.size) {g : Nat} (hb : Below B w0 w) (hg : w.grownBy w1 (some g)) (hB : B ≤ g) : Below B w0 w1 := hb.grown hg F (fun k hk => by simp at hk; omega)

/-- Behind both readers' step. -/
theorem RInv.steps (F : RFix B gx gy ax ay) (h : RInv Z B gx gy ax ay L cx cy bs w0 w e i) {e' i' : Int} (g1 : w.grownBy w1 (some gx)) (h1 : w1.heap[gx]? = some (XO e' i' ax L cx))
    (g2 : w1.grownBy w2 (some gy)) (h2 : w2.heap[gy]? = some (YO e' i' ay L cy)) : RInv Z B gx gy ax ay L cx cy bs w0 w2 e' i' := by
  have hsx := h.szx
  have hsy := h.szy
  have z1 := g1.size
  have z2 := g2.size
  have lx := F.lx
  have ly := F.ly
  refine ⟨?_, h2, (h.bx.grown g1 F.xx).grown g2 F.xy, (h.bY.grown g1 F.yx).grown g2 F.yy, low_grown (by omega) (low_grown (by omega) h.low g1 F.lx) g2 F.ly, Nat.le_trans h.sz (Nat.le_trans z1 z2)⟩
  rw [g2.block gx (by omega) (by simp; exact F.ne)]
  exact h1

/-- Where nothing of old memory has turned. -/
theorem RInv.later (F : RFix B gx gy ax ay) (h : RInv Z B gx gy ax ay L cx cy bs w0 w e i) (hb : Below w.heap.size w w1) : RInv Z B gx gy ax ay L cx cy bs w0 w1 e i := by
  have hsx := h.szx
  have lx := F.lx
  exact ⟨(hb.block gx h.szx).trans h.hx, (hb.block gy h.szy).trans h.hy, h.bx.below hb, h.bY.below hb, h.low.trans (hb.mono (by omega)), Nat.le_trans h.sz hb.size⟩

theorem RInv.drew (h : RInv Z B gx gy ax ay L cx cy bs w0 w e i) : RInv Z B gx gy ax ay L cx cy bs w0 w.drew e i := ⟨h.hx, h.hy, h.bx, h.bY, h.low.drew, h.sz⟩

/-- The document's reader between the two steps. -/
theorem RInv.mid (F : RFix B gx gy ax ay) (h : RInv Z B gx gy ax ay L cx cy bs w0 w e i) (g1 : w.grownBy w1 (some gx)) : w1.heap[gy]? = some (YO e i ay L cy) ∧ Bs w1 (.slice ay L cy) bs ∧ Below B w0 w1 := by
  have hsx := h.szx
  have lx := F.lx
  refine ⟨?_, h.bY.grown g1 F.yx, low_grown (by omega) h.low g1 F.lx⟩
  rw [g1.block gy h.szy (by simp; exact F.ne.symm)]
  exact h.hy

/-- A store into a row of the call's own that neither reader has. -/
theorem RInv.store (F : RFix B gx gy ax ay) (h : RInv Z B gx gy ax ay L cx cy bs w0 w e i) {g : Nat} (j : Nat) (u : Value) (hgB : B ≤ g) (h1 : g ≠ gx) (h2 : g ≠ gy) (h3 : NoBlk ax g) (h4 : NoBlk ay g) :
    RInv Z B gx gy ax ay L cx cy bs w0 (w.setCell ⟨g, j, none⟩ u) e i := by
  have hg : w.grownBy (w.setCell ⟨g, j, none⟩ u) (some g) := ⟨rfl, rfl, rfl, by simp, fun k _ hk => heap_setCell_other w ⟨g, j, none⟩ k u (fun e => hk (by simp [e]))⟩
  have hsx := h.szx
  have lx := F.lx
  refine ⟨?_, ?_, h.bx.grown hg h3, h.bY.grown hg h4, low_grown (by omega) h.low hg hgB, Nat.le_trans h.sz hg.size⟩
  · rw [hg.block gx h.szx (by simp; exact fun q => h1 q.symm)]; exact h.hx
  · rw [hg.block gy h.szy (by simp; exact fun q => h2 q.symm)]; exact h.hy

theorem grown_of_drew {w w' : World} {g : Option Nat} (h : w.drew.grownBy w' g) : w.grownBy w' g := ⟨h.os, h.tape, h.output, h.size, h.block⟩
end Go.Proofs.Ythfikoghbnicoaa
