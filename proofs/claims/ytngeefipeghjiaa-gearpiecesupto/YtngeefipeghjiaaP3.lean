/- What stands in memory while pieces come: the cutter, all bytes, all chunks. -/
import Derived.Test.YtngeefipeghjiaaL5
namespace Go.Proofs.Ytngeefipeghjiaa
open Go.RowKit

/-- The blocks of chunks: none of them is held (v), or of all bytes (a). -/
def Fr (D : Nat) (v a : Value) (k : Nat) : Prop := k ∉ ob v ∧ k ∉ ob a ∧ D ≤ k
/-- The cutter at p holds l, in v; a has all bytes Al; g has the chunks R. -/
structure Pcs (w3 wr : World) (D p : Nat) (mn mx lo : Int) (T : Nat → Int) (cs : Array Value) (v a g : Value) (Al l : List Int) (R : List (List Int)) : Prop where
  cut : CutAt wr p 0 mn mx lo T cs v l (hsh T l) false
  all : OwnB wr 0 a Al
  got : OwnR wr (Fr D v a) 0 g R
  bel : Below D w3 wr
  pD : D ≤ p
  vD : ∀ k ∈ ob v, D ≤ k
  aD : ∀ k ∈ ob a, D ≤ k ∧ k ∉ ob v
  gD : ∀ k ∈ ob g, D ≤ k
section
variable {w3 wr : World} {D p : Nat} {mn mx lo : Int} {T : Nat → Int} {cs : Array Value} {v a g : Value} {Al l : List Int} {R : List (List Int)}
theorem Pcs.sz (h : Pcs w3 wr D p mn mx lo T cs v a g Al l R) : D ≤ wr.heap.size := Nat.le_trans h.pD (Nat.le_of_lt h.cut.lt)
/-- A Write of bytes of our own, which are then turned. -/
theorem Pcs.write (h : Pcs w3 wr D p mn mx lo T cs v a g Al l R) {w1 w2 w4 : World} {vo v2 x : Value} {cs2 : Array Value} {l2 : List Int} {X : List (List Int)}
    (h1 : Below wr.heap.size wr w1) (h2 : Chg (p :: ob v) w1 w2) (hC2 : CutAt w2 p 0 mn mx lo T cs2 v2 l2 (hsh T l2) false) (hV2 : ∀ k ∈ ob v2, k ∈ ob v ∨ w1.heap.size ≤ k)
    (hx : OwnR w2 (Ck v w1.heap.size v2) 0 x X) (hvo : ∀ k ∈ ob vo, wr.heap.size ≤ k ∧ k < w1.heap.size) (h4 : Chg (ob vo) w2 w4) (hto : ∀ k ∈ ob vo, Ty w2 5 k) :
    Pcs w3 w4 D p mn mx lo T cs2 v2 a g Al l2 R ∧ OwnR w4 (Fr D v2 a) 0 x X := by
  have hs := h.sz
  have hva : ∀ k ∈ ob v, k < wr.heap.size := fun k hk => (h.cut.own.lt k (mem_ob.1 hk)).2
  have haa : ∀ k ∈ ob a, k < wr.heap.size := fun k hk => (h.all.lt k (mem_ob.1 hk)).2
  have s1 := h1.size
  have s2 := h2.size
  have hp := h.cut.lt
  have pv : ∀ k, Ty wr 5 k → k ≠ p := fun k hk => Ty.ne hk h.cut.ty (by decide)
  have pv32 : ∀ k, Ty wr 32 k → k ∉ p :: ob v := fun k hk hm => by
    rcases List.mem_cons.1 hm with q | q
    · exact (Ty.ne hk h.cut.ty (by decide)) q
    · exact (Ty.ne hk (own_ty h.cut.own (mem_ob.1 q)) (by decide)) rfl
  have hpo : p ∉ ob vo := fun hm => by have := (hvo p hm).1; omega
  have hvo2 : ∀ k ∈ ob v2, k ∉ ob vo := fun k hk hm => by
    rcases hV2 k hk with q | q
    · have := hva k q; have := (hvo k hm).1; omega
    · have := (hvo k hm).2; omega
  have g1 : OwnR wr (fun k => Fr D v a k ∧ k < wr.heap.size) 0 g R := h.got.mono (fun k hk hf => ⟨hf, hk.lt⟩)
  have g2 : OwnR w1 (fun k => Fr D v a k ∧ k < wr.heap.size) 0 g R := g1.far (Chg.ofBelow (X := []) h1) (by simp) (by simp)
  have g3 : OwnR w2 (fun k => Fr D v a k ∧ k < wr.heap.size) 0 g R := g2.far h2 (fun k hk hf hm => by
    rcases List.mem_cons.1 hm with q | q
    · have : Ty w1 55 p := (h.cut.far (Chg.ofBelow (X := []) h1) (by simp) (by simp)).ty
      subst q; exact (Ty.ne hk this (by decide)) rfl
    · exact hf.1.1 q) (fun k hk hg hm => by
    have hg' : k < wr.heap.size := by obtain ⟨vs, q, _⟩ := h.got; exact (q.lt k hg).2
    have ht : Ty wr 32 k := by obtain ⟨vs, q, _⟩ := h.got; exact own_ty q hg
    exact pv32 k ht hm)
  have g4 : OwnR w4 (fun k => Fr D v a k ∧ k < wr.heap.size) 0 g R := g3.far h4 (fun k hk hf hm => by have := (hvo k hm).1; omega) (fun k hk hg hm => (Ty.ne hk (hto k hm) (by decide)) rfl)
  have a1 : OwnB w1 0 a Al := own_far h.all (Chg.ofBelow (X := []) h1) (by simp)
  have a2 : OwnB w2 0 a Al := own_far a1 h2 (fun k hk hm => by
    rcases List.mem_cons.1 hm with q | q
    · exact (pv k (own_ty h.all hk)) q
    · exact (h.aD k (mem_ob.2 hk)).2 q)
  have a4 : OwnB w4 0 a Al := own_far a2 h4 (fun k hk hm => by have := haa k (mem_ob.2 hk); have := (hvo k hm).1; omega)
  have x4 : OwnR w4 (Ck v w1.heap.size v2) 0 x X := hx.far h4 (fun k hk hc hm => by
    rcases hc.1 with q | q
    · have := hva k q; have := (hvo k hm).1; omega
    · have := (hvo k hm).2; omega) (fun k hk hg hm => (Ty.ne hk (hto k hm) (by decide)) rfl)
  have hDa : ∀ k ∈ ob a, k ∉ ob v2 := fun k hk hm => by
    rcases hV2 k hm with q | q
    · exact (h.aD k hk).2 q
    · have := haa k hk; omega
  refine ⟨⟨hC2.far h4 hpo hvo2, a4, g4.mono (fun k _ hf => ⟨fun hm => ?_, hf.1.2.1, hf.1.2.2⟩), ?_, h.pD, fun k hk => ?_, fun k hk => ⟨(h.aD k hk).1, hDa k hk⟩, h.gD⟩, x4.mono (fun k hk hc => ⟨hc.2, fun hm => ?_, ?_⟩)⟩
  · rcases hV2 k hm with q | q
    · exact hf.1.1 q
    · have := hf.2; omega
  · refine (h.bel.trans (h1.mono hs)).trans ((h2.below (by omega) (fun k hk => ?_)).trans (h4.below (by omega) (fun k hk => by have := (hvo k hk).1; omega)))
    rcases List.mem_cons.1 hk with q | q
    · rw [q]; exact h.pD
    · exact h.vD k q
  · rcases hV2 k hk with q | q
    · exact h.vD k q
    · omega
  · rcases hc.1 with q | q
    · exact (h.aD k hm).2 q
    · have := haa k hm; omega
  · rcases hc.1 with q | q
    · exact h.vD k q
    · omega
/-- All bytes grow. -/
theorem Pcs.more (h : Pcs w3 wr D p mn mx lo T cs v a g Al l R) {w5 : World} {a' x : Value} {Al' : List Int} {X : List (List Int)} (hx : OwnR wr (Fr D v a) 0 x X) (ha : OwnB w5 0 a' Al') (hG : Chg (ob a) wr w5) (hV : a'.ownBlock = a.ownBlock ∨ a'.ownBlock = some wr.heap.size) :
    Pcs w3 w5 D p mn mx lo T cs v a' g Al' l R ∧ OwnR w5 (Fr D v a') 0 x X := by
  have hs := h.sz
  have key : ∀ {y : Value} {Y : List (List Int)}, OwnR wr (Fr D v a) 0 y Y → OwnR w5 (Fr D v a') 0 y Y := fun {y Y} hy => by
    have y1 : OwnR wr (fun k => Fr D v a k ∧ k < wr.heap.size) 0 y Y := hy.mono (fun k hk hf => ⟨hf, hk.lt⟩)
    have y2 : OwnR w5 (fun k => Fr D v a k ∧ k < wr.heap.size) 0 y Y := y1.far hG (fun k _ hf hm => hf.1.2.1 hm) (fun k hk _ hm => (Ty.ne hk (own_ty h.all (mem_ob.1 hm)) (by decide)) rfl)
    refine y2.mono (fun k _ hf => ⟨hf.1.1, fun hm => ?_, hf.1.2.2⟩)
    rcases hV with q | q
    · exact hf.1.2.1 (mem_ob.2 (by rw [← q]; exact mem_ob.1 hm))
    · have e := mem_ob.1 hm
      rw [q] at e
      cases e
      have := hf.2
      omega
  refine ⟨⟨h.cut.far hG (fun hm => (Ty.ne h.cut.ty (own_ty h.all (mem_ob.1 hm)) (by decide)) rfl) (fun k hk hm => (h.aD k hm).2 hk), ha, key h.got, h.bel.trans (hG.below hs (fun k hk => (h.aD k hk).1)), h.pD, h.vD, fun k hk => ?_, h.gD⟩, key hx⟩
  rcases hV with q | q
  · exact h.aD k (mem_ob.2 (by rw [← q]; exact mem_ob.1 hk))
  · have e := mem_ob.1 hk
    rw [q] at e
    cases e
    exact ⟨hs, fun hm => by have := (h.cut.own.lt _ (mem_ob.1 hm)).2; omega⟩
/-- The chunks grow. -/
theorem Pcs.grow (h : Pcs w3 wr D p mn mx lo T cs v a g Al l R) {w6 : World} {g' : Value} {R' : List (List Int)} (hg : OwnR w6 (Fr D v a) 0 g' R') (hG : Chg (ob g) wr w6) (hV : g'.ownBlock = g.ownBlock ∨ g'.ownBlock = some wr.heap.size) :
    Pcs w3 w6 D p mn mx lo T cs v a g' Al l R' := by
  have hs := h.sz
  have tg : ∀ k ∈ ob g, Ty wr 32 k := fun k hk => by obtain ⟨vs, q, _⟩ := h.got; exact own_ty q (mem_ob.1 hk)
  refine ⟨h.cut.far hG (fun hm => (Ty.ne h.cut.ty (tg p hm) (by decide)) rfl) (fun k hk hm => (Ty.ne (own_ty h.cut.own (mem_ob.1 hk)) (tg k hm) (by decide)) rfl), own_far h.all hG (fun k hk hm => (Ty.ne (own_ty h.all hk) (tg k hm) (by decide)) rfl), hg, h.bel.trans (hG.below hs h.gD), h.pD, h.vD, h.aD, fun k hk => ?_⟩
  rcases hV with q | q
  · exact h.gD k (mem_ob.2 (by rw [← q]; exact mem_ob.1 hk))
  · have e := mem_ob.1 hk
    rw [q] at e
    cases e
    exact hs
theorem Pcs.below (h : Pcs w3 wr D p mn mx lo T cs v a g Al l R) {w7 : World} (hb : Below wr.heap.size wr w7) : Pcs w3 w7 D p mn mx lo T cs v a g Al l R :=
  ⟨h.cut.far (Chg.ofBelow (X := []) hb) (by simp) (by simp), own_far h.all (Chg.ofBelow (X := []) hb) (by simp), h.got.far (Chg.ofBelow (X := []) hb) (by simp) (by simp), h.bel.trans (hb.mono h.sz), h.pD, h.vD, h.aD, h.gD⟩
theorem Pcs.still (h : Pcs w3 wr D p mn mx lo T cs v a g Al l R) {w7 : World} (hb : Chg [] wr w7) : Pcs w3 w7 D p mn mx lo T cs v a g Al l R :=
  ⟨h.cut.far hb (by simp) (by simp), own_far h.all hb (by simp), h.got.far hb (by simp) (by simp), h.bel.trans (hb.below h.sz (by simp)), h.pD, h.vD, h.aD, h.gD⟩
end
end Go.Proofs.Ytngeefipeghjiaa
