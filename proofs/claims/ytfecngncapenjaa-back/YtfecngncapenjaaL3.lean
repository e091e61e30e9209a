/- The document's trees beside trees (plain mathematics). -/
import Derived.Test.YtfecngncapenjaaL2
import Derived.Test.YtfecngncapenjaaHA
namespace Go.Proofs.Ytfecngncapenjaa

/-- A tree of the document is this tree. -/
structure Rr (s : RT) (t : AT) : Prop where
  len : s.2.length = 256
  cnt : s.1 = t.1
  bits : ∀ i, i < 256 → s.2.getD i false = decide ((i : Int) ∈ t.2.2)
theorem Rr.first {s : RT} {t : AT} (h : Rr s t) (o : OneA t) : ((fst s : Nat) : Int) = t.2.1 := by
  have h1 := o.by' _ o.mem
  have e : fst s = t.2.1.toNat := by
    refine fst_lt (by rw [h.len]; omega) ?_ (fun j hj => ?_)
    · rw [h.bits _ (by omega)]
      refine decide_eq_true ?_
      rw [show ((t.2.1.toNat : Nat) : Int) = t.2.1 by omega]
      exact o.mem
    · rw [h.bits _ (by omega)]
      refine decide_eq_false (fun hm => ?_)
      have := o.low _ hm
      omega
  rw [e]; omega
theorem Rr.lt {x y : RT} {a b : AT} (h : Rr x a) (k : Rr y b) (ho : OneA a) (hp : OneA b) : ltR x y = ltA a b := by
  have e1 := h.first ho
  have e2 := k.first hp
  unfold ltR ltA
  rw [h.cnt, k.cnt]
  refine decide_eq_decide.2 ?_
  omega
def joinR (x y : RT) : RT := (x.1 + y.1, (List.range 256).map fun i => x.2.getD i false || y.2.getD i false)
theorem joinR_len (x y : RT) : (joinR x y).2.length = 256 := by simp [joinR]
theorem joinR_get (x y : RT) {i : Nat} (h : i < 256) : (joinR x y).2.getD i false = (x.2.getD i false || y.2.getD i false) := by
  simp [joinR, List.getD, h]
theorem Rr.join {x y : RT} {a b : AT} (h : Rr x a) (k : Rr y b) : Rr (joinR x y) (joinA a b) := by
  refine ⟨joinR_len x y, ?_, fun i hi => ?_⟩
  · simp only [joinR, joinA]; rw [h.cnt, k.cnt]
  · rw [joinR_get x y hi, h.bits i hi, k.bits i hi]
    simp only [joinA, List.mem_append]
    by_cases h1 : (i : Int) ∈ a.2.2 <;> by_cases h2 : (i : Int) ∈ b.2.2 <;> simp [h1, h2]
inductive Al : List RT → List AT → Prop
  | nil : Al [] []
  | cons {s : RT} {t : AT} {L : List RT} {F : List AT} : Rr s t → Al L F → Al (s :: L) (t :: F)
theorem Al.len {L : List RT} {F : List AT} (h : Al L F) : L.length = F.length := by
  induction h with
  | nil => rfl
  | cons _ _ ih => simp [ih]
theorem Al.app {L M : List RT} {F G : List AT} (h : Al L F) (k : Al M G) : Al (L ++ M) (F ++ G) := by
  induction h with
  | nil => exact k
  | cons h1 _ ih => exact .cons h1 ih
theorem Al.one {s : RT} {t : AT} (h : Rr s t) : Al [s] [t] := .cons h .nil
theorem Al.take {L : List RT} {F : List AT} (h : Al L F) : ∀ n, Al (L.take n) (F.take n) := by
  induction h with
  | nil => intro n; simpa using Al.nil
  | cons h1 _ ih =>
    intro n
    cases n with
    | zero => exact .nil
    | succ n => exact .cons h1 (ih n)
theorem Al.drop {L : List RT} {F : List AT} (h : Al L F) : ∀ n, Al (L.drop n) (F.drop n) := by
  induction h with
  | nil => intro n; simpa using Al.nil
  | cons h1 h2 ih =>
    intro n
    cases n with
    | zero => exact .cons h1 h2
    | succ n => exact ih n
def a0 : AT := (0, 0, [])
theorem Al.get {L : List RT} {F : List AT} (h : Al L F) : ∀ {i : Nat}, i < L.length → Rr (L.getD i r0) (F.getD i a0) := by
  induction h with
  | nil => intro i hi; simp at hi
  | cons h1 _ ih =>
    intro i hi
    cases i with
    | zero => simpa using h1
    | succ i =>
      have := ih (i := i) (by simpa using hi)
      simpa using this
theorem perm_out {α : Type} (d : α) : ∀ {F : List α} {b : Nat}, b < F.length → F.Perm (F.getD b d :: (F.take b ++ F.drop (b + 1)))
  | [], b, h => by simp at h
  | x :: r, 0, _ => by simp
  | x :: r, b + 1, h => by
    have ih := perm_out d (F := r) (b := b) (by simpa using h)
    simp only [List.getD_cons_succ, List.take_succ_cons, List.drop_succ_cons, List.cons_append]
    exact (ih.cons x).trans (List.Perm.swap _ _ _)
theorem mem_getD {α : Type} (d : α) {F : List α} {t : α} (h : t ∈ F) : ∃ j, j < F.length ∧ F.getD j d = t := by
  obtain ⟨j, hj, rfl⟩ := List.mem_iff_getElem.1 h
  exact ⟨j, hj, by simp [List.getD, List.getElem?_eq_getElem hj]⟩
theorem getD_mem'' {α : Type} (d : α) {F : List α} {j : Nat} (h : j < F.length) : F.getD j d ∈ F := by
  simp only [List.getD, List.getElem?_eq_getElem h, Option.getD_some]
  exact List.getElem_mem h
/-- The least of trees, in both kinds. -/
theorem Al.least {L : List RT} {F : List AT} (h : Al L F) (hf : ∀ t ∈ F, OneA t) {b : Nat} (hb : b < L.length) (hm : ∀ j, j < L.length → ltR (L.getD j r0) (L.getD b r0) = false) : ∀ t ∈ F, ltA t (F.getD b a0) = false := by
  intro t ht
  obtain ⟨j, hj, rfl⟩ := mem_getD a0 ht
  rw [← h.len] at hj
  rw [← (h.get hj).lt (h.get hb) (hf _ ht) (hf _ (getD_mem'' a0 (by rw [← h.len]; exact hb)))]
  exact hm j hj
/-- How far the document has come. -/
def StR (f : List Int) (L : List RT) (g : List Int) : Prop := (T0 f 256).length ≠ 1 ∧ ∃ F, Al L F ∧ RunA (T0 f 256) F g
/-- One more for each byte below k of a tree. -/
def bumpR (g : List Int) (z : RT) : Nat → List Int
  | 0 => g
  | k + 1 => if z.2.getD k false then (bumpR g z k).set k ((bumpR g z k).getD k 0 + 1) else bumpR g z k
theorem bumpR_len (g : List Int) (z : RT) : ∀ k, (bumpR g z k).length = g.length
  | 0 => rfl
  | k + 1 => by
    rw [bumpR]
    split
    · rw [List.length_set]; exact bumpR_len g z k
    · exact bumpR_len g z k
theorem bumpR_get {g : List Int} (hg : g.length = 256) (z : RT) : ∀ k, k ≤ 256 → ∀ i, (bumpR g z k).getD i 0 = g.getD i 0 + if i < k ∧ z.2.getD i false = true then 1 else 0
  | 0, _, i => by rw [bumpR, if_neg (by omega)]; omega
  | k + 1, hk, i => by
    have ih := bumpR_get hg z k (by omega)
    rw [bumpR]
    split
    · next h =>
      by_cases e : i = k
      · subst e
        rw [if_pos ⟨by omega, h⟩]
        have hl : i < (bumpR g z i).length := by rw [bumpR_len, hg]; omega
        have := ih i
        rw [if_neg (by omega)] at this
        simp only [List.getD, List.getElem?_set_self hl, Option.getD_some]
        rw [show ((bumpR g z i)[i]?.getD 0) = (bumpR g z i).getD i 0 from rfl, this, show (g[i]?.getD 0) = g.getD i 0 from rfl]; omega
      · have e1 : ((bumpR g z k).set k ((bumpR g z k).getD k 0 + 1)).getD i 0 = (bumpR g z k).getD i 0 := by
          simp only [List.getD]
          rw [List.getElem?_set_ne (fun x => e x.symm)]
        rw [e1, ih i]
        congr 1
        by_cases h2 : i < k ∧ z.2.getD i false = true
        · rw [if_pos h2, if_pos ⟨by omega, h2.2⟩]
        · rw [if_neg h2, if_neg (fun h3 => h2 ⟨by omega, h3.2⟩)]
    · next h =>
      rw [ih i]
      congr 1
      by_cases h2 : i < k ∧ z.2.getD i false = true
      · rw [if_pos h2, if_pos ⟨by omega, h2.2⟩]
      · rw [if_neg h2, if_neg (fun h3 => h2 ⟨by
          by_cases e : i = k
          · subst e; exact absurd h3.2 h
          · omega, h3.2⟩)]
theorem ext256 {g k : List Int} (h1 : g.length = 256) (h2 : k.length = 256) (h : ∀ i, i < 256 → g.getD i 0 = k.getD i 0) : g = k := by
  refine List.ext_getElem (by omega) (fun i h3 h4 => ?_)
  have := h i (by omega)
  simpa [List.getD, List.getElem?_eq_getElem h3, List.getElem?_eq_getElem h4] using this
theorem bumpR_all {g : List Int} (hg : g.length = 256) {x y : RT} {a b : AT} (h : Rr (joinR x y) (joinA a b)) (o : OneA (joinA a b)) : bumpR g (joinR x y) 256 = bump g (joinA a b).2.2 := by
  refine ext256 (by rw [bumpR_len, hg]) (by rw [bump_len, hg]) (fun i hi => ?_)
  rw [bumpR_get hg _ 256 (Nat.le_refl _), bump_get hg o.by' o.nodup, h.bits i hi]
  congr 1
  by_cases h1 : (i : Int) ∈ (joinA a b).2.2
  · rw [if_pos h1, if_pos ⟨hi, decide_eq_true h1⟩]
  · rw [if_neg h1, if_neg (fun h2 => h1 (of_decide_eq_true h2.2))]
theorem StR.next {f : List Int} {L : List RT} {g : List Int} (h0 : FineA (T0 f 256)) (h : StR f L g) {b c : Nat} (hb : b < L.length) (hm : ∀ j, j < L.length → ltR (L.getD j r0) (L.getD b r0) = false) {M : List RT} (hM : M = L.take b ++ L.drop (b + 1)) (hc : c < M.length) (hn : ∀ j, j < M.length → ltR (M.getD j r0) (M.getD c r0) = false) :
    StR f ((M.take c ++ M.drop (c + 1)) ++ [joinR (L.getD b r0) (M.getD c r0)]) (bumpR g (joinR (L.getD b r0) (M.getD c r0)) 256) := by
  subst hM
  obtain ⟨h1, F, hA, hR⟩ := h
  have hF := hR.fine h0
  obtain ⟨G, hG⟩ : ∃ G, G = F.take b ++ F.drop (b + 1) := ⟨_, rfl⟩
  have hAG : Al (L.take b ++ L.drop (b + 1)) G := by rw [hG]; exact (hA.take b).app (hA.drop (b + 1))
  generalize L.take b ++ L.drop (b + 1) = M at *
  have hbF : b < F.length := by rw [← hA.len]; exact hb
  have hcG : c < G.length := by rw [← hAG.len]; exact hc
  have p1 : F.Perm (F.getD b a0 :: G) := by rw [hG]; exact perm_out a0 hbF
  have p2 : G.Perm (G.getD c a0 :: (G.take c ++ G.drop (c + 1))) := perm_out a0 hcG
  have p3 := p1.trans (p2.cons _)
  have hf3 := hF.perm p3
  have l1 := hA.least hF.each hb hm
  have l2 := hAG.least (fun t ht => hF.each t (p1.mem_iff.2 (List.mem_cons_of_mem _ ht))) hc hn
  have r1 := hA.get hb
  have r2 := hAG.get hc
  have rj := r1.join r2
  have oj : OneA (joinA (F.getD b a0) (G.getD c a0)) := hf3.join.each _ (by simp)
  refine ⟨h1, (G.take c ++ G.drop (c + 1)) ++ [joinA (F.getD b a0) (G.getD c a0)], ((hAG.take c).app (hAG.drop (c + 1))).app (.one rj), ?_⟩
  rw [bumpR_all hR.len rj oj]
  refine RunA.step F _ (G.take c ++ G.drop (c + 1)) _ _ g hR p3 (fun t ht => l1 t ?_) (fun t ht => l2 t ?_) List.perm_append_comm
  · exact p3.mem_iff.2 (List.mem_cons_of_mem _ ht)
  · exact p2.mem_iff.2 (List.mem_cons_of_mem _ ht)
theorem StR.few {f : List Int} {L : List RT} {g : List Int} (h : StR f L g) : L.length ≤ (T0 f 256).length := by
  obtain ⟨_, F, hA, hR⟩ := h
  rw [hA.len]; exact hR.few
theorem StR.done {f : List Int} {L : List RT} {g : List Int} (h : StR f L g) (hl : L.length ≤ 1) : LenS f g := by
  obtain ⟨h1, F, hA, hR⟩ := h
  exact .inr ⟨h1, F, hR, by rw [← hA.len]; exact hl⟩
theorem StR.glen {f : List Int} {L : List RT} {g : List Int} (h : StR f L g) : g.length = 256 := by
  obtain ⟨_, F, _, hR⟩ := h
  exact hR.len
/-- No bytes at all. -/
@[irreducible] def n0 : List Bool := List.replicate 256 false
theorem n0_len : n0.length = 256 := by unfold n0; exact List.length_replicate
theorem n0_get (i : Nat) : n0.getD i false = false := by
  unfold n0
  rw [List.getD_eq_getElem?_getD, List.getElem?_replicate]
  split <;> rfl
/-- A tree of one byte. -/
def oneR (n : Int) (k : Nat) : RT := (n, n0.set k true)
theorem oneR_len (n : Int) (k : Nat) : (oneR n k).2.length = 256 := by unfold oneR; rw [List.length_set, n0_len]
theorem Rr.oneR {n : Int} {k : Nat} (hk : k < 256) : Rr (oneR n k) (n, (k : Int), [(k : Int)]) := by
  refine ⟨oneR_len n k, rfl, fun i hi => ?_⟩
  unfold Ytfecngncapenjaa.oneR
  simp only [List.getD_eq_getElem?_getD, List.getElem?_set, n0_len, List.mem_singleton]
  by_cases e : k = i
  · subst e
    rw [if_pos rfl, if_pos hk]
    simp
  · rw [if_neg e]
    have e2 : ¬ ((i : Int) = (k : Int)) := by omega
    rw [decide_eq_false e2]
    have := n0_get i
    rw [List.getD_eq_getElem?_getD] at this
    exact this
/-- The document's first trees. -/
def TR (f : List Int) : Nat → List RT
  | 0 => []
  | k + 1 => TR f k ++ (if 0 < f.getD k 0 then [oneR (f.getD k 0) k] else [])
theorem TR_al (f : List Int) : ∀ k, k ≤ 256 → Al (TR f k) (T0 f k)
  | 0, _ => .nil
  | k + 1, h => by
    rw [TR, T0]
    refine (TR_al f k (by omega)).app ?_
    split
    · exact .one (.oneR (by omega))
    · exact .nil
theorem TR_len (f : List Int) : ∀ k, (TR f k).length ≤ k
  | 0 => Nat.le_refl _
  | k + 1 => by
    rw [TR, List.length_append]
    have := TR_len f k
    split <;> simp <;> omega
theorem TR_start {f : List Int} (h : (TR f 256).length ≠ 1) : StR f (TR f 256) z0 :=
  ⟨by rw [← (TR_al f 256 (Nat.le_refl _)).len]; exact h, T0 f 256, TR_al f 256 (Nat.le_refl _), .init _ (List.Perm.refl _)⟩
/-- There is but one tree. -/
theorem TR_only {f : List Int} (h0 : FineA (T0 f 256)) {s : RT} (h : TR f 256 = [s]) : LenS f (z0.set (fst s) 1) := by
  have hA := TR_al f 256 (Nat.le_refl _)
  rw [h] at hA
  have hl := hA.len
  obtain ⟨t, ht⟩ := List.length_eq_one_iff.1 hl.symm
  rw [ht] at hA
  cases hA with
  | cons h1 _ =>
    have o := h0.each t (by rw [ht]; simp)
    refine .inl ⟨by rw [ht]; rfl, t, ht, ?_⟩
    have := h1.first o
    rw [← this]
    rfl
end Go.Proofs.Ytfecngncapenjaa
