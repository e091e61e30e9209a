/- A crash that keeps all is a flush: plain facts; a slice of truths that grows; three disks at once. -/
import Derived.Test.YtmcikhdfpmkpnaaS1
namespace Go.Proofs.Ytmcikhdfpmkpnaa
open Go.RowKit Go.Maps Go.Sort Go.Shelf

theorem crash_all (S : List Sec) (a : Int) : crash ⟨List.replicate (dl S).length true, -1, a⟩ S = flush S := by
  refine sec_ext (by simp [crash, flush]) (fun i hi => ?_)
  have hi' : i < S.length := by simpa [crash_length] using hi
  rw [sec_crash _ S hi', sec_flush hi']
  unfold crash1 now
  cases hs : (sec S i).2 with
  | none => simp only [Option.getD_none]; rw [← hs]
  | some l =>
    have hd : dirt S i = true := by unfold dirt; rw [hs]; rfl
    have hp := (dl_place hi' hd).1
    simp only [Option.getD_some]
    unfold outl
    rw [if_neg (by simp), if_pos (by simp [hp])]
def allD (D : Dk) : Dk := crD D ⟨List.replicate (dl D.S).length true, -1, 0⟩
theorem keeps_all {D : Dk} {i : Nat} (hi : i < D.S.length) : Keeps (allD D) i (now (sec D.S i)) := by
  unfold Keeps allD crD
  simp only
  rw [crash_all]
  exact ⟨by simpa [flush] using hi, sec_flush hi⟩
theorem all_flush {D : Dk} (hd : D.down = false) : trpE D 0 = 0 ∧ fluE (trpD D 0) = 0 ∧ (fluD (trpD D 0)).down = false ∧ ∀ i, i < D.S.length → Keeps (fluD (trpD D 0)) i (now (sec D.S i)) := by
  have e1 : trpD D 0 = { D with trip := 0 } := by unfold trpD; rw [hd]; rfl
  have e0 : trpE D 0 = 0 := by unfold trpE; rw [hd]; rfl
  have e2 : fluE { D with trip := 0 } = 0 := by
    unfold fluE
    rw [if_neg (by simp [hd]), if_neg (by simp)]
  have e3 : fluD { D with trip := 0 } = flD { D with trip := dec 0 } := by
    unfold fluD
    rw [if_neg (by simp [hd]), if_neg (by simp)]
  rw [e1, e2, e3]
  refine ⟨e0, rfl, hd, fun i hi => ?_⟩
  exact ⟨by simpa [flD, flush] using hi, sec_flush hi⟩

def OwnT (w : World) (base : Nat) (v : Value) (xs : List Bool) : Prop := w.ownsRow base 4 1 v xs.length (xs.map Value.bool)
theorem info4 : (Try.prog.info? 4).map (fun i => (i.zero, i.size, i.bytes)) = some (some (.bool false), 1, 1) := by kernel_rfl
/-- 'append(l, y)' of one truth. -/
theorem wp_app1T {ops : Array Oper} {rest : List Oper} {o : Oper} {a : Act} {Q : Exit → Act → World → Prop} {w : World} {y : Bool} (hgd : o.guard = none) (s x : Operand)
    (ho : o.op = .call { callee := .builtin .append, args := #[s, x], argTypes := #[38, 38] })
    {base : Nat} {v : Value} {xs : List Bool} (hs : a.eval s = v) (hown : OwnT w base v xs)
    (hx : a.eval x = .slice (some ⟨w.heap.size, 0, none⟩) 1 1) (hlen : xs.length ≤ 1000000) (hbase : base ≤ w.heap.size)
    (h : ∀ v' w', OwnT w' base v' (xs ++ [y]) → Below base w w' → wpList Try.prog ops Q rest (a.put o.dst v') w') :
    wpList Try.prog ops Q (o :: rest) a (w.alloc (.cells #[.bool y] 4)) := by
  obtain ⟨i0, hi, hz0, hz1, hz2⟩ := info_parts' info4
  refine wpList_append_own _ hgd s x 38 ho base 4 i0 (.bool false) 1 1 u38 hi hz0 hz1 hz2 rfl (by decide) v xs.length _ hs (World.ownsRow.alloc hown _) ⟨w.heap.size, 0, none⟩ 1 1 [.bool y] hx rfl ?_ ?_ ?_ ?_ ?_ ?_
  · intro j u hj
    match j, hj with
    | 0, hj => simp at hj; subst hj; simp [Addr.add]
  · intro u hu; simp at hu; subst hu; rfl
  · unfold maxLen; omega
  · omega
  · simp; omega
  · intro v' w' h1 h2 _
    refine h v' w' (by unfold OwnT; simpa using h1) ?_
    exact ((Below.refl base w).alloc hbase _).grown h2 (by simp; omega) (own_ge hown)
theorem OwnT.ks {w : World} {B : Nat} {v : Value} {xs : List Bool} (h : OwnT w B v xs) : Ks w v xs := by
  rcases h.2 with ⟨rfl, hn⟩ | ⟨k, cap, cur, rfl, hb, hh, h1, h2, h3, h4⟩
  · exact ⟨none, 0, by rw [hn], fun i hi => by omega⟩
  · refine ⟨_, cap, rfl, fun i hi => ⟨k, 0, rfl, ?_⟩⟩
    have e : (cur.toList.take (xs.length * 1))[i]? = (xs.map Value.bool)[i]? := by rw [h4]
    rw [List.getElem?_take, if_pos (by omega)] at e
    rw [Nat.zero_add, cell_of_row w k i cur 4 _ hh, ← Array.getElem?_toList, e]
    simp [List.getD, List.getElem?_eq_getElem hi]

/-- Three disks at once. -/
structure Tri (w0 W : World) (p g bm pa ga ba pb gb bb : Nat) (D Da Db : Dk) : Prop where
  x : At W p g bm w0.heap.size D
  a : At W pa ga ba w0.heap.size Da
  b : At W pb gb bb w0.heap.size Db
  bl : Below w0.heap.size w0 W
/-- Their blocks are apart. -/
def Sep (M1 M2 p g bm pa ga ba pb gb bb : Nat) : Prop := (p < M1 ∧ g < M1 ∧ bm < M1) ∧ (M1 ≤ pa ∧ M1 ≤ ga ∧ M1 ≤ ba) ∧ (pa < M2 ∧ ga < M2 ∧ ba < M2) ∧ (M2 ≤ pb ∧ M2 ≤ gb ∧ M2 ≤ bb)
section
variable {w0 W W' : World} {M1 M2 p g bm pa ga ba pb gb bb : Nat} {D Da Db : Dk}
theorem Tri.below (h : Tri w0 W p g bm pa ga ba pb gb bb D Da Db) (hb : Below W.heap.size W W') : Tri w0 W' p g bm pa ga ba pb gb bb D Da Db := ⟨h.x.below hb, h.a.below hb, h.b.below hb, h.bl.trans (hb.mono h.bl.size)⟩
theorem Tri.chgA {Da' : Dk} (h : Tri w0 W p g bm pa ga ba pb gb bb D Da Db) (hs : Sep M1 M2 p g bm pa ga ba pb gb bb) (a : At W' pa ga ba w0.heap.size Da') (c : Chg [pa, ga, ba] W W') : Tri w0 W' p g bm pa ga ba pb gb bb D Da' Db := by
  obtain ⟨⟨a1, a2, a3⟩, ⟨b1, b2, b3⟩, ⟨c1, c2, c3⟩, ⟨d1, d2, d3⟩⟩ := hs
  exact ⟨h.x.chg c (by simp; omega), a, h.b.chg c (by simp; omega), h.bl.trans (c.below h.bl.size (by have := h.a.bp; simp; omega))⟩
theorem Tri.chgB {Db' : Dk} (h : Tri w0 W p g bm pa ga ba pb gb bb D Da Db) (hs : Sep M1 M2 p g bm pa ga ba pb gb bb) (b : At W' pb gb bb w0.heap.size Db') (c : Chg [pb, gb, bb] W W') : Tri w0 W' p g bm pa ga ba pb gb bb D Da Db' := by
  obtain ⟨⟨a1, a2, a3⟩, ⟨b1, b2, b3⟩, ⟨c1, c2, c3⟩, ⟨d1, d2, d3⟩⟩ := hs
  exact ⟨h.x.chg c (by simp; omega), h.a.chg c (by simp; omega), b, h.bl.trans (c.below h.bl.size (by have := h.b.bp; simp; omega))⟩
end
end Go.Proofs.Ytmcikhdfpmkpnaa
