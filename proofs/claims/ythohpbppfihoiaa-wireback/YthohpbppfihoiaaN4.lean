/- Notes: what stands alone; what is right. -/
import Derived.Test.YthohpbppfihoiaaN3
import Derived.BigGuard
namespace Go.Proofs.Ythohpbppfihoiaa
open Go.RowKit Oct

theorem wpList_pass {P : Program} {ops : Array Oper} {Q : Exit → Act → World → Prop} {a : Act} {w : World} {rest : List Oper} {o : Oper}
    (hw : Region.wanted o (yielded ops a.tmps) = false) (ha : a.put o.dst undef = a) (h : wpList P ops Q rest a w) : wpList P ops Q (o :: rest) a w := wpList_skip hw (by rw [ha]; exact h)
/-- A note's cells. -/
def na (s : Int) (nm : ByteArray) (g i : Int) (hv pv bv : Value) : Array Value := #[.int .i64 s, .string nm, .int .i64 g, .int .i64 i, hv, pv, bv]
theorem toList_empty : ByteArray.toList { data := #[] } = [] := by
  rw [ByteArray.toList, ByteArray.toList.loop]
  rfl
theorem toList_beq (a b : ByteArray) : (a.toList == b.toList) = decide (a = b) := by
  by_cases h : a = b
  · subst h; rw [decide_eq_true rfl]; exact beq_self_eq_true _
  · rw [decide_eq_false h]
    refine beq_false_of_ne fun e => h ?_
    have h1 : (a.toList == b.toList) = true := by rw [e]; exact beq_self_eq_true _
    rw [← beq_toListBytes] at h1
    cases a with | mk x => cases b with | mk y =>
    have h2 : (x == y) = true := h1
    rw [eq_of_beq h2]
theorem empty_size (b : ByteArray) : b.toList.isEmpty = decide (b.size = 0) := by
  by_cases h : b.size = 0
  · have e : b = { data := #[] } := by
      cases b with | mk d =>
      have : d.size = 0 := h
      rw [Array.size_eq_zero_iff.1 this]
    rw [e, toList_empty]; rfl
  · rw [decide_eq_false h]
    cases hl : b.toList with
    | cons x r => rfl
    | nil =>
      have h1 := toList_beq b { data := #[] }
      rw [hl, toList_empty] at h1
      have h2 := of_decide_eq_true h1.symm
      exact absurd (by rw [h2]; rfl) h
/-- Is all else of a note zero? -/
def al (m : Nm) (nm : ByteArray) (g i : Int) (hn pn bn : Nat) : Bool :=
  (m.1 || (decide (nm.size = 0) && decide (g = 0))) && (m.2.1 || decide (i = 0)) && (m.2.2.1 || decide (hn = 0)) && (m.2.2.2.1 || decide (pn = 0)) && (m.2.2.2.2 || decide (bn = 0))
end Go.Proofs.Ythohpbppfihoiaa
