/- A cutter in memory; append of one byte. -/
import Derived.Test.YtngeefipeghjiaaG5
namespace Go.Proofs.Ytngeefipeghjiaa
open Go.RowKit

/-- 'append(l, y)' of one byte. -/
theorem wp_app1B {ops : Array Oper} {rest : List Oper} {o : Oper} {a : Act} {Q : Exit → Act → World → Prop} {w : World} {y : Int} (hgd : o.guard = none) (s x : Operand)
    (ho : o.op = .call { callee := .builtin .append, args := #[s, x], argTypes := #[32, 32] })
    {base : Nat} {v : Value} {xs : List Int} (hs : a.eval s = v) (hown : OwnB w base v xs)
    (hx : a.eval x = .slice (some ⟨w.heap.size, 0, none⟩) 1 1) (hlen : xs.length ≤ 1000000) (hbase : base ≤ w.heap.size)
    (h : ∀ v' w', OwnB w' base v' (xs ++ [y]) → Below base w w' → wpList Try.prog ops Q rest (a.put o.dst v') w') :
    wpList Try.prog ops Q (o :: rest) a (w.alloc (.cells #[.int .u8 y] 5)) := by
  obtain ⟨i0, hi, hz0, hz1, hz2⟩ := info_parts' info5b
  refine wpList_append_own _ hgd s x 32 ho base 5 i0 (.int .u8 0) 1 1 Try.underlying32 hi hz0 hz1 hz2 rfl (by decide) v xs.length _ hs (World.ownsRow.alloc hown _) ⟨w.heap.size, 0, none⟩ 1 1 [.int .u8 y] hx rfl ?_ ?_ ?_ ?_ ?_ ?_
  · intro j u hj
    match j, hj with
    | 0, hj => simp at hj; subst hj; simp [Addr.add]
  · intro u hu; simp at hu; subst hu; rfl
  · unfold maxLen; omega
  · omega
  · simp; omega
  · intro v' w' h1 h2 _
    refine h v' w' (by unfold OwnB; simpa using h1) ?_
    exact ((Below.refl base w).alloc hbase _).grown h2 (by simp; omega) (own_ge hown)

/-- A cutter at block p: bounds mn and mx, hashes below lo end a chunk, table T; it holds l (in v), of hash h. -/
structure CutAt (w : World) (p base : Nat) (mn mx lo : Int) (T : Nat → Int) (cs : Array Value) (v : Value) (l : List Int) (h : Int) (over : Bool) : Prop where
  row : w.heap[p]? = some (.cells cs 55 (0, 0))
  size : cs.size = 262
  c0 : cs[0]? = some (.int .i64 mn)
  c1 : cs[1]? = some (.int .i64 mx)
  c2 : cs[2]? = some (.int .u64 lo)
  tab : ∀ i, i < 256 → cs[3 + i]? = some (.int .u32 (T i))
  c4 : cs[259]? = some v
  c5 : cs[260]? = some (.int .u32 h)
  c6 : cs[261]? = some (.bool over)
  own : OwnB w base v l
  bp : base ≤ p
theorem CutAt.lt {w : World} {p base : Nat} {mn mx lo : Int} {T : Nat → Int} {cs : Array Value} {v : Value} {l : List Int} {h : Int} {over : Bool} (k : CutAt w p base mn mx lo T cs v l h over) : p < w.heap.size := (Array.getElem?_eq_some_iff.1 k.row).1
theorem CutAt.cell {w : World} {p base : Nat} {mn mx lo : Int} {T : Nat → Int} {cs : Array Value} {v : Value} {l : List Int} {h : Int} {over : Bool} (k : CutAt w p base mn mx lo T cs v l h over) (j : Nat) : w.cell? ⟨p, j, none⟩ = cs[j]? := cell_of_row w p j cs 55 _ k.row
end Go.Proofs.Ytngeefipeghjiaa
