/- Package gear's mixed and release; the law's small. -/
import Derived.Test.YtngeefipeghjiaaG3
import Derived.Laws.Rows
namespace Go.Proofs.Ytngeefipeghjiaa
open Go.RowKit

def mix1 (y : Int) : Int := IntKind.u64.wrap (bits BinOp.xor IntKind.u64 y (y / 1073741824) * 13787848793156543929)
def mix2 (y : Int) : Int := IntKind.u64.wrap (bits BinOp.xor IntKind.u64 y (y / 134217728) * 10723151780598845931)
def mix3 (y : Int) : Int := bits BinOp.xor IntKind.u64 y (y / 2147483648)
def mixV (y : Int) : Int := mix3 (mix2 (mix1 y))
theorem mixed_any (y : Int) (w : World) : Calls Try.prog 24 #[.int .u64 y] w fun e w' => e = .returned (.int .u64 (mixV y)) ∧ w = w' := by
  go_enter Try.func24, Try.ntmps24
  go_wp2
  go_ret
  exact ⟨rfl, rfl⟩
theorem small_any (ao : Option Addr) (n c : Nat) (hc : n ≤ c) (w : World) : Calls Try.prog 14 #[.slice ao n c] w fun e w' => e = .returned (.slice ao (min n 3000) c) ∧ w = w' := by
  go_enter Try.func14, Try.ntmps14
  by_cases h : (3000 : Int) < (n : Int)
  · go_wp2
    go_ret
    exact ⟨by rw [Nat.min_eq_right (by omega)]; rfl, rfl⟩
  · go_wp2
    go_ret
    exact ⟨by rw [Nat.min_eq_left (by omega)]; rfl, rfl⟩
theorem release_any {w : World} {p : Nat} {cs : Array Value} {ao : Option Addr} {n c : Nat} {z : Int} (h : w.heap[p]? = some (.cells cs 55 (0, 0))) (hv : cs[259]? = some (.slice ao n c)) (hh : cs[260]? = some (.int .u32 z)) :
    Calls Try.prog 29 #[.pointer (some ⟨p, 0, none⟩)] w fun e w' => e = .returned (.slice ao n c) ∧ w' = (w.setCell ⟨p, 259, none⟩ (.slice none 0 0)).setCell ⟨p, 260, none⟩ (.int .u32 0) := by
  have c0 : w.cell? ⟨p, 259, none⟩ = some (.slice ao n c) := (cell_of_row w p 259 cs 55 _ h).trans hv
  have f0 : w.frozen? ⟨p, 259, none⟩ = false := frozen_of_row w p 259 cs 55 h
  have h1 := heap_setCell_same w p 259 cs 55 (.slice none 0 0) h
  have c1 : (w.setCell ⟨p, 259, none⟩ (.slice none 0 0)).cell? ⟨p, 260, none⟩ = some (.int .u32 z) := by
    rw [cell_of_row _ p 260 _ 55 _ h1, Array.getElem?_setIfInBounds_ne (by decide)]; exact hh
  have f1 : (w.setCell ⟨p, 259, none⟩ (.slice none 0 0)).frozen? ⟨p, 260, none⟩ = false := frozen_of_row _ p 260 _ 55 h1
  clear h h1 hv hh
  go_enter Try.func29, Try.ntmps29
  go_wp2
  go_ret
  exact ⟨rfl, rfl⟩
end Go.Proofs.Ytngeefipeghjiaa
