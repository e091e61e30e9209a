/- The walk of CleanAll, of containers and spots that came in. -/
import Derived.Test.YtjcojpddjhjhbaaWAl
import Derived.Test.YtjcojpddjhjhbaaFrF
namespace Go.Proofs.Ytjcojpddjhjhbaa
open Go.RowKit

theorem walk_cleanAll (v : Value) (F : List Fl) (u : Value) (L : List Sp) (W : World) (h : FillV W v F) (hu : SpotV W u L) : Calls Try.prog 5 #[v, u] W fun e w' => e = .returned (.bool true) ∧ Below W.heap.size W w' :=
  cleanAll_any v u F L h.rd h.len hu.rd hu.len
end Go.Proofs.Ytjcojpddjhjhbaa
