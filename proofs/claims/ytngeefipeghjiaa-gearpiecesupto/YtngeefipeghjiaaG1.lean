/- Package gear: the bounds of chunks, the program's Check; ready, Held. -/
import Derived.Test.YtngeefipeghjiaaG0
import Derived.Test.YtngeefipeghjiaaChecked
import Derived.WalkKit
import Derived.WalkSpells
import Derived.WalkLawsBesides
import Derived.Deep.LoopGhost
import Derived.BigQuiet
namespace Go.Proofs.Ytngeefipeghjiaa
open Go.RowKit

/-- A fact that the walk does not see. -/
structure Hid (P : Prop) : Prop where
  out : P
/-- Bounds that may be. -/
def okC (mn av mx : Int) : Prop := 1 ≤ mn ∧ mn ≤ mx ∧ mx ≤ 512 ∧ (av = 1 ∨ av = 2 ∨ av = 4 ∨ av = 8 ∨ av = 16 ∨ av = 32 ∨ av = 64 ∨ av = 128 ∨ av = 256)
instance (mn av mx : Int) : Decidable (okC mn av mx) := by unfold okC; infer_instance
def pows : List Nat := [1, 2, 4, 8, 16, 32, 64, 128, 256]
theorem and_pow : (List.range 256).all (fun n => (bits .and .i64 ((n : Int) + 1) (n : Int) == 0) == pows.contains (n + 1)) = true := by kernel_rfl
theorem ready_any {w : World} {p : Nat} {b : Bool} (h : w.cell? ⟨p, 261, none⟩ = some (.bool b)) : Calls Try.prog 26 #[.pointer (some ⟨p, 0, none⟩)] w fun e w' => e = .returned (.int .i64 (if b then 12 else 0)) ∧ w = w' := by
  go_enter Try.func26, Try.ntmps26
  cases b
  · go_wp2
    go_ret
    exact ⟨rfl, rfl⟩
  · go_wp2
    go_ret
    exact ⟨rfl, rfl⟩
theorem held_any {w : World} {p : Nat} {ao : Option Addr} {n c : Nat} (h : w.cell? ⟨p, 259, none⟩ = some (.slice ao n c)) : Calls Try.prog 21 #[.pointer (some ⟨p, 0, none⟩)] w fun e w' => e = .returned (.int .i64 (n : Int)) ∧ w = w' := by
  go_enter Try.func21, Try.ntmps21
  go_wp2
  go_ret
  exact ⟨rfl, rfl⟩
end Go.Proofs.Ytngeefipeghjiaa
