/- The heap's methods, reached through the interface. -/
import Derived.Test.YtjcojpddjhjhbaaC3
import Derived.Laws.ByValue
import Derived.Shelf.Abstract
namespace Go.Proofs.Ytjcojpddjhjhbaa
open Go.RowKit Go.Lib Go.Shelf

theorem finds_push (w : World) (b : Nat) : (method 221 59 (.pointer (some ⟨b, 0, none⟩)) "Push").run Try.prog w = .ok (77, .pointer (some ⟨b, 0, none⟩)) w := by kernel_rfl
theorem finds_pop (w : World) (b : Nat) : (method 221 59 (.pointer (some ⟨b, 0, none⟩)) "Pop").run Try.prog w = .ok (76, .pointer (some ⟨b, 0, none⟩)) w := by kernel_rfl
theorem load56 (w : World) (b : Nat) (sl : Value) (h : w.cell? ⟨b, 0, none⟩ = some sl) : (loadVar 56 ⟨b, 0, none⟩).run Try.prog w = .ok sl w := by
  go_simp
theorem finds_len (w : World) (b : Nat) (sl : Value) (h : w.cell? ⟨b, 0, none⟩ = some sl) : (method 221 59 (.pointer (some ⟨b, 0, none⟩)) "Len").run Try.prog w = .ok (70, sl) w := by
  have e : (method 221 59 (.pointer (some ⟨b, 0, none⟩)) "Len").run Try.prog w = (do let r ← loadVar 56 ⟨b, 0, none⟩; pure (70, r) : Sem (FuncId × Value)).run Try.prog w := by kernel_rfl
  rw [e, Sem.run_bind, load56 w b sl h]
  rfl
theorem finds_less (w : World) (b : Nat) (sl : Value) (h : w.cell? ⟨b, 0, none⟩ = some sl) : (method 221 59 (.pointer (some ⟨b, 0, none⟩)) "Less").run Try.prog w = .ok (71, sl) w := by
  have e : (method 221 59 (.pointer (some ⟨b, 0, none⟩)) "Less").run Try.prog w = (do let r ← loadVar 56 ⟨b, 0, none⟩; pure (71, r) : Sem (FuncId × Value)).run Try.prog w := by kernel_rfl
  rw [e, Sem.run_bind, load56 w b sl h]
  rfl
theorem finds_swap (w : World) (b : Nat) (sl : Value) (h : w.cell? ⟨b, 0, none⟩ = some sl) : (method 221 59 (.pointer (some ⟨b, 0, none⟩)) "Swap").run Try.prog w = .ok (72, sl) w := by
  have e : (method 221 59 (.pointer (some ⟨b, 0, none⟩)) "Swap").run Try.prog w = (do let r ← loadVar 56 ⟨b, 0, none⟩; pure (72, r) : Sem (FuncId × Value)).run Try.prog w := by kernel_rfl
  rw [e, Sem.run_bind, load56 w b sl h]
  rfl
theorem eg70 : ∀ args w, (callFunc 70 args).run Try.prog w = .ok (.enter 70 args) w := enters_of Try.func70 (by kernel_rfl) rfl
theorem eg71 : ∀ args w, (callFunc 71 args).run Try.prog w = .ok (.enter 71 args) w := enters_of Try.func71 (by kernel_rfl) rfl
theorem eg72 : ∀ args w, (callFunc 72 args).run Try.prog w = .ok (.enter 72 args) w := enters_of Try.func72 (by kernel_rfl) rfl
theorem eg76 : ∀ args w, (callFunc 76 args).run Try.prog w = .ok (.enter 76 args) w := enters_of Try.func76 (by kernel_rfl) rfl
theorem eg77 : ∀ args w, (callFunc 77 args).run Try.prog w = .ok (.enter 77 args) w := enters_of Try.func77 (by kernel_rfl) rfl
/-- A variable that holds a row of shares. -/
structure Box (w : World) (b base : Nat) (sl : Value) (L : List Sh) : Prop where
  box : w.heap[b]? = some (.cells #[sl] 56 (0, 0))
  own : OwnE sh3 3 27 w base sl L
theorem Box.cell {w : World} {b base : Nat} {sl : Value} {L : List Sh} (h : Box w b base sl L) : w.cell? ⟨b, 0, none⟩ = some sl := by rw [cell_of_row _ _ _ _ _ _ h.box]; rfl
theorem Box.lt {w : World} {b base : Nat} {sl : Value} {L : List Sh} (h : Box w b base sl L) : b < w.heap.size := (Array.getElem?_eq_some_iff.1 h.box).1
theorem Box.not {w : World} {b base : Nat} {sl : Value} {L : List Sh} (h : Box w b base sl L) : b ∉ ob sl := fun hm => by
  obtain ⟨cs, hcs⟩ := h.own.ty b hm
  rw [h.box] at hcs
  simp at hcs
theorem Box.far {w w' : World} {b base : Nat} {sl : Value} {L : List Sh} {X : List Nat} (h : Box w b base sl L) (hc : Chg X w w') (hb : b ∉ X) (hx : ∀ g ∈ ob sl, g ∉ X) : Box w' b base sl L :=
  ⟨(hc.block b h.lt hb).trans h.box, h.own.far hc hx⟩
theorem Box.gw {w w' : World} {b base : Nat} {sl : Value} {L : List Sh} (h : Box w b base sl L) (hc : Gw w w') : Box w' b base sl L := h.far (Chg.ofBelow (X := []) hc.below) (by simp) (by simp)
end Go.Proofs.Ytjcojpddjhjhbaa
