/-
  DERIVED. GIVEN WITH THE SEED: THE CARDS: each row of YtiloclekhddkfabDoorRows.lean that lists a variable, with what it lists TIED to the program's text (the seventh form; the later family's looks); each row that meets fmt, with fmt's text TOLD by the authors' own Lean function (tested against real Go, not proved from fmt's source: count such statements apart). THE CARD IS WHAT COUNTS. Prove the row's statement (the work); the ties are given (YtiloclekhddkfabDoorTie.lean); close each card by the builder's one call (the guide's Derived/Test/ToyasCard.lean, 'card_holds'). Laid BY PROGRAM, IN A SANDBOX (cutbox-door.mjs). By AI agents, Wed Nov 11 2026. No macro, syntax, notation, axiom, sorry.
-/
import Derived.Test.YtiloclekhddkfabDoorRows
import GoSem.ClaimSeven
namespace Go.Proofs.YtiloclekhddkfabDoor
namespace Rows

/-- THE TIED CARD OF 'aumbrylaw08.BloomNew'. -/
def bloomNewCard : Claim7 := { stood := { row := bloomNewRow, standIns := [], harness := (true, "41e824b969278e3fe4949590d5724024a62b529844623b9fd5f80f6f743b9390"), looks := false }, kinds := [], alts := [], laidByText := true, laidKinds := [.data], laidTests := true, laidLooks := .later }
def BloomNewCardSaid : Prop := Claim7.holds Tryd.pinned (.plain (OpenSpec.ofChange bloomNewSpec)) bloomNewCard

/-- THE TIED CARD OF 'aumbrylaw08.BloomPlays'. -/
def bloomPlaysCard : Claim7 := { stood := { row := bloomPlaysRow, standIns := [], harness := (true, "41e824b969278e3fe4949590d5724024a62b529844623b9fd5f80f6f743b9390"), looks := false }, kinds := [], alts := [], laidByText := true, laidKinds := [.data], laidTests := true, laidLooks := .later }
def BloomPlaysCardSaid : Prop := Claim7.holds Tryd.pinned (.plain (OpenSpec.ofChange bloomPlaysSpec)) bloomPlaysCard

/-- THE TIED CARD OF 'aumbrylaw08.BloomFinds'. -/
def bloomFindsCard : Claim7 := { stood := { row := bloomFindsRow, standIns := [], harness := (true, "41e824b969278e3fe4949590d5724024a62b529844623b9fd5f80f6f743b9390"), looks := false }, kinds := [], alts := [], laidByText := true, laidKinds := [.data], laidTests := true, laidLooks := .later }
def BloomFindsCardSaid : Prop := Claim7.holds Tryd.pinned (.plain (OpenSpec.ofChange bloomFindsSpec)) bloomFindsCard

/-- THE TIED CARD OF 'aumbrylaw08.BloomAnyOrder'. -/
def bloomAnyOrderCard : Claim7 := { stood := { row := bloomAnyOrderRow, standIns := [], harness := (true, "41e824b969278e3fe4949590d5724024a62b529844623b9fd5f80f6f743b9390"), looks := false }, kinds := [], alts := [], laidByText := true, laidKinds := [.data], laidTests := true, laidLooks := .later }
def BloomAnyOrderCardSaid : Prop := Claim7.holds Tryd.pinned (.plain (OpenSpec.ofChange bloomAnyOrderSpec)) bloomAnyOrderCard

/-- THE TIED CARD OF 'aumbrylaw08.BloomForks'. -/
def bloomForksCard : Claim7 := { stood := { row := bloomForksRow, standIns := [], harness := (true, "41e824b969278e3fe4949590d5724024a62b529844623b9fd5f80f6f743b9390"), looks := false }, kinds := [], alts := [], laidByText := true, laidKinds := [.data], laidTests := true, laidLooks := .later }
def BloomForksCardSaid : Prop := Claim7.holds Tryd.pinned (.plain (OpenSpec.ofChange bloomForksSpec)) bloomForksCard

/-- THE SECOND FORM's CARD OF 'aumbrylaw08.BloomNew'. -/
def bloomNewUptoCard : Claim7 := { stood := { row := bloomNewUptoRow, standIns := [], harness := (true, "41e824b969278e3fe4949590d5724024a62b529844623b9fd5f80f6f743b9390"), looks := false }, kinds := [], alts := [], laidByText := true, laidKinds := [.data], laidTests := true, laidLooks := .later }
def BloomNewUptoCardSaid : Prop := Claim7.holds Tryd.pinned (.plain (OpenSpec.upto bloomNewSpec)) bloomNewUptoCard

/-- THE SECOND FORM's CARD OF 'aumbrylaw08.BloomPlays'. -/
def bloomPlaysUptoCard : Claim7 := { stood := { row := bloomPlaysUptoRow, standIns := [], harness := (true, "41e824b969278e3fe4949590d5724024a62b529844623b9fd5f80f6f743b9390"), looks := false }, kinds := [], alts := [], laidByText := true, laidKinds := [.data], laidTests := true, laidLooks := .later }
def BloomPlaysUptoCardSaid : Prop := Claim7.holds Tryd.pinned (.plain (OpenSpec.upto bloomPlaysSpec)) bloomPlaysUptoCard

/-- THE SECOND FORM's CARD OF 'aumbrylaw08.BloomFinds'. -/
def bloomFindsUptoCard : Claim7 := { stood := { row := bloomFindsUptoRow, standIns := [], harness := (true, "41e824b969278e3fe4949590d5724024a62b529844623b9fd5f80f6f743b9390"), looks := false }, kinds := [], alts := [], laidByText := true, laidKinds := [.data], laidTests := true, laidLooks := .later }
def BloomFindsUptoCardSaid : Prop := Claim7.holds Tryd.pinned (.plain (OpenSpec.upto bloomFindsSpec)) bloomFindsUptoCard

/-- THE SECOND FORM's CARD OF 'aumbrylaw08.BloomAnyOrder'. -/
def bloomAnyOrderUptoCard : Claim7 := { stood := { row := bloomAnyOrderUptoRow, standIns := [], harness := (true, "41e824b969278e3fe4949590d5724024a62b529844623b9fd5f80f6f743b9390"), looks := false }, kinds := [], alts := [], laidByText := true, laidKinds := [.data], laidTests := true, laidLooks := .later }
def BloomAnyOrderUptoCardSaid : Prop := Claim7.holds Tryd.pinned (.plain (OpenSpec.upto bloomAnyOrderSpec)) bloomAnyOrderUptoCard

/-- THE SECOND FORM's CARD OF 'aumbrylaw08.BloomForks'. -/
def bloomForksUptoCard : Claim7 := { stood := { row := bloomForksUptoRow, standIns := [], harness := (true, "41e824b969278e3fe4949590d5724024a62b529844623b9fd5f80f6f743b9390"), looks := false }, kinds := [], alts := [], laidByText := true, laidKinds := [.data], laidTests := true, laidLooks := .later }
def BloomForksUptoCardSaid : Prop := Claim7.holds Tryd.pinned (.plain (OpenSpec.upto bloomForksSpec)) bloomForksUptoCard
end Rows
end Go.Proofs.YtiloclekhddkfabDoor
