/-
  DERIVED. GIVEN WITH THE SEED: THE CARDS: each row of YtgjjjkokmgdmjaaDoorRows.lean that lists a variable, with what it lists TIED to the program's text (the seventh form; the later family's looks); each row that meets fmt, with fmt's text TOLD by the authors' own Lean function (tested against real Go, not proved from fmt's source: count such statements apart). THE CARD IS WHAT COUNTS. Prove the row's statement (the work); the ties are given (YtgjjjkokmgdmjaaDoorTie.lean); close each card by the builder's one call (the guide's Derived/Test/ToyasCard.lean, 'card_holds'). Laid BY PROGRAM, IN A SANDBOX (cutbox-door.mjs). By AI agents, Wed Nov 11 2026. No macro, syntax, notation, axiom, sorry.
-/
import Derived.Test.YtgjjjkokmgdmjaaDoorRows
import GoSem.ClaimSeven
namespace Go.Proofs.YtgjjjkokmgdmjaaDoor
namespace Rows

/-- THE TIED CARD OF 'aumbrylaw05.SlotTorn'. -/
def slotTornCard : Claim7 := { stood := { row := slotTornRow, standIns := [], harness := (true, "bf25aa7e4543df2ecdd6b93004283fe03b7a2f295d6fac775c08a5538f20d1eb"), looks := false }, kinds := [], alts := [], laidByText := true, laidKinds := [.data], laidTests := true, laidLooks := .later }
def SlotTornCardSaid : Prop := Claim7.holds Tryd.pinned (.plain (OpenSpec.ofChange slotTornSpec)) slotTornCard

/-- THE TIED CARD OF 'aumbrylaw05.SlotSeen'. -/
def slotSeenCard : Claim7 := { stood := { row := slotSeenRow, standIns := [], harness := (true, "bf25aa7e4543df2ecdd6b93004283fe03b7a2f295d6fac775c08a5538f20d1eb"), looks := false }, kinds := [], alts := [], laidByText := true, laidKinds := [.data], laidTests := true, laidLooks := .later }
def SlotSeenCardSaid : Prop := Claim7.holds Tryd.pinned (.plain (OpenSpec.ofChange slotSeenSpec)) slotSeenCard

/-- THE TIED CARD OF 'aumbrylaw05.SlotNone'. -/
def slotNoneCard : Claim7 := { stood := { row := slotNoneRow, standIns := [], harness := (true, "bf25aa7e4543df2ecdd6b93004283fe03b7a2f295d6fac775c08a5538f20d1eb"), looks := false }, kinds := [], alts := [], laidByText := true, laidKinds := [.data], laidTests := true, laidLooks := .later }
def SlotNoneCardSaid : Prop := Claim7.holds Tryd.pinned (.plain (OpenSpec.ofChange slotNoneSpec)) slotNoneCard

/-- THE SECOND FORM's CARD OF 'aumbrylaw05.SlotTorn'. -/
def slotTornUptoCard : Claim7 := { stood := { row := slotTornUptoRow, standIns := [], harness := (true, "bf25aa7e4543df2ecdd6b93004283fe03b7a2f295d6fac775c08a5538f20d1eb"), looks := false }, kinds := [], alts := [], laidByText := true, laidKinds := [.data], laidTests := true, laidLooks := .later }
def SlotTornUptoCardSaid : Prop := Claim7.holds Tryd.pinned (.plain (OpenSpec.upto slotTornSpec)) slotTornUptoCard

/-- THE SECOND FORM's CARD OF 'aumbrylaw05.SlotSeen'. -/
def slotSeenUptoCard : Claim7 := { stood := { row := slotSeenUptoRow, standIns := [], harness := (true, "bf25aa7e4543df2ecdd6b93004283fe03b7a2f295d6fac775c08a5538f20d1eb"), looks := false }, kinds := [], alts := [], laidByText := true, laidKinds := [.data], laidTests := true, laidLooks := .later }
def SlotSeenUptoCardSaid : Prop := Claim7.holds Tryd.pinned (.plain (OpenSpec.upto slotSeenSpec)) slotSeenUptoCard

/-- THE SECOND FORM's CARD OF 'aumbrylaw05.SlotNone'. -/
def slotNoneUptoCard : Claim7 := { stood := { row := slotNoneUptoRow, standIns := [], harness := (true, "bf25aa7e4543df2ecdd6b93004283fe03b7a2f295d6fac775c08a5538f20d1eb"), looks := false }, kinds := [], alts := [], laidByText := true, laidKinds := [.data], laidTests := true, laidLooks := .later }
def SlotNoneUptoCardSaid : Prop := Claim7.holds Tryd.pinned (.plain (OpenSpec.upto slotNoneSpec)) slotNoneUptoCard
end Rows
end Go.Proofs.YtgjjjkokmgdmjaaDoor
