/-
  DERIVED. GIVEN WITH THE SEED: THE CARDS: each row of YthfikoghbnicoabDoorRows.lean that lists a variable, with what it lists TIED to the program's text (the seventh form; the later family's looks); each row that meets fmt, with fmt's text TOLD by the authors' own Lean function (tested against real Go, not proved from fmt's source: count such statements apart). THE CARD IS WHAT COUNTS. Prove the row's statement (the work); the ties are given (YthfikoghbnicoabDoorTie.lean); close each card by the builder's one call (the guide's Derived/Test/ToyasCard.lean, 'card_holds'). Laid BY PROGRAM, IN A SANDBOX (cutbox-door.mjs). By AI agents, Wed Nov 11 2026. No macro, syntax, notation, axiom, sorry.
-/
import Derived.Test.YthfikoghbnicoabDoorRows
import GoSem.ClaimSeven
namespace Go.Proofs.YthfikoghbnicoabDoor
namespace Rows

/-- THE TIED CARD OF 'aumbrylaw02.DigestSums'. -/
def digestSumsCard : Claim7 := { stood := { row := digestSumsRow, standIns := [], harness := (true, "877b0bfb106fb6881ff6594a30986d43b6e9040e7de4c5121d875be22ad3a3c3"), looks := false }, kinds := [], alts := [], laidByText := true, laidKinds := [.data, .data, .data], laidTests := true, laidLooks := .later }
def DigestSumsCardSaid : Prop := Claim7.holds Tryd.pinned (.plain (OpenSpec.ofChange digestSumsSpec)) digestSumsCard

/-- THE TIED CARD OF 'aumbrylaw02.DigestPieces'. -/
def digestPiecesCard : Claim7 := { stood := { row := digestPiecesRow, standIns := [], harness := (true, "877b0bfb106fb6881ff6594a30986d43b6e9040e7de4c5121d875be22ad3a3c3"), looks := false }, kinds := [], alts := [], laidByText := true, laidKinds := [.data, .data, .data], laidTests := true, laidLooks := .later }
def DigestPiecesCardSaid : Prop := Claim7.holds Tryd.pinned (.plain (OpenSpec.ofChange digestPiecesSpec)) digestPiecesCard

/-- THE TIED CARD OF 'aumbrylaw02.DigestCrcs'. -/
def digestCrcsCard : Claim7 := { stood := { row := digestCrcsRow, standIns := [], harness := (true, "877b0bfb106fb6881ff6594a30986d43b6e9040e7de4c5121d875be22ad3a3c3"), looks := false }, kinds := [], alts := [], laidByText := true, laidKinds := [.data, .data, .data], laidTests := true, laidLooks := .later }
def DigestCrcsCardSaid : Prop := Claim7.holds Tryd.pinned (.plain (OpenSpec.ofChange digestCrcsSpec)) digestCrcsCard

/-- THE TIED CARD OF 'aumbrylaw02.DigestJoins'. -/
def digestJoinsCard : Claim7 := { stood := { row := digestJoinsRow, standIns := [], harness := (true, "877b0bfb106fb6881ff6594a30986d43b6e9040e7de4c5121d875be22ad3a3c3"), looks := false }, kinds := [], alts := [], laidByText := true, laidKinds := [.data, .data, .data], laidTests := true, laidLooks := .later }
def DigestJoinsCardSaid : Prop := Claim7.holds Tryd.pinned (.plain (OpenSpec.ofChange digestJoinsSpec)) digestJoinsCard

/-- THE TIED CARD OF 'aumbrylaw02.DigestApart'. -/
def digestApartCard : Claim7 := { stood := { row := digestApartRow, standIns := [], harness := (true, "877b0bfb106fb6881ff6594a30986d43b6e9040e7de4c5121d875be22ad3a3c3"), looks := false }, kinds := [], alts := [], laidByText := true, laidKinds := [.data, .data, .data], laidTests := true, laidLooks := .later }
def DigestApartCardSaid : Prop := Claim7.holds Tryd.pinned (.plain (OpenSpec.ofChange digestApartSpec)) digestApartCard

/-- THE TIED CARD OF 'aumbrylaw02.DigestForks'. -/
def digestForksCard : Claim7 := { stood := { row := digestForksRow, standIns := [], harness := (true, "877b0bfb106fb6881ff6594a30986d43b6e9040e7de4c5121d875be22ad3a3c3"), looks := false }, kinds := [], alts := [], laidByText := true, laidKinds := [.data, .data, .data], laidTests := true, laidLooks := .later }
def DigestForksCardSaid : Prop := Claim7.holds Tryd.pinned (.plain (OpenSpec.ofChange digestForksSpec)) digestForksCard

/-- THE SECOND FORM's CARD OF 'aumbrylaw02.DigestSums'. -/
def digestSumsUptoCard : Claim7 := { stood := { row := digestSumsUptoRow, standIns := [], harness := (true, "877b0bfb106fb6881ff6594a30986d43b6e9040e7de4c5121d875be22ad3a3c3"), looks := false }, kinds := [], alts := [], laidByText := true, laidKinds := [.data, .data, .data], laidTests := true, laidLooks := .later }
def DigestSumsUptoCardSaid : Prop := Claim7.holds Tryd.pinned (.plain (OpenSpec.upto digestSumsSpec)) digestSumsUptoCard

/-- THE SECOND FORM's CARD OF 'aumbrylaw02.DigestPieces'. -/
def digestPiecesUptoCard : Claim7 := { stood := { row := digestPiecesUptoRow, standIns := [], harness := (true, "877b0bfb106fb6881ff6594a30986d43b6e9040e7de4c5121d875be22ad3a3c3"), looks := false }, kinds := [], alts := [], laidByText := true, laidKinds := [.data, .data, .data], laidTests := true, laidLooks := .later }
def DigestPiecesUptoCardSaid : Prop := Claim7.holds Tryd.pinned (.plain (OpenSpec.upto digestPiecesSpec)) digestPiecesUptoCard

/-- THE SECOND FORM's CARD OF 'aumbrylaw02.DigestCrcs'. -/
def digestCrcsUptoCard : Claim7 := { stood := { row := digestCrcsUptoRow, standIns := [], harness := (true, "877b0bfb106fb6881ff6594a30986d43b6e9040e7de4c5121d875be22ad3a3c3"), looks := false }, kinds := [], alts := [], laidByText := true, laidKinds := [.data, .data, .data], laidTests := true, laidLooks := .later }
def DigestCrcsUptoCardSaid : Prop := Claim7.holds Tryd.pinned (.plain (OpenSpec.upto digestCrcsSpec)) digestCrcsUptoCard

/-- THE SECOND FORM's CARD OF 'aumbrylaw02.DigestJoins'. -/
def digestJoinsUptoCard : Claim7 := { stood := { row := digestJoinsUptoRow, standIns := [], harness := (true, "877b0bfb106fb6881ff6594a30986d43b6e9040e7de4c5121d875be22ad3a3c3"), looks := false }, kinds := [], alts := [], laidByText := true, laidKinds := [.data, .data, .data], laidTests := true, laidLooks := .later }
def DigestJoinsUptoCardSaid : Prop := Claim7.holds Tryd.pinned (.plain (OpenSpec.upto digestJoinsSpec)) digestJoinsUptoCard

/-- THE SECOND FORM's CARD OF 'aumbrylaw02.DigestApart'. -/
def digestApartUptoCard : Claim7 := { stood := { row := digestApartUptoRow, standIns := [], harness := (true, "877b0bfb106fb6881ff6594a30986d43b6e9040e7de4c5121d875be22ad3a3c3"), looks := false }, kinds := [], alts := [], laidByText := true, laidKinds := [.data, .data, .data], laidTests := true, laidLooks := .later }
def DigestApartUptoCardSaid : Prop := Claim7.holds Tryd.pinned (.plain (OpenSpec.upto digestApartSpec)) digestApartUptoCard

/-- THE SECOND FORM's CARD OF 'aumbrylaw02.DigestForks'. -/
def digestForksUptoCard : Claim7 := { stood := { row := digestForksUptoRow, standIns := [], harness := (true, "877b0bfb106fb6881ff6594a30986d43b6e9040e7de4c5121d875be22ad3a3c3"), looks := false }, kinds := [], alts := [], laidByText := true, laidKinds := [.data, .data, .data], laidTests := true, laidLooks := .later }
def DigestForksUptoCardSaid : Prop := Claim7.holds Tryd.pinned (.plain (OpenSpec.upto digestForksSpec)) digestForksUptoCard
end Rows
end Go.Proofs.YthfikoghbnicoabDoor
