/-
  No cell of these rows narrows 'for every input' (looked for: loops, veiled, ifaces, maps, wideKeys, modest, calm, conditions, laid).
  DERIVED. THE GIVEN ROWS OF THIS SEAT. 5 by the template 'for every input the law returns true; each argument reads behind the call as it read before'; 0 by the template 'total and deterministic' (their statements: YtjcojpddjhjhbaaTotals.lean).
  GIVEN WITH THE SEED: the statements are not yours to turn. If you find one false, say at which input.
  Laid BY PROGRAM, IN A SANDBOX (cutbox-rows.mjs): the forced cells as the released guide's own fill.sh prints them over the translation f7d8469780b2dfe2… (all of the seat's roots in one cut). By AI agents, Wed Nov 11 2026. No macro, syntax, notation, axiom, sorry.
-/
import Derived.Test.YtjcojpddjhjhbaaChecked
import GoSem.Claim
import GoSem.ClaimJoined
import GoSem.ClaimMapViews
import Derived.JoinedTies
import Derived.KernelRfl
namespace Go.Proofs.Ytjcojpddjhjhbaa
/- THE CELL 'sum', in the pinned program and in every row, IS THE sha256 OF THE DUMP (.gsa) THAT YtjcojpddjhjhbaaProg.lean LOADS. Nothing in Lean hashes anything: it is a label: what it is worth is what the hold of that sum in a sandbox is worth. -/
noncomputable def Try.pinned : Pinned := { name := "ytjcojpddjhjhbaa", sum := "f7d8469780b2dfe29343a437901ed855b7592a2c9104521f6529b2ba7ee147f5", checked := Try.checked }
namespace Rows
def none {H : Type} : Left H := { results := [], args := [] }

/-- 'aumbrylaw18.CleanShares': WHATEVER THE INPUT: true; the input reads as it did. -/
def cleanSharesSpec : ChangeSpec := { name := "cleanShares", fn := fun _ => fun
  | [d1, d2] => { results := [.lit (.bool true)], args := [d1, d2] }
  | _ => none }
def cleanSharesRow : OpenClaim := { program := "ytjcojpddjhjhbaa", sum := "f7d8469780b2dfe29343a437901ed855b7592a2c9104521f6529b2ba7ee147f5", func := "aumbry/aumbrylaw18.CleanShares", spec := "cleanShares", unfollowed := true, recurses := true, plainKeys := false, apart := false }
def CleanSharesSaid : Prop := cleanSharesRow.holds Try.pinned (OpenSpec.ofChange cleanSharesSpec)

/-- ITS FALSE NEIGHBOUR: 'it returns false'. Refute it at one input. -/
def cleanSharesWrong : ChangeSpec := { name := "cleanShares", fn := fun _ => fun
  | [d1, d2] => { results := [.lit (.bool false)], args := [d1, d2] }
  | _ => none }
def CleanSharesWrongFalsely : Prop := cleanSharesRow.holds Try.pinned (OpenSpec.ofChange cleanSharesWrong)

/-- 'aumbrylaw18.CleanChooses': WHATEVER THE INPUT: true; the input reads as it did. -/
def cleanChoosesSpec : ChangeSpec := { name := "cleanChooses", fn := fun _ => fun
  | [d1, d2, d3] => { results := [.lit (.bool true)], args := [d1, d2, d3] }
  | _ => none }
def cleanChoosesRow : OpenClaim := { program := "ytjcojpddjhjhbaa", sum := "f7d8469780b2dfe29343a437901ed855b7592a2c9104521f6529b2ba7ee147f5", func := "aumbry/aumbrylaw18.CleanChooses", spec := "cleanChooses", unfollowed := true, recurses := true, plainKeys := false, apart := false }
def CleanChoosesSaid : Prop := cleanChoosesRow.holds Try.pinned (OpenSpec.ofChange cleanChoosesSpec)

/-- ITS FALSE NEIGHBOUR: 'it returns false'. Refute it at one input. -/
def cleanChoosesWrong : ChangeSpec := { name := "cleanChooses", fn := fun _ => fun
  | [d1, d2, d3] => { results := [.lit (.bool false)], args := [d1, d2, d3] }
  | _ => none }
def CleanChoosesWrongFalsely : Prop := cleanChoosesRow.holds Try.pinned (OpenSpec.ofChange cleanChoosesWrong)

/-- 'aumbrylaw18.CleanAll': WHATEVER THE INPUT: true; the input reads as it did. -/
def cleanAllSpec : ChangeSpec := { name := "cleanAll", fn := fun _ => fun
  | [d1, d2] => { results := [.lit (.bool true)], args := [d1, d2] }
  | _ => none }
def cleanAllRow : OpenClaim := { program := "ytjcojpddjhjhbaa", sum := "f7d8469780b2dfe29343a437901ed855b7592a2c9104521f6529b2ba7ee147f5", func := "aumbry/aumbrylaw18.CleanAll", spec := "cleanAll", unfollowed := true, recurses := true, plainKeys := false, apart := false }
def CleanAllSaid : Prop := cleanAllRow.holds Try.pinned (OpenSpec.ofChange cleanAllSpec)

/-- ITS FALSE NEIGHBOUR: 'it returns false'. Refute it at one input. -/
def cleanAllWrong : ChangeSpec := { name := "cleanAll", fn := fun _ => fun
  | [d1, d2] => { results := [.lit (.bool false)], args := [d1, d2] }
  | _ => none }
def CleanAllWrongFalsely : Prop := cleanAllRow.holds Try.pinned (OpenSpec.ofChange cleanAllWrong)

/-- 'aumbrylaw18.CleanFirst': WHATEVER THE INPUT: true; the input reads as it did. -/
def cleanFirstSpec : ChangeSpec := { name := "cleanFirst", fn := fun _ => fun
  | [d1, d2, d3] => { results := [.lit (.bool true)], args := [d1, d2, d3] }
  | _ => none }
def cleanFirstRow : OpenClaim := { program := "ytjcojpddjhjhbaa", sum := "f7d8469780b2dfe29343a437901ed855b7592a2c9104521f6529b2ba7ee147f5", func := "aumbry/aumbrylaw18.CleanFirst", spec := "cleanFirst", unfollowed := true, recurses := true, plainKeys := false, apart := false }
def CleanFirstSaid : Prop := cleanFirstRow.holds Try.pinned (OpenSpec.ofChange cleanFirstSpec)

/-- ITS FALSE NEIGHBOUR: 'it returns false'. Refute it at one input. -/
def cleanFirstWrong : ChangeSpec := { name := "cleanFirst", fn := fun _ => fun
  | [d1, d2, d3] => { results := [.lit (.bool false)], args := [d1, d2, d3] }
  | _ => none }
def CleanFirstWrongFalsely : Prop := cleanFirstRow.holds Try.pinned (OpenSpec.ofChange cleanFirstWrong)

/-- 'aumbrylaw18.CleanCopies': WHATEVER THE INPUT: true; the input reads as it did. -/
def cleanCopiesSpec : ChangeSpec := { name := "cleanCopies", fn := fun _ => fun
  | [d1, d2] => { results := [.lit (.bool true)], args := [d1, d2] }
  | _ => none }
def cleanCopiesRow : OpenClaim := { program := "ytjcojpddjhjhbaa", sum := "f7d8469780b2dfe29343a437901ed855b7592a2c9104521f6529b2ba7ee147f5", func := "aumbry/aumbrylaw18.CleanCopies", spec := "cleanCopies", unfollowed := true, recurses := true, plainKeys := false, apart := false }
def CleanCopiesSaid : Prop := cleanCopiesRow.holds Try.pinned (OpenSpec.ofChange cleanCopiesSpec)

/-- ITS FALSE NEIGHBOUR: 'it returns false'. Refute it at one input. -/
def cleanCopiesWrong : ChangeSpec := { name := "cleanCopies", fn := fun _ => fun
  | [d1, d2] => { results := [.lit (.bool false)], args := [d1, d2] }
  | _ => none }
def CleanCopiesWrongFalsely : Prop := cleanCopiesRow.holds Try.pinned (OpenSpec.ofChange cleanCopiesWrong)

/- THE SECOND FORM. 'bulk': how many values and letters a reading holds, each counted each time it is reached (what is shared counts as often as it is met; a slice's spare places count too). A statement '..UptoSaid' is the law's where the arguments, and the package variables that the reading takes, are together of bulk at most 1048576: NARROWER than '..Said'. Prove '..Said' where nothing that the law and all that it calls make is longer than what came in: it says more and counts as full. Else prove '..UptoSaid'. A law counts once. -/
mutual
def uptoBulk {H : Type} : DataW H → Nat
  | .lit (.string bytes) => bytes.length + 1
  | .lit _ => 1
  | .nil => 1
  | .ptr d => uptoBulk d + 1
  | .slice elems spare => uptoBulkAll elems + uptoBulkAll spare + 1
  | .agg parts => uptoBulkAll parts + 1
  | .iface _ d => uptoBulk d + 1
  | .map entries => uptoBulkEntries entries + 1
  | .held _ => 1
def uptoBulkAll {H : Type} : List (DataW H) → Nat
  | [] => 0
  | d :: r => uptoBulk d + uptoBulkAll r
def uptoBulkEntries {H : Type} : List (Lit × DataW H) → Nat
  | [] => 0
  | x :: r => uptoBulkEntry x + uptoBulkEntries r
def uptoBulkEntry {H : Type} : Lit × DataW H → Nat
  | (.string bytes, d) => bytes.length + uptoBulk d + 1
  | (_, d) => uptoBulk d + 1
 end
def uptoSmall : (H : Type) → List (DataW H) → Bool := fun _ ds => decide (uptoBulkAll ds ≤ 1048576)
def OpenSpec.upto (s : _root_.Go.ChangeSpec) : _root_.Go.OpenSpec := { _root_.Go.OpenSpec.ofChange s with cond := some uptoSmall }

/-- 'aumbrylaw18.CleanShares', WHERE WHAT IT READS IS OF BULK AT MOST 1048576: true; the input reads as it did. -/
def cleanSharesUptoRow : OpenClaim := { program := "ytjcojpddjhjhbaa", sum := "f7d8469780b2dfe29343a437901ed855b7592a2c9104521f6529b2ba7ee147f5", func := "aumbry/aumbrylaw18.CleanShares", spec := "cleanShares", unfollowed := true, recurses := true, plainKeys := false, apart := false, narrowed := true }
def CleanSharesUptoSaid : Prop := cleanSharesUptoRow.holds Try.pinned (OpenSpec.upto cleanSharesSpec)

/-- 'aumbrylaw18.CleanChooses', WHERE WHAT IT READS IS OF BULK AT MOST 1048576: true; the input reads as it did. -/
def cleanChoosesUptoRow : OpenClaim := { program := "ytjcojpddjhjhbaa", sum := "f7d8469780b2dfe29343a437901ed855b7592a2c9104521f6529b2ba7ee147f5", func := "aumbry/aumbrylaw18.CleanChooses", spec := "cleanChooses", unfollowed := true, recurses := true, plainKeys := false, apart := false, narrowed := true }
def CleanChoosesUptoSaid : Prop := cleanChoosesUptoRow.holds Try.pinned (OpenSpec.upto cleanChoosesSpec)

/-- 'aumbrylaw18.CleanAll', WHERE WHAT IT READS IS OF BULK AT MOST 1048576: true; the input reads as it did. -/
def cleanAllUptoRow : OpenClaim := { program := "ytjcojpddjhjhbaa", sum := "f7d8469780b2dfe29343a437901ed855b7592a2c9104521f6529b2ba7ee147f5", func := "aumbry/aumbrylaw18.CleanAll", spec := "cleanAll", unfollowed := true, recurses := true, plainKeys := false, apart := false, narrowed := true }
def CleanAllUptoSaid : Prop := cleanAllUptoRow.holds Try.pinned (OpenSpec.upto cleanAllSpec)

/-- 'aumbrylaw18.CleanFirst', WHERE WHAT IT READS IS OF BULK AT MOST 1048576: true; the input reads as it did. -/
def cleanFirstUptoRow : OpenClaim := { program := "ytjcojpddjhjhbaa", sum := "f7d8469780b2dfe29343a437901ed855b7592a2c9104521f6529b2ba7ee147f5", func := "aumbry/aumbrylaw18.CleanFirst", spec := "cleanFirst", unfollowed := true, recurses := true, plainKeys := false, apart := false, narrowed := true }
def CleanFirstUptoSaid : Prop := cleanFirstUptoRow.holds Try.pinned (OpenSpec.upto cleanFirstSpec)

/-- 'aumbrylaw18.CleanCopies', WHERE WHAT IT READS IS OF BULK AT MOST 1048576: true; the input reads as it did. -/
def cleanCopiesUptoRow : OpenClaim := { program := "ytjcojpddjhjhbaa", sum := "f7d8469780b2dfe29343a437901ed855b7592a2c9104521f6529b2ba7ee147f5", func := "aumbry/aumbrylaw18.CleanCopies", spec := "cleanCopies", unfollowed := true, recurses := true, plainKeys := false, apart := false, narrowed := true }
def CleanCopiesUptoSaid : Prop := cleanCopiesUptoRow.holds Try.pinned (OpenSpec.upto cleanCopiesSpec)

end Rows
end Go.Proofs.Ytjcojpddjhjhbaa
