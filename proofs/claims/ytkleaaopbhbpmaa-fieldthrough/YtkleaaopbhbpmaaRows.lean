/-
  No cell of these rows narrows 'for every input' (looked for: loops, veiled, ifaces, maps, wideKeys, modest, calm, conditions, laid).
  DERIVED. THE GIVEN ROWS OF THIS SEAT. 6 by the template 'for every input the law returns true; each argument reads behind the call as it read before'; 0 by the template 'total and deterministic' (their statements: YtkleaaopbhbpmaaTotals.lean).
  GIVEN WITH THE SEED: the statements are not yours to turn. If you find one false, say at which input.
  Laid BY PROGRAM, IN A SANDBOX (cutbox-rows.mjs): the forced cells as the released guide's own fill.sh prints them over the translation 0e463feb76cf53f5… (all of the seat's roots in one cut). By AI agents, Wed Nov 11 2026. No macro, syntax, notation, axiom, sorry.
-/
import Derived.Test.YtkleaaopbhbpmaaChecked
import GoSem.Claim
import GoSem.ClaimJoined
import GoSem.ClaimMapViews
import Derived.JoinedTies
import Derived.KernelRfl
namespace Go.Proofs.Ytkleaaopbhbpmaa
/- THE CELL 'sum', in the pinned program and in every row, IS THE sha256 OF THE DUMP (.gsa) THAT YtkleaaopbhbpmaaProg.lean LOADS. Nothing in Lean hashes anything: it is a label: what it is worth is what the hold of that sum in a sandbox is worth. -/
noncomputable def Try.pinned : Pinned := { name := "ytkleaaopbhbpmaa", sum := "0e463feb76cf53f5f45ec4de33095f458c92cac06180c58b0027b69db3e9d7f0", checked := Try.checked }
namespace Rows
def none {H : Type} : Left H := { results := [], args := [] }

/-- 'aumbrylaw22.FieldMuls': WHATEVER THE INPUT: true; the input reads as it did. -/
def fieldMulsSpec : ChangeSpec := { name := "fieldMuls", fn := fun _ => fun
  | [d1, d2] => { results := [.lit (.bool true)], args := [d1, d2] }
  | _ => none }
def fieldMulsRow : OpenClaim := { program := "ytkleaaopbhbpmaa", sum := "0e463feb76cf53f5f45ec4de33095f458c92cac06180c58b0027b69db3e9d7f0", func := "aumbry/aumbrylaw22.FieldMuls", spec := "fieldMuls", unfollowed := true, recurses := true, apart := false }
def FieldMulsSaid : Prop := fieldMulsRow.holds Try.pinned (OpenSpec.ofChange fieldMulsSpec)

/-- ITS FALSE NEIGHBOUR: 'it returns false'. Refute it at one input. -/
def fieldMulsWrong : ChangeSpec := { name := "fieldMuls", fn := fun _ => fun
  | [d1, d2] => { results := [.lit (.bool false)], args := [d1, d2] }
  | _ => none }
def FieldMulsWrongFalsely : Prop := fieldMulsRow.holds Try.pinned (OpenSpec.ofChange fieldMulsWrong)

/-- 'aumbrylaw22.FieldLaws': WHATEVER THE INPUT: true; the input reads as it did. -/
def fieldLawsSpec : ChangeSpec := { name := "fieldLaws", fn := fun _ => fun
  | [d1, d2, d3] => { results := [.lit (.bool true)], args := [d1, d2, d3] }
  | _ => none }
def fieldLawsRow : OpenClaim := { program := "ytkleaaopbhbpmaa", sum := "0e463feb76cf53f5f45ec4de33095f458c92cac06180c58b0027b69db3e9d7f0", func := "aumbry/aumbrylaw22.FieldLaws", spec := "fieldLaws", unfollowed := true, recurses := true, apart := false }
def FieldLawsSaid : Prop := fieldLawsRow.holds Try.pinned (OpenSpec.ofChange fieldLawsSpec)

/-- ITS FALSE NEIGHBOUR: 'it returns false'. Refute it at one input. -/
def fieldLawsWrong : ChangeSpec := { name := "fieldLaws", fn := fun _ => fun
  | [d1, d2, d3] => { results := [.lit (.bool false)], args := [d1, d2, d3] }
  | _ => none }
def FieldLawsWrongFalsely : Prop := fieldLawsRow.holds Try.pinned (OpenSpec.ofChange fieldLawsWrong)

/-- 'aumbrylaw22.FieldPowers': WHATEVER THE INPUT: true; the input reads as it did. -/
def fieldPowersSpec : ChangeSpec := { name := "fieldPowers", fn := fun _ => fun
  | [d1, d2, d3, d4] => { results := [.lit (.bool true)], args := [d1, d2, d3, d4] }
  | _ => none }
def fieldPowersRow : OpenClaim := { program := "ytkleaaopbhbpmaa", sum := "0e463feb76cf53f5f45ec4de33095f458c92cac06180c58b0027b69db3e9d7f0", func := "aumbry/aumbrylaw22.FieldPowers", spec := "fieldPowers", unfollowed := true, recurses := true, apart := false }
def FieldPowersSaid : Prop := fieldPowersRow.holds Try.pinned (OpenSpec.ofChange fieldPowersSpec)

/-- ITS FALSE NEIGHBOUR: 'it returns false'. Refute it at one input. -/
def fieldPowersWrong : ChangeSpec := { name := "fieldPowers", fn := fun _ => fun
  | [d1, d2, d3, d4] => { results := [.lit (.bool false)], args := [d1, d2, d3, d4] }
  | _ => none }
def FieldPowersWrongFalsely : Prop := fieldPowersRow.holds Try.pinned (OpenSpec.ofChange fieldPowersWrong)

/-- 'aumbrylaw22.FieldEvals': WHATEVER THE INPUT: true; the input reads as it did. -/
def fieldEvalsSpec : ChangeSpec := { name := "fieldEvals", fn := fun _ => fun
  | [d1, d2, d3] => { results := [.lit (.bool true)], args := [d1, d2, d3] }
  | _ => none }
def fieldEvalsRow : OpenClaim := { program := "ytkleaaopbhbpmaa", sum := "0e463feb76cf53f5f45ec4de33095f458c92cac06180c58b0027b69db3e9d7f0", func := "aumbry/aumbrylaw22.FieldEvals", spec := "fieldEvals", unfollowed := true, recurses := true, apart := false }
def FieldEvalsSaid : Prop := fieldEvalsRow.holds Try.pinned (OpenSpec.ofChange fieldEvalsSpec)

/-- ITS FALSE NEIGHBOUR: 'it returns false'. Refute it at one input. -/
def fieldEvalsWrong : ChangeSpec := { name := "fieldEvals", fn := fun _ => fun
  | [d1, d2, d3] => { results := [.lit (.bool false)], args := [d1, d2, d3] }
  | _ => none }
def FieldEvalsWrongFalsely : Prop := fieldEvalsRow.holds Try.pinned (OpenSpec.ofChange fieldEvalsWrong)

/-- 'aumbrylaw22.FieldWeights': WHATEVER THE INPUT: true; the input reads as it did. -/
def fieldWeightsSpec : ChangeSpec := { name := "fieldWeights", fn := fun _ => fun
  | [d1, d2] => { results := [.lit (.bool true)], args := [d1, d2] }
  | _ => none }
def fieldWeightsRow : OpenClaim := { program := "ytkleaaopbhbpmaa", sum := "0e463feb76cf53f5f45ec4de33095f458c92cac06180c58b0027b69db3e9d7f0", func := "aumbry/aumbrylaw22.FieldWeights", spec := "fieldWeights", unfollowed := true, recurses := true, apart := false }
def FieldWeightsSaid : Prop := fieldWeightsRow.holds Try.pinned (OpenSpec.ofChange fieldWeightsSpec)

/-- ITS FALSE NEIGHBOUR: 'it returns false'. Refute it at one input. -/
def fieldWeightsWrong : ChangeSpec := { name := "fieldWeights", fn := fun _ => fun
  | [d1, d2] => { results := [.lit (.bool false)], args := [d1, d2] }
  | _ => none }
def FieldWeightsWrongFalsely : Prop := fieldWeightsRow.holds Try.pinned (OpenSpec.ofChange fieldWeightsWrong)

/-- 'aumbrylaw22.FieldThrough': WHATEVER THE INPUT: true; the input reads as it did. -/
def fieldThroughSpec : ChangeSpec := { name := "fieldThrough", fn := fun _ => fun
  | [d1, d2, d3] => { results := [.lit (.bool true)], args := [d1, d2, d3] }
  | _ => none }
def fieldThroughRow : OpenClaim := { program := "ytkleaaopbhbpmaa", sum := "0e463feb76cf53f5f45ec4de33095f458c92cac06180c58b0027b69db3e9d7f0", func := "aumbry/aumbrylaw22.FieldThrough", spec := "fieldThrough", unfollowed := true, recurses := true, apart := false }
def FieldThroughSaid : Prop := fieldThroughRow.holds Try.pinned (OpenSpec.ofChange fieldThroughSpec)

/-- ITS FALSE NEIGHBOUR: 'it returns false'. Refute it at one input. -/
def fieldThroughWrong : ChangeSpec := { name := "fieldThrough", fn := fun _ => fun
  | [d1, d2, d3] => { results := [.lit (.bool false)], args := [d1, d2, d3] }
  | _ => none }
def FieldThroughWrongFalsely : Prop := fieldThroughRow.holds Try.pinned (OpenSpec.ofChange fieldThroughWrong)

/- THE SECOND FORM. 'bulk': how many values and letters a reading holds, each counted each time it is reached (what is shared counts as often as it is met; a slice's spare places count too). A statement '..UptoSaid' is the law's where the arguments, and the package variables that the reading takes, are together of bulk at most 1048576: NARROWER than '..Said'. Prove '..Said' where nothing that the law and all that it calls make is longer than what came in: it says more and counts as full. Else prove '..UptoSaid'. A law counts once. -/
mutual
def uptoBulk {H : Type} : DataW H → Nat
  | .lit (.string bytes) => bytes.length + 1
  | .lit _ => 1
  | .nil => 1
  | .ptr d => uptoBulk d + 1
  | .slice elems spare => uptoBulkAll elems + uptoBulkAll spare + 1
  | .agg parts => uptoBulkAll parts + 1
  | .iface _ d => uptoBulk d + 1
  | .map entries => uptoBulkEntries entries + 1
  | .held _ => 1
def uptoBulkAll {H : Type} : List (DataW H) → Nat
  | [] => 0
  | d :: r => uptoBulk d + uptoBulkAll r
def uptoBulkEntries {H : Type} : List (Lit × DataW H) → Nat
  | [] => 0
  | x :: r => uptoBulkEntry x + uptoBulkEntries r
def uptoBulkEntry {H : Type} : Lit × DataW H → Nat
  | (.string bytes, d) => bytes.length + uptoBulk d + 1
  | (_, d) => uptoBulk d + 1
 end
def uptoSmall : (H : Type) → List (DataW H) → Bool := fun _ ds => decide (uptoBulkAll ds ≤ 1048576)
def OpenSpec.upto (s : _root_.Go.ChangeSpec) : _root_.Go.OpenSpec := { _root_.Go.OpenSpec.ofChange s with cond := some uptoSmall }

/-- 'aumbrylaw22.FieldMuls', WHERE WHAT IT READS IS OF BULK AT MOST 1048576: true; the input reads as it did. -/
def fieldMulsUptoRow : OpenClaim := { program := "ytkleaaopbhbpmaa", sum := "0e463feb76cf53f5f45ec4de33095f458c92cac06180c58b0027b69db3e9d7f0", func := "aumbry/aumbrylaw22.FieldMuls", spec := "fieldMuls", unfollowed := true, recurses := true, apart := false, narrowed := true }
def FieldMulsUptoSaid : Prop := fieldMulsUptoRow.holds Try.pinned (OpenSpec.upto fieldMulsSpec)

/-- 'aumbrylaw22.FieldLaws', WHERE WHAT IT READS IS OF BULK AT MOST 1048576: true; the input reads as it did. -/
def fieldLawsUptoRow : OpenClaim := { program := "ytkleaaopbhbpmaa", sum := "0e463feb76cf53f5f45ec4de33095f458c92cac06180c58b0027b69db3e9d7f0", func := "aumbry/aumbrylaw22.FieldLaws", spec := "fieldLaws", unfollowed := true, recurses := true, apart := false, narrowed := true }
def FieldLawsUptoSaid : Prop := fieldLawsUptoRow.holds Try.pinned (OpenSpec.upto fieldLawsSpec)

/-- 'aumbrylaw22.FieldPowers', WHERE WHAT IT READS IS OF BULK AT MOST 1048576: true; the input reads as it did. -/
def fieldPowersUptoRow : OpenClaim := { program := "ytkleaaopbhbpmaa", sum := "0e463feb76cf53f5f45ec4de33095f458c92cac06180c58b0027b69db3e9d7f0", func := "aumbry/aumbrylaw22.FieldPowers", spec := "fieldPowers", unfollowed := true, recurses := true, apart := false, narrowed := true }
def FieldPowersUptoSaid : Prop := fieldPowersUptoRow.holds Try.pinned (OpenSpec.upto fieldPowersSpec)

/-- 'aumbrylaw22.FieldEvals', WHERE WHAT IT READS IS OF BULK AT MOST 1048576: true; the input reads as it did. -/
def fieldEvalsUptoRow : OpenClaim := { program := "ytkleaaopbhbpmaa", sum := "0e463feb76cf53f5f45ec4de33095f458c92cac06180c58b0027b69db3e9d7f0", func := "aumbry/aumbrylaw22.FieldEvals", spec := "fieldEvals", unfollowed := true, recurses := true, apart := false, narrowed := true }
def FieldEvalsUptoSaid : Prop := fieldEvalsUptoRow.holds Try.pinned (OpenSpec.upto fieldEvalsSpec)

/-- 'aumbrylaw22.FieldWeights', WHERE WHAT IT READS IS OF BULK AT MOST 1048576: true; the input reads as it did. -/
def fieldWeightsUptoRow : OpenClaim := { program := "ytkleaaopbhbpmaa", sum := "0e463feb76cf53f5f45ec4de33095f458c92cac06180c58b0027b69db3e9d7f0", func := "aumbry/aumbrylaw22.FieldWeights", spec := "fieldWeights", unfollowed := true, recurses := true, apart := false, narrowed := true }
def FieldWeightsUptoSaid : Prop := fieldWeightsUptoRow.holds Try.pinned (OpenSpec.upto fieldWeightsSpec)

/-- 'aumbrylaw22.FieldThrough', WHERE WHAT IT READS IS OF BULK AT MOST 1048576: true; the input reads as it did. -/
def fieldThroughUptoRow : OpenClaim := { program := "ytkleaaopbhbpmaa", sum := "0e463feb76cf53f5f45ec4de33095f458c92cac06180c58b0027b69db3e9d7f0", func := "aumbry/aumbrylaw22.FieldThrough", spec := "fieldThrough", unfollowed := true, recurses := true, apart := false, narrowed := true }
def FieldThroughUptoSaid : Prop := fieldThroughUptoRow.holds Try.pinned (OpenSpec.upto fieldThroughSpec)

end Rows
end Go.Proofs.Ytkleaaopbhbpmaa
