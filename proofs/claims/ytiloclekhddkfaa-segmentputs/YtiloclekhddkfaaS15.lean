/- The champions of which live speaks. -/
import Derived.Test.YtiloclekhddkfaaS14
namespace Go.Proofs.Ytiloclekhddkfaa

def liveL : List (List Int) := [[1, 2], [2, 3], [3]]
theorem live_rchamp : RChamp 2 liveL [3, 2] := by
  have h1 : RTop liveL 3 := by unfold RTop liveL; decide
  have e1 : without 3 liveL = [[1, 2]] := by unfold liveL without; decide
  have h2 : RTop [[1, 2]] 2 := by unfold RTop; decide
  refine .one 1 liveL 3 [2] h1 ?_
  rw [e1]
  exact .one 0 _ 2 [] h2 (.zero _)
theorem live_champ {N : List (List Int)} {C : List Int} (hN : Onces liveL N) (hC : Champ (min (2 : Int) 8).toNat N C) : C = [3, 2] :=
  rchamp_one (champ_rchamp hC hN) live_rchamp
theorem live_small : Small liveL := by
  refine ⟨by decide, ?_, ?_⟩
  · intro i hi
    match i, hi with
    | 0, _ => decide
    | 1, _ => decide
    | 2, _ => decide
  · intro i hi
    match i, hi with
    | 0, _ => decide
    | 1, _ => decide
    | 2, _ => decide
end Go.Proofs.Ytiloclekhddkfaa
