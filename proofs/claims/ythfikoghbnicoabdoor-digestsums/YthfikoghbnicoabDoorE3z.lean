/- Contract of the document's Sum. -/
import Derived.Test.YthfikoghbnicoabDoorE3p1
import Derived.Test.YthfikoghbnicoabDoorE3p2
import Derived.Test.YthfikoghbnicoabDoorE3p3
import Derived.Test.YthfikoghbnicoabDoorE3p4
import Derived.Test.YthfikoghbnicoabDoorE3p5
namespace Go.Proofs.YthfikoghbnicoabDoor
open Go.RowKit

theorem rsum_any (v : Value) (bs : List Int) (w : World) (hv : Bs w v bs) (hl : bs.length ≤ 140737488351232) (hby : ∀ x ∈ bs, 0 ≤ x ∧ x < 256) :
    Calls Tryd.prog 11 #[v] w fun e w' => e = .returned (.agg (arr .u8 32 (outB (shaS KL SL bs)))) ∧ Below w.heap.size w w' :=
  rskel.all ⟨rpart1⟩ ⟨rpart2⟩ ⟨rpart3⟩ ⟨rpart4⟩ ⟨rpart5⟩ v bs w hv hl hby

end Go.Proofs.YthfikoghbnicoabDoor
