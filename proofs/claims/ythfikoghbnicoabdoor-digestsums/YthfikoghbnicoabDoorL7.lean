/- The walks of DigestSums, DigestForks and DigestPieces, at what came in. -/
import Derived.Test.YthfikoghbnicoabDoorE3z
import Derived.Test.YthfikoghbnicoabDoorL6
import Derived.Test.YthfikoghbnicoabDoorL6a
namespace Go.Proofs.YthfikoghbnicoabDoor
open Go.RowKit

theorem ref_at (w : World) : RefAt w := fun w1 x l _ hx hy hl => rsum_any x l w1 hx hl hy

theorem walk_digestSums (v : Value) (bs : List Int) (w : World) (hV : Vars w) (hv : Bs w v bs) (hby : ∀ x ∈ bs, 0 ≤ x ∧ x < 256) (hl : bs.length ≤ 140737488351232) :
    Calls Tryd.prog 3 #[v] w fun e w' => e = .returned (.bool true) ∧ Below w.heap.size w w' :=
  sums_core v (outB (shaS KL SL bs)) w (live_any w hV) (fun w1 hb => dsum_any v bs KL SL w1 (hv.below hb) (hV.below hb).keys (hV.below hb).start hby (by omega)) (fun w1 hb => rsum_any v bs w1 (hv.below hb) hl hby)

theorem walk_digestForks (u : Value) (a : List Int) (v : Value) (b : List Int) (z : Value) (c : List Int) (w : World) (hV : Vars w) (hu : Bs w u a) (ha : ∀ x ∈ a, 0 ≤ x ∧ x < 256) (la : a.length ≤ 1048576)
    (hv : Bs w v b) (hb : ∀ x ∈ b, 0 ≤ x ∧ x < 256) (lb : b.length ≤ 1048576) (hz : Bs w z c) (hc : ∀ x ∈ c, 0 ≤ x ∧ x < 256) (lc : c.length ≤ 1048576) :
    Calls Tryd.prog 8 #[u, v, z] w fun e w' => e = .returned (.bool true) ∧ Below w.heap.size w w' :=
  forks_core u v z a b c w hV hu hv hz ha hb hc la lb lc (ref_at w)

theorem walk_digestPieces (v : Value) (ls : List (List Int)) (w : World) (hV : Vars w) (h : Bss w v ls ∧ (∀ t ∈ ls, ∀ x ∈ t, 0 ≤ x ∧ x < 256) ∧ ls.flatten.length ≤ 1048576) :
    Calls Tryd.prog 4 #[v] w fun e w' => e = .returned (.bool true) ∧ Below w.heap.size w w' := by
  obtain ⟨⟨a, cap, rfl, hl, hm, hn, vs, hc⟩, hby, hlen⟩ := h
  by_cases h0 : 0 < ls.length
  · cases a with
    | none => have := hn rfl; omega
    | some x =>
      obtain ⟨b, off, spot⟩ := x
      have hs : spot = none := by simpa [Addr.add] using World.cell?_spot (hc _ rfl 0 h0).1
      subst hs
      exact pieces_core (some ⟨b, off, none⟩) b off cap ls.length ls vs w hV rfl hl hm (fun _ => rfl) (fun i hi => by rw [← add_plain]; exact (hc _ rfl i hi).1) (fun i hi => (hc _ rfl i hi).2) hby hlen (ref_at w)
  · exact pieces_core a 0 0 cap ls.length ls vs w hV rfl hl hm (fun h => absurd h h0) (fun i hi => absurd hi (by omega)) (fun i hi => absurd hi (by omega)) hby hlen (ref_at w)
end Go.Proofs.YthfikoghbnicoabDoor
