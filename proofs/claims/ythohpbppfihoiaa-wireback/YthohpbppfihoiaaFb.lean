/- How a slice of bytes that came in is opened, and how long it can be. -/
import Derived.Test.YthohpbppfihoiaaOctN
import Derived.Test.YthohpbppfihoiaaFr
import Derived.ProofKit
import Derived.OpenShut
import Derived.ChangeOld
import Derived.SizedLaws
namespace Go.Proofs.Ythohpbppfihoiaa
open Go.ChangeShapes Go.WideShapes Go.ChangeAt Go.RowKit Oct

theorem Try.laidOut : laidOutB Try.prog = true := by kernel_rfl
/-- The datum is a slice of bs. -/
def IsBytes {H : Type} (d : DataW H) (bs : List Int) : Prop := (d = .nil ∧ bs = []) ∨ ∃ spare, d = .slice (lits .u8 bs) spare

theorem open_bytes {H : Type} {enc : TypeId × Value → H} {P : Program} {t e : TypeId} (B : ByteT P t e) (hc : P.cellsOf e = 1) {W : World} {base : Nat} {v : Value} {d : DataW H} {p : List MemPlace}
    (hk : Value.okWide P W .any base t v) (h : DataW.Trod enc P W 0 (fun _ => true) true t v d p) :
    ∃ bs, Bs W v bs ∧ (∀ x ∈ bs, 0 ≤ x ∧ x < 256) ∧ IsBytes d bs := by
  obtain ⟨a, len, cap, rfl⟩ := okWide_slice B.ht hk
  obtain ⟨fuel, hf⟩ := h
  rcases open_ints B.ht B.he hc hf with ⟨hcs, hx⟩ | ⟨x, l, c, zs, hcs, _, hl, hm, hz, hx, hcell, hwz⟩
  · simp [Value.cells] at hcs
    obtain ⟨rfl, rfl, rfl⟩ := hcs
    simp only [Prod.mk.injEq] at hx
    exact ⟨[], Bs.nil W, by simp, .inl ⟨hx.1, rfl⟩⟩
  · simp [Value.cells] at hcs
    obtain ⟨rfl, rfl, rfl⟩ := hcs
    simp only [if_true] at hz
    have hlen : (zs.take len).length = len := by simp; omega
    simp only [Prod.mk.injEq] at hx
    refine ⟨zs.take len, ⟨some x, cap, by rw [hlen], by omega, hm, by simp, fun y hy i hi => ?_⟩, fun n hn => ?_, .inr ⟨_, hx.1⟩⟩
    · cases hy
      rw [hcell i (by omega)]
      simp only [List.getD_eq_getElem?_getD, List.getElem?_take]
      rw [if_pos (by omega)]
    · have := bounds_u8 (hwz n (List.mem_of_mem_take hn))
      omega

theorem len_of_sized {H : Type} {P : Program} {ts : List TypeId} {ds : List (DataW H)} {t e : TypeId} (B : ByteT P t e) (hby : P.bytesOf e = 1) (h : (DataW.weightsEach P ts ds).all (· ≤ reachBytes) = true) {j : Nat} {d : DataW H} {bs : List Int}
    (ht : ts[j]? = some t) (hd : ds[j]? = some d) (hb : IsBytes d bs) : bs.length ≤ 140737488351232 := by
  rcases hb with ⟨_, rfl⟩ | ⟨spare, rfl⟩
  · simp
  · have := sized_slice h ht hd B.ht
    rw [hby] at this
    simp only [lits, List.length_map, reachBytes] at this
    omega
end Go.Proofs.Ythohpbppfihoiaa
