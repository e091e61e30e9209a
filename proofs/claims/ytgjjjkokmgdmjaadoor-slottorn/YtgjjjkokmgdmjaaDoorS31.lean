/- SlotTorn: what came in; the walk. -/
import Derived.Test.YtgjjjkokmgdmjaaDoorS30
namespace Go.Proofs.YtgjjjkokmgdmjaaDoor
open Go.RowKit
/-- A slice of slices of bytes. -/
def Rws (w : World) (v : Value) (L : List (List Int)) : Prop := ∃ ao cap, v = .slice ao L.length cap ∧ (L = [] ∨ ∃ rb ro, ao = some ⟨rb, ro, none⟩ ∧ ∀ i, i < L.length → ∃ a n c, w.cell? ⟨rb, ro + i, none⟩ = some (.slice a n c) ∧ Oc.Bs w (.slice a n c) (L.getD i []) ∧ Dk.Byt (L.getD i []))
/-- A slice of crashes; the first one, if there is one. -/
def CrsV (w : World) (v : Value) (c : Dk.Cr) : Prop := ∃ ao n cap, v = .slice ao n cap ∧ (n = 0 ∨ (0 < n ∧ ∃ cb co ak nk ck, ao = some ⟨cb, co, none⟩ ∧ w.cell? ⟨cb, co, none⟩ = some (.slice ak nk ck) ∧ w.cell? ⟨cb, co + 1, none⟩ = some (.int .i64 c.torn) ∧ w.cell? ⟨cb, co + 2, none⟩ = some (.int .i64 c.at') ∧ Dk.Ks w (.slice ak nk ck) c.keep ∧ (0 < c.keep.length → ∀ z, (Value.slice ak nk ck).ownBlock = some z → z < w.heap.size)))
theorem u8_in2 {z : Int} (h : (Lit.int .u8 z).wf = true) : 0 ≤ z ∧ z < 256 := by
  have em : IntKind.max .u8 = 255 := by decide
  have en : IntKind.min .u8 = 0 := by decide
  simp only [Lit.wf, em, en, Bool.and_eq_true, decide_eq_true_eq] at h
  omega
theorem walk_slotTorn (v : Value) (L : List (List Int)) (u : Value) (last : List Int) (A : Int) (z : Value) (c : Dk.Cr) (w : World) (hV : Vars w) (hr : Rws w v L) (hl : Oc.Bs w u last ∧ Dk.Byt last) (hA : (Lit.int .u8 A).wf = true) (hc : CrsV w z c) :
    Calls Tryd.prog 3 #[v, u, .int .u8 A, z] w fun e w' => e = .returned (.bool true) ∧ Below w.heap.size w w' := by
  obtain ⟨h0, h1⟩ := u8_in2 hA
  obtain ⟨A, rfl⟩ := Int.eq_ofNat_of_zero_le h0
  obtain ⟨hl, hly⟩ := hl
  have hl' := hl
  obtain ⟨al, cl, rfl, _⟩ := hl'
  obtain ⟨ao, rcap, rfl, hr⟩ := hr
  obtain ⟨aoc, n, ccap, rfl, hc⟩ := hc
  rcases hr with hr | ⟨rb, ro, rfl, hrow⟩
  · rcases hc with hc | ⟨hc, cb, co, ak, nk, ck, rfl, x0, x1, x2, hks, hkb⟩
    · exact slotTorn_nn L _ rcap ao al last _ cl A (A % 4) n ccap aoc hV rfl hr hl hly rfl (by omega) rfl hc
    · exact slotTorn_nc L _ rcap ao al last _ cl A (A % 4) n ccap cb co ak nk ck c.keep c.torn c.at' hV rfl hr hl hly rfl (by omega) rfl hc x0 x1 x2 hks hkb
  · rcases hc with hc | ⟨hc, cb, co, ak, nk, ck, rfl, x0, x1, x2, hks, hkb⟩
    · exact slotTorn_rn L _ rcap rb ro al last _ cl A (A % 4) n ccap aoc hV rfl hrow hl hly rfl (by omega) rfl hc
    · exact slotTorn_rc L _ rcap rb ro al last _ cl A (A % 4) n ccap cb co ak nk ck c.keep c.torn c.at' hV rfl hrow hl hly rfl (by omega) rfl hc x0 x1 x2 hks hkb
end Go.Proofs.YtgjjjkokmgdmjaaDoor
