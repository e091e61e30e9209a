/- How slices of bytes, and crashes, that came in are opened. -/
import Derived.Test.YtgjjjkokmgdmjaaDoorS31
import Derived.Test.YtgjjjkokmgdmjaaDoorFrame
import Derived.Deep.SlicePairs
import Derived.Deep.Strs
import Derived.Deep.Matrix
namespace Go.Proofs.YtgjjjkokmgdmjaaDoor
open Go.ChangeShapes Go.WideShapes Go.ChangeAt Go.RowKit Go.Deep
theorem f5 : Tryd.prog.cellsOf 5 = 1 := by kernel_rfl
theorem f4 : Tryd.prog.cellsOf 4 = 1 := by kernel_rfl
theorem f3 : Tryd.prog.cellsOf 3 = 1 := by kernel_rfl
theorem f35 : Tryd.prog.cellsOf 35 = 1 := by kernel_rfl
theorem f37 : Tryd.prog.cellsOf 37 = 3 := by kernel_rfl
theorem u35 : Tryd.prog.underlying 35 = some (.slice 4) := by kernel_rfl
def boolAt (w : World) (a : Addr) : Bool := match w.cell? a with | some (.bool z) => z | _ => false
theorem add_block (a : Addr) (i : Nat) : (a.add i).block = a.block := by unfold Addr.add; split <;> rfl
theorem boolAt_of {w : World} {a : Addr} {z : Bool} (h : w.cell? a = some (.bool z)) : boolAt w a = z := by simp [boolAt, h]
section
variable {H : Type} {enc : TypeId × Value → H} {W : World}
theorem inner_bools {fuel : Nat} {v : Value} {x : DataW H × List MemPlace} (h : DataW.trod enc Tryd.prog W 0 (fun _ => true) true fuel 35 [v] = some x) :
    ∃ ks, Dk.Ks W v ks ∧ (0 < ks.length → ∀ k, v.ownBlock = some k → k < W.heap.size) := by
  rcases Deep.open_slice1 u35 f4 h with ⟨hcs, _⟩ | ⟨a, len, cap, m, n, V, D, Pl, hcs, _, hl, hm, hmm, hx, hc⟩
  · simp at hcs
    subst hcs
    exact ⟨[], ⟨none, 0, rfl, fun j h => by simp at h⟩, fun h => by simp at h⟩
  · simp at hcs
    subst hcs
    simp only [if_true] at hmm
    subst hmm
    have each : ∀ i, i < m → ∃ z, W.cell? (a.add i) = some (.bool z) := fun i hi => by
      obtain ⟨h1, h2⟩ := hc i hi
      obtain ⟨z, e, _⟩ := DataW.trod_bool Tryd.underlying4 h2
      simp at e
      rw [e] at h1
      exact ⟨z, h1⟩
    refine ⟨(List.range len).map fun i => boolAt W (a.add i), ⟨some a, m, by simp, fun j hj => ?_⟩, fun h0 k hk => ?_⟩
    · have hjl : j < len := by simpa using hj
      obtain ⟨z, hz⟩ := each j (by omega)
      obtain ⟨z0, hz0⟩ := each 0 (by omega)
      have hs := World.cell?_spot hz0
      obtain ⟨b, o, spot⟩ := a
      have hs : spot = none := by simpa [Addr.add] using hs
      subst hs
      refine ⟨b, o, rfl, ?_⟩
      rw [← Oc.add_plain, hz]
      simp [List.getD_eq_getElem?_getD, hjl, boolAt_of hz]
    · have h0' : 0 < len := by simpa using h0
      obtain ⟨z, hz⟩ := each 0 (by omega)
      have := World.block_lt_of_cell? _ _ hz
      rw [add_block] at this
      simp [Value.ownBlock] at hk
      omega
theorem inner_crash {fuel : Nat} {v0 v1 v2 : Value} {x : DataW H × List MemPlace} (h : DataW.trod enc Tryd.prog W 0 (fun _ => true) true fuel 37 [v0, v1, v2] = some x) :
    ∃ ks torn at', Dk.Ks W v0 ks ∧ (0 < ks.length → ∀ k, v0.ownBlock = some k → k < W.heap.size) ∧ v1 = .int .i64 torn ∧ v2 = .int .i64 at' := by
  obtain ⟨y0, y1, y2, n, _, _, g0, g1, g2⟩ := Deep.trod_struct3 Tryd.underlying37 h
  simp [f3, f35] at g0 g1 g2
  obtain ⟨ks, h1, h2⟩ := inner_bools g0
  obtain ⟨t, e1, _, _⟩ := DataW.trod_int Tryd.underlying3 g1
  obtain ⟨a, e2, _, _⟩ := DataW.trod_int Tryd.underlying3 g2
  simp at e1 e2
  exact ⟨ks, t, a, h1, h2, e1, e2⟩
set_option maxRecDepth 100000 in
theorem open_crs {base : Nat} {v : Value} {d : DataW H} {p : List MemPlace} (hk : Value.okWide Tryd.prog W .any base 24 v) (h : DataW.Trod enc Tryd.prog W 0 (fun _ => true) true 24 v d p) : ∃ c, CrsV W v c := by
  obtain ⟨a, len, cap, rfl⟩ := okWide_slice Tryd.underlying24 hk
  obtain ⟨fuel, hf⟩ := h
  rcases Deep.open_slice Tryd.underlying24 hf with ⟨hcs, _⟩ | ⟨x, l, c, m, n, D, Pl, hcs, _, hl, hm, hmm, hxx, hx⟩
  · simp [Value.cells] at hcs
    obtain ⟨rfl, rfl, rfl⟩ := hcs
    exact ⟨⟨[], 0, 0⟩, none, 0, 0, rfl, .inl rfl⟩
  · simp [Value.cells] at hcs
    obtain ⟨rfl, rfl, rfl⟩ := hcs
    simp only [if_true] at hmm
    subst hmm
    by_cases h0 : len = 0
    · exact ⟨⟨[], 0, 0⟩, some x, len, _, rfl, .inl h0⟩
    obtain ⟨cs', h1, h2⟩ := hx 0 (by omega)
    rw [f37] at h1
    obtain ⟨_, hlen, hcell⟩ := World.cells?_some h1
    match cs', hlen with
    | [v0, v1, v2], _ =>
      obtain ⟨ks, torn, at', hks, hkb, rfl, rfl⟩ := inner_crash h2
      have d0 := hcell 0 (by omega)
      have d1 := hcell 1 (by omega)
      have d2 := hcell 2 (by omega)
      rw [Deep.add_add] at d0 d1 d2
      obtain ⟨b, off, spot⟩ := x
      have hs : spot = none := by simpa [Addr.add] using World.cell?_spot d0
      subst hs
      rw [Oc.add_plain] at d0 d1 d2
      have hks' := hks
      obtain ⟨ak, ck, rfl, _⟩ := hks'
      refine ⟨⟨ks, torn, at'⟩, some ⟨b, off, none⟩, len, _, rfl, .inr ⟨by omega, b, off, ak, _, ck, rfl, by simpa using d0, by simpa using d1, by simpa using d2, hks, hkb⟩⟩
set_option maxRecDepth 100000 in
theorem open_rws {base : Nat} {v : Value} {d : DataW H} {p : List MemPlace} (hk : Value.okWide Tryd.prog W .any base 22 v) (h : DataW.Trod enc Tryd.prog W 0 (fun _ => true) true 22 v d p) : ∃ L, Rws W v L := by
  obtain ⟨a, len, cap, rfl⟩ := okWide_slice Tryd.underlying22 hk
  obtain ⟨fuel, hf⟩ := h
  rcases open_int_rows Tryd.underlying22 Tryd.underlying23 Tryd.underlying5 (by kernel_rfl) (by kernel_rfl) hf with ⟨hcs, _⟩ | ⟨x, n, c, A, L, C, Z, hcs, _, hl, hmx, hx, hrow⟩
  · simp [Value.cells] at hcs
    obtain ⟨rfl, rfl, rfl⟩ := hcs
    exact ⟨[], none, 0, rfl, .inl rfl⟩
  · simp [Value.cells] at hcs
    obtain ⟨rfl, rfl, rfl⟩ := hcs
    by_cases h0 : len = 0
    · subst h0
      exact ⟨[], some x, cap, rfl, .inl rfl⟩
    have k0 := (hrow 0 (by omega)).1
    obtain ⟨b, off, spot⟩ := x
    have hs : spot = none := by simpa [Addr.add] using World.cell?_spot k0
    subst hs
    refine ⟨(List.range len).map fun r => (Z r).take (L r), some ⟨b, off, none⟩, cap, by simp, .inr ⟨b, off, rfl, fun i hi => ?_⟩⟩
    have hi' : i < len := by simpa using hi
    obtain ⟨k1, k2, k3, k4, k5, k6, k7⟩ := hrow i (by omega)
    rw [Oc.add_plain] at k1
    have e : ((List.range len).map fun r => (Z r).take (L r)).getD i [] = (Z i).take (L i) := by simp [hi']
    rw [e]
    have hlen : ((Z i).take (L i)).length = L i := by simp; omega
    refine ⟨A i, L i, C i, k1, ⟨A i, C i, by rw [hlen], by omega, k3, k6, fun y hy j hj => ?_⟩, fun y hy => ?_⟩
    · rw [(k7 y hy).2 j (by omega)]
      simp only [List.getD_eq_getElem?_getD, List.getElem?_take]
      rw [if_pos (by omega)]
    · exact u8_in2 (k5 y (List.mem_of_mem_take hy))
end
end Go.Proofs.YtgjjjkokmgdmjaaDoor
