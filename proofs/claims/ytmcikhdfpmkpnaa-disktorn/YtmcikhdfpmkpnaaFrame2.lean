/- How a slice of deeds that came in is opened. -/
import Derived.Test.YtmcikhdfpmkpnaaFrame
import Derived.Test.YtmcikhdfpmkpnaaA4
import Derived.Deep.SlicePairs
import Derived.Deep.Strs
namespace Go.Proofs.Ytmcikhdfpmkpnaa
open Go.ChangeShapes Go.WideShapes Go.ChangeAt Go.RowKit

section
variable {H : Type} {enc : TypeId × Value → H} {W : World}
theorem weightsAll_at {P : Program} {e : TypeId} : ∀ {l : List (DataW H)} {d : DataW H}, d ∈ l → ∀ n ∈ d.weights P e, n ∈ DataW.weightsAll P e l
  | d' :: r, d, hd, n, hn => by
    simp only [DataW.weightsAll, List.mem_append]
    rcases List.mem_cons.1 hd with rfl | h
    · exact Or.inl hn
    · exact Or.inr (weightsAll_at h n hn)
theorem parts4 {P : Program} {w : World} {base : Nat} {spare : Nat → Bool} {held : Bool} {t : TypeId} {f0 f1 f2 f3 : Field} {fuel : Nat} {cs : List Value} {x : DataW H × List MemPlace} (ht : P.underlying t = some (.struct #[f0, f1, f2, f3])) (h : DataW.trod enc P w base spare held fuel t cs = some x) :
    ∃ y0 y1 y2 y3 n, x.1 = .agg [y0.1, y1.1, y2.1, y3.1] ∧ DataW.trod enc P w base spare held n f0.type ((cs.drop f0.offset).take (P.cellsOf f0.type)) = some y0 ∧
      DataW.trod enc P w base spare held n f1.type ((cs.drop f1.offset).take (P.cellsOf f1.type)) = some y1 ∧ DataW.trod enc P w base spare held n f2.type ((cs.drop f2.offset).take (P.cellsOf f2.type)) = some y2 ∧
      DataW.trod enc P w base spare held n f3.type ((cs.drop f3.offset).take (P.cellsOf f3.type)) = some y3 := by
  obtain ⟨xs, n, _, rfl, _, hlen, hf⟩ := DataW.trod_struct ht h
  match xs, hlen with
  | [y0, y1, y2, y3], _ => exact ⟨y0, y1, y2, y3, n, rfl, by simpa using hf 0 f0 rfl, by simpa using hf 1 f1 rfl, by simpa using hf 2 f2 rfl, by simpa using hf 3 f3 rfl⟩
theorem c5 : Try.prog.cellsOf 5 = 1 := by kernel_rfl
theorem c4 : Try.prog.cellsOf 4 = 1 := by kernel_rfl
theorem c3 : Try.prog.cellsOf 3 = 1 := by kernel_rfl
theorem c37 : Try.prog.cellsOf 37 = 1 := by kernel_rfl
theorem c38 : Try.prog.cellsOf 38 = 1 := by kernel_rfl
theorem c40 : Try.prog.cellsOf 40 = 3 := by kernel_rfl
theorem c42 : Try.prog.cellsOf 42 = 6 := by kernel_rfl
theorem b5 : Try.prog.bytesOf 5 = 1 := by kernel_rfl
theorem u38 : Try.prog.underlying 38 = some (.slice 4) := by kernel_rfl
def byteAt (w : World) (a : Addr) : Int := match w.cell? a with | some (.int _ z) => z | _ => 0
theorem byteAt_of {w : World} {a : Addr} {k : IntKind} {z : Int} (h : w.cell? a = some (.int k z)) : byteAt w a = z := by simp [byteAt, h]
def boolAt (w : World) (a : Addr) : Bool := match w.cell? a with | some (.bool z) => z | _ => false
theorem boolAt_of {w : World} {a : Addr} {z : Bool} (h : w.cell? a = some (.bool z)) : boolAt w a = z := by simp [boolAt, h]
theorem i64_le {z : Int} (h : (Lit.int .i64 z).wf = true) : z ≤ 9223372036854775807 := by
  have em : IntKind.max .i64 = 9223372036854775807 := by decide
  simp only [Lit.wf, em, Bool.and_eq_true, decide_eq_true_eq] at h
  omega
theorem u8_in' {z : Int} (h : (Lit.int .u8 z).wf = true) : 0 ≤ z ∧ z < 256 := by
  have em : IntKind.max .u8 = 255 := by decide
  have en : IntKind.min .u8 = 0 := by decide
  simp only [Lit.wf, em, en, Bool.and_eq_true, decide_eq_true_eq] at h
  omega

theorem inner_bytes {fuel : Nat} {v : Value} {x : DataW H × List MemPlace} (h : DataW.trod enc Try.prog W 0 (fun _ => true) true fuel 37 [v] = some x) :
    ∃ bs, Bs W v bs ∧ (0 < bs.length → ∀ k, v.ownBlock = some k → k < W.heap.size) ∧ (bs = [] ∨ ∃ e s, x.1 = .slice e s ∧ e.length = bs.length) := by
  rcases Deep.open_slice1 Try.underlying37 c5 h with ⟨hcs, _⟩ | ⟨a, len, cap, m, n, V, D, Pl, hcs, _, hl, hm, hmm, hx, hc⟩
  · simp at hcs
    subst hcs
    exact ⟨[], ⟨none, 0, rfl, Nat.le_refl _, by decide, fun _ => rfl, fun x h => (nomatch h), fun x h => (nomatch h)⟩, fun h => (nomatch h), .inl rfl⟩
  · simp at hcs
    subst hcs
    simp only [if_true] at hmm
    subst hmm
    have each : ∀ i, i < m → ∃ z, W.cell? (a.add i) = some (.int .u8 z) ∧ 0 ≤ z ∧ z < 256 := fun i hi => by
      obtain ⟨h1, h2⟩ := hc i hi
      obtain ⟨z, e, _, hw⟩ := DataW.trod_int Try.underlying5 h2
      simp at e
      rw [e] at h1
      exact ⟨z, h1, u8_in' hw⟩
    refine ⟨(List.range len).map fun i => byteAt W (a.add i), ⟨some a, m, by simp, by simpa using hl, hm, fun h => (nomatch h), fun x hxa i hi => ?_, fun x hxx => ?_⟩, fun h0 k hk => ?_, .inr ⟨_, _, by rw [hx], by simp⟩⟩
    · cases hxa
      have hil : i < len := by simpa using hi
      obtain ⟨z, hz, _⟩ := each i (by omega)
      rw [hz]
      simp [List.getD_eq_getElem?_getD, hil, byteAt_of hz]
    · simp at hxx
      obtain ⟨i, hi, rfl⟩ := hxx
      obtain ⟨z, hz, h0⟩ := each i (by omega)
      rw [byteAt_of hz]
      exact h0
    · have h0' : 0 < len := by simpa using h0
      obtain ⟨z, hz, _⟩ := each 0 (by omega)
      have := World.block_lt_of_cell? _ _ hz
      rw [add_block] at this
      simp [Value.ownBlock] at hk
      omega
theorem inner_bools {fuel : Nat} {v : Value} {x : DataW H × List MemPlace} (h : DataW.trod enc Try.prog W 0 (fun _ => true) true fuel 38 [v] = some x) :
    ∃ ks, Ks W v ks ∧ (0 < ks.length → ∀ k, v.ownBlock = some k → k < W.heap.size) := by
  rcases Deep.open_slice1 u38 c4 h with ⟨hcs, _⟩ | ⟨a, len, cap, m, n, V, D, Pl, hcs, _, hl, hm, hmm, hx, hc⟩
  · simp at hcs
    subst hcs
    exact ⟨[], ⟨none, 0, rfl, fun j h => by simp at h⟩, fun h => by simp at h⟩
  · simp at hcs
    subst hcs
    simp only [if_true] at hmm
    subst hmm
    have each : ∀ i, i < m → ∃ z, W.cell? (a.add i) = some (.bool z) := fun i hi => by
      obtain ⟨h1, h2⟩ := hc i hi
      obtain ⟨z, e, _⟩ := DataW.trod_bool Try.underlying4 h2
      simp at e
      rw [e] at h1
      exact ⟨z, h1⟩
    refine ⟨(List.range len).map fun i => boolAt W (a.add i), ⟨some a, m, by simp, fun j hj => ?_⟩, fun h0 k hk => ?_⟩
    · have hjl : j < len := by simpa using hj
      obtain ⟨z, hz⟩ := each j (by omega)
      obtain ⟨z0, hz0⟩ := each 0 (by omega)
      have hs := World.cell?_spot hz0
      obtain ⟨b, o, spot⟩ := a
      have hs : spot = none := by simpa [Addr.add] using hs
      subst hs
      refine ⟨b, o, rfl, ?_⟩
      rw [← add_plain, hz]
      simp [List.getD_eq_getElem?_getD, hjl, boolAt_of hz]
    · have h0' : 0 < len := by simpa using h0
      obtain ⟨z, hz⟩ := each 0 (by omega)
      have := World.block_lt_of_cell? _ _ hz
      rw [add_block] at this
      simp [Value.ownBlock] at hk
      omega
/-- A crash, by value. -/
theorem inner_crash {fuel : Nat} {v0 v1 v2 : Value} {x : DataW H × List MemPlace} (h : DataW.trod enc Try.prog W 0 (fun _ => true) true fuel 40 [v0, v1, v2] = some x) :
    ∃ ks torn at', Ks W v0 ks ∧ (0 < ks.length → ∀ k, v0.ownBlock = some k → k < W.heap.size) ∧ v1 = .int .i64 torn ∧ v2 = .int .i64 at' := by
  obtain ⟨y0, y1, y2, n, _, _, g0, g1, g2⟩ := Deep.trod_struct3 Try.underlying40 h
  simp [c3, c38] at g0 g1 g2
  obtain ⟨ks, h1, h2⟩ := inner_bools g0
  obtain ⟨t, e1, _, _⟩ := DataW.trod_int Try.underlying3 g1
  obtain ⟨a, e2, _, _⟩ := DataW.trod_int Try.underlying3 g2
  simp at e1 e2
  exact ⟨ks, t, a, h1, h2, e1, e2⟩
/-- A deed, by value. -/
theorem inner_deed {fuel : Nat} {v0 v1 v2 v3 v4 v5 : Value} {x : DataW H × List MemPlace} (h : DataW.trod enc Try.prog W 0 (fun _ => true) true fuel 42 [v0, v1, v2, v3, v4, v5] = some x) :
    ∃ d : Dd, v0 = .int .i64 d.Do ∧ v1 = .int .i64 d.N ∧ v4 = .int .i64 d.torn ∧ v5 = .int .i64 d.at' ∧ Bs W v2 d.b ∧ Ks W v3 d.ks ∧ (0 < d.b.length → ∀ k, v2.ownBlock = some k → k < W.heap.size) ∧ (0 < d.ks.length → ∀ k, v3.ownBlock = some k → k < W.heap.size) ∧ d.N ≤ 9223372036854775807 ∧ (d.b = [] ∨ ∃ y0 y1 y3 e s, x.1 = .agg [y0, y1, .slice e s, y3] ∧ e.length = d.b.length) := by
  obtain ⟨y0, y1, y2, y3, n, hx, g0, g1, g2, g3⟩ := parts4 Try.underlying42 h
  simp [c3, c37, c40] at g0 g1 g2 g3
  obtain ⟨z0, e0, _, _⟩ := DataW.trod_int Try.underlying3 g0
  obtain ⟨z1, e1, _, w1⟩ := DataW.trod_int Try.underlying3 g1
  obtain ⟨bs, hb, hf, hd⟩ := inner_bytes g2
  obtain ⟨ks, t, a, hk, hg, e4, e5⟩ := inner_crash g3
  simp at e0 e1
  refine ⟨⟨z0, z1, bs, ks, t, a⟩, e0, e1, e4, e5, hb, hk, hf, hg, i64_le w1, ?_⟩
  rcases hd with rfl | ⟨e, s, h1, h2⟩
  · exact .inl rfl
  · exact .inr ⟨y0.1, y1.1, y3.1, e, s, by rw [hx, h1], h2⟩
theorem sized_deed {ts : List TypeId} {ds : List (DataW H)} (h : (DataW.weightsEach Try.prog ts ds).all (· ≤ reachBytes) = true) {j : Nat} {elems spare : List (DataW H)} (ht : ts[j]? = some 31) (hd : ds[j]? = some (.slice elems spare)) {y0 y1 y3 : DataW H} {e s : List (DataW H)} (hx : DataW.agg [y0, y1, .slice e s, y3] ∈ elems) : e.length ≤ 140737488355328 := by
  have := of_decide_eq_true (List.all_eq_true.1 h ((e.length + s.length) * Try.prog.bytesOf 5) (DataW.weights_mem_each ht hd _ (by
    simp only [DataW.weights, Try.underlying31, List.mem_cons, List.mem_append]
    refine Or.inr (Or.inl (weightsAll_at hx _ ?_))
    simp only [DataW.weights, Try.underlying42]
    simp [DataW.weightsEach, DataW.weights, Try.underlying37])))
  rw [b5] at this
  simp only [reachBytes] at this
  omega

set_option maxRecDepth 100000 in
theorem open_deeds {ts : List TypeId} {ds : List (DataW H)} (hsz : (DataW.weightsEach Try.prog ts ds).all (· ≤ reachBytes) = true) {j : Nat} {base : Nat} {v : Value} {d : DataW H} {p : List MemPlace} (ht : ts[j]? = some 31) (hd : ds[j]? = some d)
    (hk : Value.okWide Try.prog W .any base 31 v) (h : DataW.Trod enc Try.prog W 0 (fun _ => true) true 31 v d p) : ∃ l, Deeds W v l := by
  obtain ⟨a, len, cap, rfl⟩ := okWide_slice Try.underlying31 hk
  obtain ⟨fuel, hf⟩ := h
  rcases Deep.open_slice Try.underlying31 hf with ⟨hcs, _⟩ | ⟨x, l, c, m, n, D, Pl, hcs, _, hl, hm, hmm, hxx, hx⟩
  · simp [Value.cells] at hcs
    obtain ⟨rfl, rfl, rfl⟩ := hcs
    exact ⟨[], none, 0, rfl, fun j h => by simp at h⟩
  · simp [Value.cells] at hcs
    obtain ⟨rfl, rfl, rfl⟩ := hcs
    simp only [if_true] at hmm
    subst hmm
    simp only [Prod.mk.injEq] at hxx
    have each : ∀ i, i < len → ∃ q : Dd, ∃ bv kv, W.cell? (x.add (i * 6)) = some (.int .i64 q.Do) ∧ W.cell? (x.add (i * 6 + 1)) = some (.int .i64 q.N) ∧ W.cell? (x.add (i * 6 + 2)) = some bv ∧ W.cell? (x.add (i * 6 + 3)) = some kv ∧ W.cell? (x.add (i * 6 + 4)) = some (.int .i64 q.torn) ∧ W.cell? (x.add (i * 6 + 5)) = some (.int .i64 q.at') ∧ DdV W W.heap.size bv kv q := by
      intro i hi
      obtain ⟨cs', h1, h2⟩ := hx i (by omega)
      rw [c42] at h1
      obtain ⟨_, hlen, hcell⟩ := World.cells?_some h1
      match cs', hlen with
      | [v0, v1, v2, v3, v4, v5], _ =>
        obtain ⟨q, rfl, rfl, rfl, rfl, hb, hks, hf1, hf2, hN, hsz1⟩ := inner_deed h2
        have d0 := hcell 0 (by omega)
        have d1 := hcell 1 (by omega)
        have d2 := hcell 2 (by omega)
        have d3 := hcell 3 (by omega)
        have d4 := hcell 4 (by omega)
        have d5 := hcell 5 (by omega)
        rw [Deep.add_add] at d0 d1 d2 d3 d4 d5
        refine ⟨q, v2, v3, by simpa using d0, by simpa using d1, by simpa using d2, by simpa using d3, by simpa using d4, by simpa using d5, hb, hks, hf1, hf2, hN, ?_⟩
        rcases hsz1 with e | ⟨y0, y1, y3, e, s, h3, h4⟩
        · rw [e]; simp
        · rw [← h4]
          rw [hxx.1] at hd
          exact sized_deed hsz ht hd (by rw [← h3]; simp; exact ⟨i, hi, rfl⟩)
    by_cases h0 : len = 0
    · subst h0
      exact ⟨[], some x, _, rfl, fun j h => by simp at h⟩
    obtain ⟨b, off, spot⟩ := x
    have hs : spot = none := by
      obtain ⟨_, _, _, e, _⟩ := each 0 (by omega)
      simpa [Addr.add] using World.cell?_spot e
    subst hs
    refine ⟨(List.range len).map fun i => if hi : i < len then Classical.choose (each i hi) else default, some ⟨b, off, none⟩, m, by simp, fun j hj => ?_⟩
    have hjl : j < len := by simpa using hj
    have hsp := Classical.choose_spec (each j hjl)
    have eg : ((List.range len).map fun i => if hi : i < len then Classical.choose (each i hi) else default).getD j default = Classical.choose (each j hjl) := by simp [List.getD_eq_getElem?_getD, hjl]
    rw [eg]
    clear eg hj
    generalize Classical.choose (each j hjl) = q at hsp ⊢
    obtain ⟨bv, kv, e0, e1, e2, e3, e4, e5, hv⟩ := hsp
    rw [add_plain] at e0 e1 e2 e3 e4 e5
    rw [← Nat.add_assoc] at e1 e2 e3 e4 e5
    exact ⟨b, off, bv, kv, rfl, by simpa using World.block_lt_of_cell? W _ e0, e0, e1, e2, e3, e4, e5, hv⟩
end
end Go.Proofs.Ytmcikhdfpmkpnaa
