/- How a note that came in is opened. -/
import Derived.Test.YthohpbppfihoiaaN6
import Derived.ProofKit
import Derived.OpenShut
import Derived.ChangeOld
import Derived.SizedLaws
import Derived.Deep.Slices
namespace Go.Proofs.Ythohpbppfihoiaa
open Go.ChangeShapes Go.WideShapes Go.ChangeAt Go.RowKit Oct

theorem Try.own : ownKnob Try.prog.godebug = none := by kernel_rfl
theorem c3f : Try.prog.cellsOf 3 = 1 := by kernel_rfl
theorem c5f : Try.prog.cellsOf 5 = 1 := by kernel_rfl
theorem c9f : Try.prog.cellsOf 9 = 1 := by kernel_rfl
theorem c22f : Try.prog.cellsOf 22 = 1 := by kernel_rfl
theorem c23f : Try.prog.cellsOf 23 = 1 := by kernel_rfl
theorem c24f : Try.prog.cellsOf 24 = 1 := by kernel_rfl
theorem c25f : Try.prog.cellsOf 25 = 1 := by kernel_rfl
theorem c27f : Try.prog.cellsOf 27 = 7 := by kernel_rfl
theorem c46f : Try.prog.cellsOf 46 = 2 := by kernel_rfl
theorem c47f : Try.prog.cellsOf 47 = 32 := by kernel_rfl
theorem c49f : Try.prog.cellsOf 49 = 33 := by kernel_rfl
theorem i64_in' {z : Int} (h : (Lit.int .i64 z).wf = true) : -9223372036854775808 ≤ z ∧ z ≤ 9223372036854775807 := by
  have em : IntKind.max .i64 = 9223372036854775807 := by decide
  have en : IntKind.min .i64 = -9223372036854775808 := by decide
  simp only [Lit.wf, em, en, Bool.and_eq_true, decide_eq_true_eq] at h
  omega
theorem u8_in' {z : Int} (h : (Lit.int .u8 z).wf = true) : 0 ≤ z ∧ z < 256 := by
  have em : IntKind.max .u8 = 255 := by decide
  have en : IntKind.min .u8 = 0 := by decide
  simp only [Lit.wf, em, en, Bool.and_eq_true, decide_eq_true_eq] at h
  omega
section
variable {H : Type} {enc : TypeId × Value → H} {W : World} {base : Nat} {v : Value} {d : DataW H} {p : List MemPlace}
theorem parts2 {P : Program} {w : World} {base : Nat} {spare : Nat → Bool} {held : Bool} {t : TypeId} {f0 f1 : Field} {fuel : Nat} {cs : List Value} {x : DataW H × List MemPlace} (ht : P.underlying t = some (.struct #[f0, f1])) (h : DataW.trod enc P w base spare held fuel t cs = some x) :
    ∃ y0 y1 n, DataW.trod enc P w base spare held n f0.type ((cs.drop f0.offset).take (P.cellsOf f0.type)) = some y0 ∧
      DataW.trod enc P w base spare held n f1.type ((cs.drop f1.offset).take (P.cellsOf f1.type)) = some y1 := by
  obtain ⟨xs, n, _, rfl, _, hlen, hf⟩ := DataW.trod_struct ht h
  match xs, hlen with
  | [y0, y1], _ => exact ⟨y0, y1, n, by simpa using hf 0 f0 rfl, by simpa using hf 1 f1 rfl⟩
theorem parts7 {P : Program} {w : World} {base : Nat} {spare : Nat → Bool} {held : Bool} {t : TypeId} {f0 f1 f2 f3 f4 f5 f6 : Field} {fuel : Nat} {cs : List Value} {x : DataW H × List MemPlace} (ht : P.underlying t = some (.struct #[f0, f1, f2, f3, f4, f5, f6])) (h : DataW.trod enc P w base spare held fuel t cs = some x) :
    ∃ y0 y1 y2 y3 y4 y5 y6 n, DataW.trod enc P w base spare held n f0.type ((cs.drop f0.offset).take (P.cellsOf f0.type)) = some y0 ∧
      DataW.trod enc P w base spare held n f1.type ((cs.drop f1.offset).take (P.cellsOf f1.type)) = some y1 ∧
      DataW.trod enc P w base spare held n f2.type ((cs.drop f2.offset).take (P.cellsOf f2.type)) = some y2 ∧
      DataW.trod enc P w base spare held n f3.type ((cs.drop f3.offset).take (P.cellsOf f3.type)) = some y3 ∧
      DataW.trod enc P w base spare held n f4.type ((cs.drop f4.offset).take (P.cellsOf f4.type)) = some y4 ∧
      DataW.trod enc P w base spare held n f5.type ((cs.drop f5.offset).take (P.cellsOf f5.type)) = some y5 ∧
      DataW.trod enc P w base spare held n f6.type ((cs.drop f6.offset).take (P.cellsOf f6.type)) = some y6 := by
  obtain ⟨xs, n, _, rfl, _, hlen, hf⟩ := DataW.trod_struct ht h
  match xs, hlen with
  | [y0, y1, y2, y3, y4, y5, y6], _ => exact ⟨y0, y1, y2, y3, y4, y5, y6, n, by simpa using hf 0 f0 rfl, by simpa using hf 1 f1 rfl, by simpa using hf 2 f2 rfl, by simpa using hf 3 f3 rfl, by simpa using hf 4 f4 rfl, by simpa using hf 5 f5 rfl, by simpa using hf 6 f6 rfl⟩
theorem open_sum {fuel : Nat} {cs : List Value} {x : DataW H × List MemPlace} (h : DataW.trod enc Try.prog W 0 (fun _ => true) true fuel 47 cs = some x) : ∃ s : List Int, cs = s.map (Value.int .u8) ∧ s.length = 32 ∧ ∀ z ∈ s, 0 ≤ z ∧ z < 256 := by
  obtain ⟨xs, m, _, _, hlen, hxl, hf⟩ := DataW.trod_array Try.underlying47 h
  rw [c47f] at hlen
  have each : ∀ i, i < 32 → ∃ z : Int, cs[i]? = some (.int .u8 z) ∧ 0 ≤ z ∧ z < 256 := fun i hi => by
    have h1 := hf i hi
    rw [c5f, Nat.mul_one, List.getElem?_eq_getElem (by omega)] at h1
    obtain ⟨z, e, _, hw⟩ := DataW.trod_int Try.underlying5 h1
    refine ⟨z, ?_, u8_in' hw⟩
    have h2 := congrArg (fun l => l[0]?) e
    simpa [List.getElem?_take, List.getElem?_drop] using h2
  obtain ⟨f, hfz⟩ := Deep.choose_lt (α := Int) (n := 32) (p := fun i z => cs[i]? = some (.int .u8 z) ∧ 0 ≤ z ∧ z < 256) each
  refine ⟨(List.range 32).map f, ?_, by simp, fun z hz => ?_⟩
  · apply List.ext_getElem?
    intro i
    by_cases hi : i < 32
    · rw [(hfz i hi).1]
      simp [hi]
    · rw [List.getElem?_eq_none (by omega), List.getElem?_eq_none (by simp; omega)]
  · simp at hz
    obtain ⟨i, hi, rfl⟩ := hz
    exact (hfz i hi).2
def HdOk (h : Hd) : Prop := h.1.size ≤ maxLen ∧ -9223372036854775808 ≤ h.2 ∧ h.2 ≤ 9223372036854775807
def PtOk (q : Pt) : Prop := q.1.length = 32 ∧ (∀ z ∈ q.1, 0 ≤ z ∧ z < 256) ∧ -9223372036854775808 ≤ q.2 ∧ q.2 ≤ 9223372036854775807
theorem open_held {fuel : Nat} {cs : List Value} {x : DataW H × List MemPlace} (hl : cs.length = 2) (h : DataW.trod enc Try.prog W 0 (fun _ => true) true fuel 46 cs = some x) : ∃ r : Hd, cs = he r ∧ HdOk r := by
  obtain ⟨y0, y1, n, h0, h1⟩ := parts2 Try.underlying46 h
  simp only [c9f, c3f] at h0 h1
  obtain ⟨V, e0, _, w0⟩ := DataW.trod_string Try.underlying9 h0
  obtain ⟨z1, e1, _, w1⟩ := DataW.trod_int Try.underlying3 h1
  refine ⟨(V, z1), ?_, w0, i64_in' w1⟩
  match cs, hl with
  | [a, b], _ =>
    simp at e0 e1
    rw [e0, e1]
    rfl
theorem open_part {fuel : Nat} {cs : List Value} {x : DataW H × List MemPlace} (hl : cs.length = 33) (h : DataW.trod enc Try.prog W 0 (fun _ => true) true fuel 49 cs = some x) : ∃ r : Pt, cs = pe r ∧ PtOk r := by
  obtain ⟨y0, y1, n, h0, h1⟩ := parts2 Try.underlying49 h
  simp only [c47f, c3f] at h0 h1
  obtain ⟨s, e0, hs, hb⟩ := open_sum h0
  obtain ⟨z1, e1, _, w1⟩ := DataW.trod_int Try.underlying3 h1
  refine ⟨(s, z1), ?_, hs, hb, i64_in' w1⟩
  simp at e0
  have g1 := congrArg (fun l => l[0]?) e1
  simp [List.getElem?_drop] at g1
  unfold pe
  rw [← e0]
  apply List.ext_getElem?
  intro i
  by_cases hi : i < 32
  · rw [List.getElem?_append_left (by simp; omega), List.getElem?_take, if_pos hi]
  · by_cases hi2 : i = 32
    · subst hi2
      rw [List.getElem?_append_right (by simp; omega), g1]
      simp [hl]
    · rw [List.getElem?_eq_none (by omega), List.getElem?_eq_none (by simp; omega)]
theorem open_row {α : Type} [Inhabited α] {t e : TypeId} {f : α → List Value} {k : Nat} {d0 : α} {Q : α → Prop} (ht : Try.prog.underlying t = some (.slice e)) (hc : Try.prog.cellsOf e = k) (hk : 0 < k)
    (ho : ∀ fuel cs x, cs.length = k → DataW.trod enc Try.prog W 0 (fun _ => true) true fuel e cs = some x → ∃ r, cs = f r ∧ Q r) (h1 : ∀ r, Q r → (f r).length = k ∧ ∀ u ∈ f r, u.oneCell' = true)
    {fuel : Nat} {x : DataW H × List MemPlace} (hf : DataW.trod enc Try.prog W 0 (fun _ => true) true fuel t [v] = some x) : ∃ a cap, ∃ L : List α, v = .slice a L.length cap ∧ RdE f k d0 W v L ∧ ∀ r ∈ L, Q r := by
  rcases Deep.open_slice ht hf with ⟨hcs, _⟩ | ⟨a', len, cap, m, n, D, Pl, hcs, _, hl, hm, hmm, hx, hcc⟩
  · simp only [List.cons.injEq, and_true] at hcs
    subst hcs
    exact ⟨none, 0, [], rfl, ⟨⟨none, 0, rfl, Nat.le_refl _, by decide, fun _ => rfl⟩, fun i hi => by simp at hi, by simp⟩, by simp⟩
  · simp only [List.cons.injEq, and_true] at hcs
    subst hcs
    simp only [if_true] at hmm
    subst hmm
    rw [hc] at hcc
    obtain ⟨g, hg⟩ := Deep.choose_lt (α := α) (n := len) (p := fun i r => (∀ j, j < k → W.cell? ((a'.add (i * k)).add j) = (f r)[j]?) ∧ Q r) (fun i hi => by
      obtain ⟨cs', e1, e2⟩ := hcc i (by omega)
      obtain ⟨_, hlen, hcell⟩ := World.cells?_some e1
      obtain ⟨r, e, hr⟩ := ho _ _ _ hlen e2
      subst e
      exact ⟨r, fun j hj => hcell j hj, hr⟩)
    have hgd : ∀ i, i < len → ((List.range len).map g).getD i d0 = g i := fun i hi => by simp [hi]
    have hQ : ∀ r ∈ (List.range len).map g, Q r := fun r hr => by
      simp at hr
      obtain ⟨i, hi, rfl⟩ := hr
      exact (hg i hi).2
    refine ⟨some a', m, (List.range len).map g, by simp, ⟨⟨some a', m, by simp, by simpa using hl, hm, by simp⟩, fun i hi => ?_, fun r hr => h1 r (hQ r hr)⟩, hQ⟩
    have hi' : i < len := by simpa using hi
    obtain ⟨b, off, spot⟩ := a'
    have k0 := (hg 0 (by omega)).1 0 hk
    have k1 := (h1 _ (hg 0 (by omega)).2).1
    rw [List.getElem?_eq_getElem (by omega)] at k0
    have hs : spot = none := by simpa [Addr.add] using World.cell?_spot k0
    subst hs
    refine ⟨b, off, m, by simp, fun j hj => ?_⟩
    rw [hgd i hi']
    have := (hg i hi').1 j hj
    rw [add_plain, add_plain] at this
    exact this
theorem open_by {fuel : Nat} {x : DataW H × List MemPlace} (h : DataW.trod enc Try.prog W 0 (fun _ => true) true fuel 25 [v] = some x) :
    ∃ a cap, ∃ bs : List Int, v = .slice a bs.length cap ∧ Bs W v bs ∧ ∀ z ∈ bs, 0 ≤ z ∧ z < 256 := by
  rcases open_ints Try.underlying25 Try.underlying5 c5f h with ⟨hcs, _⟩ | ⟨x, l, c, zs, hcs, _, hl, hm, hz, hx, hcell, hwz⟩
  · simp only [List.cons.injEq, and_true] at hcs
    subst hcs
    exact ⟨none, 0, [], rfl, Bs.nil W, by simp⟩
  · simp only [List.cons.injEq, and_true] at hcs
    subst hcs
    simp only [if_true] at hz
    have hlen : (zs.take l).length = l := by simp; omega
    refine ⟨some x, c, zs.take l, by rw [hlen], ⟨some x, c, by rw [hlen], by omega, hm, by simp, fun y hy i hi => ?_⟩, fun n hn => u8_in' (hwz n (List.mem_of_mem_take hn))⟩
    cases hy
    rw [hcell i (by omega)]
    simp only [List.getD_eq_getElem?_getD, List.getElem?_take]
    rw [if_pos (by omega)]
/-- A note, as a value. -/
structure Nt where
  s : Int
  nm : ByteArray
  g : Int
  i : Int
  H : List Hd
  P : List Pt
  bs : List Int
/-- A note that came in. -/
structure NoteV (w : World) (v : Value) (n : Nt) : Prop where
  ex : ∃ ha hc pa pc ba bc, v = .agg (na n.s n.nm n.g n.i (.slice ha n.H.length hc) (.slice pa n.P.length pc) (.slice ba n.bs.length bc)) ∧ RdE he 2 h0 w (.slice ha n.H.length hc) n.H ∧
    RdE pe 33 p0 w (.slice pa n.P.length pc) n.P ∧ Bs w (.slice ba n.bs.length bc) n.bs
  hd : ∀ h ∈ n.H, HdOk h
  pt : ∀ p ∈ n.P, PtOk p
  by' : ∀ z ∈ n.bs, 0 ≤ z ∧ z < 256
  si : -9223372036854775808 ≤ n.s ∧ n.s ≤ 9223372036854775807
  gi : -9223372036854775808 ≤ n.g ∧ n.g ≤ 9223372036854775807
  ii : -9223372036854775808 ≤ n.i ∧ n.i ≤ 9223372036854775807
  nl : n.nm.size ≤ maxLen
theorem he_ok (r : Hd) : (he r).length = 2 ∧ ∀ u ∈ he r, u.oneCell' = true := by simp [he, Value.oneCell']
theorem pe_ok (r : Pt) (h : PtOk r) : (pe r).length = 33 ∧ ∀ u ∈ pe r, u.oneCell' = true := by
  refine ⟨by simp [pe, h.1], fun u hu => ?_⟩
  unfold pe at hu
  simp only [List.mem_append, List.mem_map, List.mem_singleton] at hu
  rcases hu with ⟨z, _, rfl⟩ | rfl <;> rfl
theorem open_note (hk : Value.okWide Try.prog W .any base 27 v) (h : DataW.Trod enc Try.prog W 0 (fun _ => true) true 27 v d p) : ∃ n, NoteV W v n := by
  obtain ⟨cs, rfl, hsz⟩ := okWide_struct Try.underlying27 hk
  obtain ⟨fuel, hf⟩ := h
  obtain ⟨y0, y1, y2, y3, y4, y5, y6, n, k0, k1, k2, k3, k4, k5, k6⟩ := parts7 Try.underlying27 hf
  rw [c27f] at hsz
  obtain ⟨ls⟩ := cs
  match ls, hsz with
  | [v0, v1, v2, v3, v4, v5, v6], _ =>
    simp [Value.cells, c3f, c9f, c22f, c23f, c24f, c25f] at k0 k1 k2 k3 k4 k5 k6
    obtain ⟨s, e0, _, w0⟩ := DataW.trod_int Try.underlying22 k0
    obtain ⟨nm, e1, _, w1⟩ := DataW.trod_string Try.underlying9 k1
    obtain ⟨g, e2, _, w2⟩ := DataW.trod_int Try.underlying3 k2
    obtain ⟨i, e3, _, w3⟩ := DataW.trod_int Try.underlying3 k3
    obtain ⟨ha, hc, L, e4, r4, q4⟩ := open_row (d0 := h0) Try.underlying23 c46f (by decide) (fun _ _ _ a b => open_held a b) (fun r _ => he_ok r) k4
    obtain ⟨pa, pc, M, e5, r5, q5⟩ := open_row (d0 := p0) Try.underlying24 c49f (by decide) (fun _ _ _ a b => open_part a b) pe_ok k5
    obtain ⟨ba, bc, bs, e6, r6, q6⟩ := open_by k6
    simp only [List.cons.injEq, and_true] at e0 e1 e2 e3
    subst e0 e1 e2 e3 e4 e5 e6
    exact ⟨⟨s, nm, g, i, L, M, bs⟩, ⟨ha, hc, pa, pc, ba, bc, rfl, r4, r5, r6⟩, q4, q5, q6, i64_in' w0, i64_in' w2, i64_in' w3, w1⟩
end
end Go.Proofs.Ythohpbppfihoiaa
