/- What the listed variables give; how a slice of bytes that came in is opened, and how long it can be; a world for a witness. -/
import Derived.Test.YthfikoghbnicoabDoorD14
import Derived.Test.YthfikoghbnicoabDoorCards
import Derived.Test.YthfikoghbnicoabDoorTie
import Derived.ProofKit
import Derived.OpenShut
import Derived.ChangeOld
import Derived.SizedLaws
import Derived.JoinedCond
import Derived.Deep.DeepHandedRow
import Derived.Lib.LaidTab
namespace Go.Proofs.YthfikoghbnicoabDoor
open Go.ChangeShapes Go.WideShapes Go.ChangeAt Go.RowKit

theorem Tryd.own : ownKnob Tryd.prog.godebug = none := by kernel_rfl
theorem Tryd.laidOut : laidOutB Tryd.prog = true := by kernel_rfl
theorem gNib : Tryd.prog.globalNamed "aumbry/digest.crcNibbles" = some 1 := by kernel_rfl
theorem gStart : Tryd.prog.globalNamed "aumbry/digest.start" = some 0 := by kernel_rfl
theorem gKeys : Tryd.prog.globalNamed "aumbry/digest.roundKeys" = some 2 := by kernel_rfl
theorem tNib : (Tryd.prog.globals[1]?).map (·.type) = some 55 := by kernel_rfl
theorem tStart : (Tryd.prog.globals[0]?).map (·.type) = some 49 := by kernel_rfl
theorem tKeys : (Tryd.prog.globals[2]?).map (·.type) = some 57 := by kernel_rfl
theorem cells35 : Tryd.prog.cellsOf 35 = 1 := by kernel_rfl
theorem cells55 : Tryd.prog.cellsOf 55 = 16 := by kernel_rfl
theorem cells49 : Tryd.prog.cellsOf 49 = 8 := by kernel_rfl
theorem cells57 : Tryd.prog.cellsOf 57 = 64 := by kernel_rfl

/-- The list of the rows. -/
def laidD : List (String × DataW Unit) := [("aumbry/digest.crcNibbles", Rows.laid_aumbry_digest_crcNibbles), ("aumbry/digest.start", Rows.laid_aumbry_digest_start), ("aumbry/digest.roundKeys", Rows.laid_aumbry_digest_roundKeys)]
def nibL : List Int := [0, 274646895, 549293790, 820201905, 1098587580, 1361435347, 1640403810, 1905808397, 2197175160, 2460548119, 2722870694, 2987750089, 3280807620, 3553878443, 3811616794, 4084100981]
theorem vars_of_laid {W : World} (h : laidMetH Tryd.prog laidD W) : Vars W := by
  have h' : laidMet Tryd.prog laidD W := h
  obtain ⟨ps, ⟨g0, t0, cs0, f0, p0, q0, hg0, ht0, hv0, hd0, ⟨g1, t1, cs1, f1, p1, q1, hg1, ht1, hv1, hd1, ⟨g2, t2, cs2, f2, p2, q2, hg2, ht2, hv2, hd2, _, _⟩, _⟩, _⟩, _⟩ := h'
  obtain rfl := Option.some.inj (gNib.symm.trans hg0)
  obtain rfl := Option.some.inj (gStart.symm.trans hg1)
  obtain rfl := Option.some.inj (gKeys.symm.trans hg2)
  obtain rfl := Option.some.inj (tNib.symm.trans ht0)
  obtain rfl := Option.some.inj (tStart.symm.trans ht1)
  obtain rfl := Option.some.inj (tKeys.symm.trans ht2)
  have e0 := Lib.cells_of_tab (zs := nibL) Tryd.underlying55 Tryd.underlying35 cells35 cells55 hd0
  have e1 := Lib.cells_of_tab (zs := startL) Tryd.underlying49 Tryd.underlying35 cells35 cells49 hd1
  have e2 := Lib.cells_of_tab (zs := keysL) Tryd.underlying57 Tryd.underlying35 cells35 cells57 hd2
  have T0 : Lib.TabIs Tryd.prog W "aumbry/digest.crcNibbles" .u32 nibL := by unfold Lib.TabIs; rw [hv0, ← e0]
  have T1 : Lib.TabIs Tryd.prog W "aumbry/digest.start" .u32 startL := by unfold Lib.TabIs; rw [hv1, ← e1]
  have T2 : Lib.TabIs Tryd.prog W "aumbry/digest.roundKeys" .u32 keysL := by unfold Lib.TabIs; rw [hv2, ← e2]
  refine ⟨fun k hk => T2.cell gKeys k hk, fun k hk => T1.cell gStart k hk, fun k hk => ?_⟩
  have hn : ∀ k : Fin 16, nibL.getD k.val 0 = ((nibT k.val : Nat) : Int) := by decide
  rw [T0.cell gNib k hk, hn ⟨k, hk⟩]

/-- The datum is a slice of bs. -/
def IsBytes {H : Type} (d : DataW H) (bs : List Int) : Prop := (d = .nil ∧ bs = []) ∨ ∃ spare, d = .slice (lits .u8 bs) spare

theorem open_bytes {H : Type} {enc : TypeId × Value → H} {P : Program} {t e : TypeId} (B : ByteT P t e) (hc : P.cellsOf e = 1) {W : World} {base : Nat} {v : Value} {d : DataW H} {p : List MemPlace}
    (hk : Value.okWide P W .any base t v) (h : DataW.Trod enc P W 0 (fun _ => true) true t v d p) :
    ∃ bs, Bs W v bs ∧ (∀ x ∈ bs, 0 ≤ x ∧ x < 256) ∧ IsBytes d bs := by
  obtain ⟨a, len, cap, rfl⟩ := okWide_slice B.ht hk
  obtain ⟨fuel, hf⟩ := h
  rcases open_ints B.ht B.he hc hf with ⟨hcs, hx⟩ | ⟨x, l, c, zs, hcs, _, hl, hm, hz, hx, hcell, hwz⟩
  · simp [Value.cells] at hcs
    obtain ⟨rfl, rfl, rfl⟩ := hcs
    simp only [Prod.mk.injEq] at hx
    exact ⟨[], Bs.nil W, by simp, .inl ⟨hx.1, rfl⟩⟩
  · simp [Value.cells] at hcs
    obtain ⟨rfl, rfl, rfl⟩ := hcs
    simp only [if_true] at hz
    have hlen : (zs.take len).length = len := by simp; omega
    simp only [Prod.mk.injEq] at hx
    refine ⟨zs.take len, ⟨some x, cap, by rw [hlen], by omega, hm, by simp, fun y hy i hi => ?_⟩, fun n hn => ?_, .inr ⟨_, hx.1⟩⟩
    · cases hy
      rw [hcell i (by omega)]
      simp only [List.getD_eq_getElem?_getD, List.getElem?_take]
      rw [if_pos (by omega)]
    · have := bounds_u8 (hwz n (List.mem_of_mem_take hn))
      omega

theorem len_of_sized {H : Type} {P : Program} {ts : List TypeId} {ds : List (DataW H)} {t e : TypeId} (B : ByteT P t e) (hby : P.bytesOf e = 1) (h : (DataW.weightsEach P ts ds).all (· ≤ reachBytes) = true) {j : Nat} {d : DataW H} {bs : List Int}
    (ht : ts[j]? = some t) (hd : ds[j]? = some d) (hb : IsBytes d bs) : bs.length ≤ 140737488351232 := by
  rcases hb with ⟨_, rfl⟩ | ⟨spare, rfl⟩
  · simp
  · have := sized_slice h ht hd B.ht
    rw [hby] at this
    simp only [lits, List.length_map, reachBytes] at this
    omega

theorem bulk_pos {H : Type} (d : DataW H) : 0 < Rows.uptoBulk d := by
  rcases d with ⟨l⟩ | _ | _ | _ | _ | _ | _ | _
  · cases l <;> simp [Rows.uptoBulk]
  all_goals simp [Rows.uptoBulk]

theorem bulk_mem {H : Type} {d : DataW H} : ∀ {l : List (DataW H)}, d ∈ l → Rows.uptoBulk d ≤ Rows.uptoBulkAll l
  | x :: r, h => by
    rw [Rows.uptoBulkAll]
    rcases List.mem_cons.1 h with e | e
    · rw [e]; omega
    · have := bulk_mem e; omega

theorem bulk_len {H : Type} : ∀ l : List (DataW H), l.length ≤ Rows.uptoBulkAll l
  | [] => by simp
  | x :: r => by have h1 := bulk_pos x; have h2 := bulk_len r; rw [Rows.uptoBulkAll, List.length_cons]; omega

/-- A slice of bytes among arguments of small bulk is short. -/
theorem bulk_bytes {H : Type} {l : List (DataW H)} {d : DataW H} {bs : List Int} (hk : Rows.uptoSmall H l = true) (hm : d ∈ l) (hd : IsBytes d bs) : bs.length ≤ 1048576 := by
  have h1 : Rows.uptoBulkAll l ≤ 1048576 := of_decide_eq_true hk
  have h2 := bulk_mem hm
  rcases hd with ⟨_, rfl⟩ | ⟨spare, rfl⟩
  · simp
  · rw [Rows.uptoBulk] at h2
    have h3 := bulk_len (lits (H := H) .u8 bs)
    simp only [lits, List.length_map] at h3 h2
    omega

/-- The cells of a block put anew. -/
def putCells (cs : Array Value) : Obj → Obj
  | .cells _ t frozen => .cells cs t frozen
  | o => o
/-- A world for the witness: the settled one, the variables holding what is laid. -/
noncomputable def laidWorld (os : Os) : World :=
  { World.holding Tryd.prog os ⟨#[], #[], []⟩ with heap := (((World.holding Tryd.prog os ⟨#[], #[], []⟩).heap.modify 0 (putCells #[.int .u32 1779033703, .int .u32 3144134277, .int .u32 1013904242, .int .u32 2773480762, .int .u32 1359893119, .int .u32 2600822924, .int .u32 528734635, .int .u32 1541459225])).modify 1 (putCells #[.int .u32 0, .int .u32 274646895, .int .u32 549293790, .int .u32 820201905, .int .u32 1098587580, .int .u32 1361435347, .int .u32 1640403810, .int .u32 1905808397, .int .u32 2197175160, .int .u32 2460548119, .int .u32 2722870694, .int .u32 2987750089, .int .u32 3280807620, .int .u32 3553878443, .int .u32 3811616794, .int .u32 4084100981])).modify 2 (putCells #[.int .u32 1116352408, .int .u32 1899447441, .int .u32 3049323471, .int .u32 3921009573, .int .u32 961987163, .int .u32 1508970993, .int .u32 2453635748, .int .u32 2870763221, .int .u32 3624381080, .int .u32 310598401, .int .u32 607225278, .int .u32 1426881987, .int .u32 1925078388, .int .u32 2162078206, .int .u32 2614888103, .int .u32 3248222580, .int .u32 3835390401, .int .u32 4022224774, .int .u32 264347078, .int .u32 604807628, .int .u32 770255983, .int .u32 1249150122, .int .u32 1555081692, .int .u32 1996064986, .int .u32 2554220882, .int .u32 2821834349, .int .u32 2952996808, .int .u32 3210313671, .int .u32 3336571891, .int .u32 3584528711, .int .u32 113926993, .int .u32 338241895, .int .u32 666307205, .int .u32 773529912, .int .u32 1294757372, .int .u32 1396182291, .int .u32 1695183700, .int .u32 1986661051, .int .u32 2177026350, .int .u32 2456956037, .int .u32 2730485921, .int .u32 2820302411, .int .u32 3259730800, .int .u32 3345764771, .int .u32 3516065817, .int .u32 3600352804, .int .u32 4094571909, .int .u32 275423344, .int .u32 430227734, .int .u32 506948616, .int .u32 659060556, .int .u32 883997877, .int .u32 958139571, .int .u32 1322822218, .int .u32 1537002063, .int .u32 1747873779, .int .u32 1955562222, .int .u32 2024104815, .int .u32 2227730452, .int .u32 2361852424, .int .u32 2428436474, .int .u32 2756734187, .int .u32 3204031479, .int .u32 3329325298]) }
theorem laid_met (os : Os) (args : Array Value) : laidMetH Tryd.prog laidD ((laidWorld os).forCall (fun _ _ => 0) ⟨#[], args, []⟩).memory :=
  laidMet_of_run' 8 (by kernel_rfl) (by kernel_rfl)
end Go.Proofs.YthfikoghbnicoabDoor
