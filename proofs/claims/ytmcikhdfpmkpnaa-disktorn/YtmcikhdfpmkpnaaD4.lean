/- What a store leaves of a disk; package disk's Write$1. -/
import Derived.Test.YtmcikhdfpmkpnaaD3
import Derived.Deep.RegionHeld3
import Derived.Handy
namespace Go.Proofs.Ytmcikhdfpmkpnaa
open Go.RowKit Go.Maps Go.Sort Go.Shelf

theorem wf_i {i : Nat} (h : i < 5000) : (Lit.int .i64 (i : Int)).wf = true := by
  have e1 : IntKind.max .i64 = 9223372036854775807 := by decide
  have e2 : IntKind.min .i64 = -9223372036854775808 := by decide
  simp only [Lit.wf, e1, e2, Bool.and_eq_true, decide_eq_true_eq]
  omega
section
variable {w w' : World} {p g bm base cap : Nat} {tc : Int} {n : Nat} {D : DataW Value} {d : Dk}
theorem AtX.turn (h : AtX w p g bm base cap tc n D d) (ht : w.mapTurned w' bm) {n' : Nat} {D' : DataW Value} (hm : w'.ownsMap Try.prog 3 self bm n' D') {S' : List Sec} (hd : Dirt D' S') (hl : S'.map (·.1) = d.S.map (·.1)) (hok : ∀ s ∈ S', OkS s) :
    AtX w' p g bm base cap tc n' D' { d with S := S' } := by
  have hc := Chg.ofMap ht
  have hlen : S'.length = d.S.length := by have := congrArg List.length hl; simpa using this
  obtain ⟨n1, n2, n3⟩ := h.ne
  obtain ⟨l1, l2, l3⟩ := h.lt
  refine ⟨?_, ?_, hm, hd, hok, ?_, h.trip, h.rng, h.bp⟩
  · show w'.heap[p]? = _
    rw [hc.block p l1 (by simp [n2]), hlen]; exact h.row
  · show Rows w' g cap 68 (S'.map (·.1))
    rw [hl]; exact h.rows.kept (hc.block g l2 (by simp [n3]))
  · show S'.length ≤ 4096
    rw [hlen]; exact h.len
theorem AtX.put (h : AtX w p g bm base cap tc n D d) {i : Nat} (hi : i < d.S.length) {l : List Int} (hl : Pg l) :
    ∃ w', (Instr.mapUpdate 61 (.map (some bm)) (.int .i64 (i : Int)) (pv l)).run Try.prog w = .ok () w' ∧ Chg [bm] w w' ∧ ∃ n' D', AtX w' p g bm base cap tc n' D' { d with S := d.S.set i ((sec d.S i).1, some l) } := by
  have hlen := h.len
  have hsz := h.size
  have hdl := dl_le d.S
  obtain ⟨w', h1, h2, h3⟩ := (own_size h.map).store (int_keyed Try.underlying3) Try.underlying61 (by unfold maxLen; omega) (key := .int .i64 (i : Int)) (kl := key i) (d := .held (pv l)) (ps := []) (keyOf_int_mk Try.underlying3 (wf_i (by omega))) rfl
  refine ⟨w', h1, Chg.ofMap h3, _, _, h.turn h3 h2 (h.drt.put hi _ l) ?_ (ok_set h.ok ⟨(ok_sec h.ok i).1, fun m hm => by simp at hm; subst hm; exact hl⟩)⟩
  apply List.ext_getElem?
  intro j
  rw [List.getElem?_map, List.getElem?_map, List.getElem?_set]
  by_cases e : i = j
  · subst e; simp [hi, sec, List.getD]
  · simp [e]
theorem AtX.delete (h : AtX w p g bm base cap tc n D d) {i : Nat} (hi : i < d.S.length) (ty : TypeId) :
    ∃ w', (Builtin.delete_ #[61, 3] ty #[.map (some bm), .int .i64 (i : Int)]).run Try.prog w = .ok (.tuple #[]) w' ∧ Chg [bm] w w' ∧ ∃ n' D', AtX w' p g bm base cap tc n' D' { d with S := d.S.set i ((sec d.S i).1, none) } := by
  have hlen := h.len
  obtain ⟨w', h1, h2, h3⟩ := h.map.drop (int_keyed Try.underlying3) Try.underlying61 (key := .int .i64 (i : Int)) (kl := key i) (keyOf_int_mk Try.underlying3 (wf_i (by omega))) ty
  refine ⟨w', h1, Chg.ofMap h3, _, _, h.turn h3 h2 (h.drt.del hi _) ?_ (ok_set h.ok ⟨(ok_sec h.ok i).1, fun m hm => by simp at hm⟩)⟩
  apply List.ext_getElem?
  intro j
  rw [List.getElem?_map, List.getElem?_map, List.getElem?_set]
  by_cases e : i = j
  · subst e; simp [hi, sec, List.getD]
  · simp [e]
theorem AtX.look (h : AtX w p g bm base cap tc n D d) {i : Nat} (hi : i < d.S.length) :
    (Instr.lookup 61 (.map (some bm)) (.int .i64 (i : Int)) true).run Try.prog w = .ok (.tuple #[pv ((sec d.S i).2.getD zp), .bool (dirt d.S i)]) w ∧ (Instr.lookup 61 (.map (some bm)) (.int .i64 (i : Int)) false).run Try.prog w = .ok (pv ((sec d.S i).2.getD zp)) w := by
  have hlen := h.len
  have hz : (zeroValue 68).run Try.prog w = .ok (pv zp) w := by
    show _ = Result.ok (Value.agg (pa zp)) w
    rw [← zc68]; exact Try.zeroValue68 w
  have hk : keyOf Try.prog 3 (.int .i64 (i : Int)) = some (key i) := keyOf_int_mk Try.underlying3 (wf_i (by omega))
  obtain ⟨v, ps, h1, h2⟩ := h.map.look_ok (int_keyed Try.underlying3) Try.underlying61 hz (zd := .held (pv zp)) (zp := []) rfl hk
  obtain ⟨v', ps', h1', h2'⟩ := h.map.lookup (int_keyed Try.underlying3) Try.underlying61 hz (zd := .held (pv zp)) (zp := []) rfl hk
  have e : D.atKey (key i) (.held (pv zp)) = .held (pv ((sec d.S i).2.getD zp)) := by
    cases hs : (sec d.S i).2 with
    | none => rw [h.drt.none hi (by unfold dirt; rw [hs]; rfl)]; rfl
    | some l => exact h.drt.val i l hi hs _
  rw [e] at h2 h2'
  simp only [self, Option.some.injEq, Prod.mk.injEq, DataW.held.injEq] at h2 h2'
  rw [h2.1, h.drt.hasN hi] at h1
  rw [h2'.1] at h1'
  exact ⟨h1, h1'⟩
theorem map_set_fst {S : List Sec} {i : Nat} {x : Sec} : (S.set i x).map (·.1) = (S.map (·.1)).set i x.1 := by rw [List.map_set]
theorem AtX.page (h : AtX w p g bm base cap tc n D d) {i : Nat} (hi : i < d.S.length) {l : List Int} (hl : Pg l) {cur : Array Value} (hg : w.heap[g]? = some (.cells cur 68 (0, 0))) :
    i * 128 + (pc l).length ≤ cur.size ∧ AtX (w.setRow g (cur.toList.take (i * 128) ++ pc l ++ cur.toList.drop (i * 128 + (pc l).length)).toArray) p g bm base cap tc n D { d with S := d.S.set i (l, (sec d.S i).2) } := by
  obtain ⟨a, b⟩ := h.rows.set (i := i) (by simpa using hi) hl.1 hg
  obtain ⟨n1, n2, n3⟩ := h.ne
  refine ⟨a, ?_, ?_, ?_, ?_, ok_set h.ok ⟨hl, (ok_sec h.ok i).2⟩, by simpa using h.len, h.trip, h.rng, h.bp⟩
  · rw [setRow_other _ _ _ _ n1]
    simpa using h.row
  · show Rows _ g cap 68 ((d.S.set i (l, (sec d.S i).2)).map (·.1))
    rw [map_set_fst]; exact b
  · obtain ⟨es, clock, hb, r⟩ := h.map
    exact ⟨es, clock, (setRow_other _ _ _ _ (Ne.symm n3)).trans hb, r⟩
  · refine h.drt.same (by simp) fun j hj => ?_
    show _ = (sec (d.S.set i (l, (sec d.S i).2)) j).2
    rw [sec_set hi]
    split
    · rename_i e; subst e; rfl
    · rfl
theorem AtX.cur (h : AtX w p g bm base cap tc n D d) : ∃ cur, w.heap[g]? = some (.cells cur 68 (0, 0)) := by
  obtain ⟨_, cur, _, hg, _⟩ := h.rows
  exact ⟨cur, hg⟩
/-- A field is stored. -/
theorem AtX.other (h : AtX w p g bm base cap tc n D d) (j : Nat) (v : Value) : Rows (w.setCell ⟨p, j, none⟩ v) g cap 68 (d.S.map (·.1)) ∧ (w.setCell ⟨p, j, none⟩ v).ownsMap Try.prog 3 self bm n D := by
  obtain ⟨n1, n2, n3⟩ := h.ne
  refine ⟨h.rows.kept (heap_setCell_other w ⟨p, j, none⟩ g v (Ne.symm n1)), ?_⟩
  obtain ⟨es, clock, hb, r⟩ := h.map
  exact ⟨es, clock, (heap_setCell_other w ⟨p, j, none⟩ bm v (Ne.symm n2)).trans hb, r⟩
theorem AtX.setTrip (h : AtX w p g bm base cap tc n D d) (t tr : Int) (ht : d.down = false → t = tr) (hr : 0 ≤ t ∧ t ≤ 9223372036854775807) : AtX (w.setCell ⟨p, 2, none⟩ (.int .i64 t)) p g bm base cap t n D { d with trip := tr } :=
  ⟨heap_setCell_same w p 2 _ 63 _ h.row, (h.other 2 _).1, (h.other 2 _).2, h.drt, h.ok, h.len, ht, hr, h.bp⟩
theorem AtX.setDown (h : AtX w p g bm base cap tc n D d) (b : Bool) (tr : Int) (ht : b = false → tc = tr) : AtX (w.setCell ⟨p, 3, none⟩ (.bool b)) p g bm base cap tc n D { d with down := b, trip := tr } :=
  ⟨heap_setCell_same w p 3 _ 63 _ h.row, (h.other 3 _).1, (h.other 3 _).2, h.drt, h.ok, h.len, ht, h.rng, h.bp⟩
theorem AtX.setLife (h : AtX w p g bm base cap tc n D d) (l : Int) : AtX (w.setCell ⟨p, 4, none⟩ (.int .i64 l)) p g bm base cap tc n D { d with life := l } :=
  ⟨heap_setCell_same w p 4 _ 63 _ h.row, (h.other 4 _).1, (h.other 4 _).2, h.drt, h.ok, h.len, h.trip, h.rng, h.bp⟩
end

def setWr (d : Dk) (i : Nat) (l : List Int) : Dk := { d with S := d.S.set i ((sec d.S i).1, some l) }

set_option maxHeartbeats 1000000 in
set_option maxRecDepth 100000 in
theorem write1_any {w : World} {p g bm base : Nat} {d : Dk} (h : At w p g bm base d) (b0 b1 b2 i : Nat) (v : Value) (b : List Int) (hi : i < d.S.length) (hv : Bs w v b) (hb : b.length ≤ 128)
    (k0 : w.cell? ⟨b0, 0, none⟩ = some v) (k1 : w.cell? ⟨b1, 0, none⟩ = some (.pointer (some ⟨p, 0, none⟩))) (k2 : w.cell? ⟨b2, 0, none⟩ = some (.int .i64 (i : Int))) :
    Calls Try.prog 36 #[.pointer (some ⟨b0, 0, none⟩), .pointer (some ⟨b1, 0, none⟩), .pointer (some ⟨b2, 0, none⟩)] w fun e w' => e = .returned (.tuple #[]) ∧ At w' p g bm base (setWr d i (fil b)) ∧ Chg [bm] w w' := by
  obtain ⟨cap, tc, n, D, h⟩ := h
  obtain ⟨_, c1, _⟩ := h.cells
  have HX : Hid (AtX w p g bm base cap tc n D d) := ⟨h⟩
  have hf := filled_any v b w.drew hv hb
  obtain ⟨a0, cp0, rfl, _, _, _, _, hby⟩ := hv
  have HP : Hid (Pg (fil b)) := ⟨pg_fil hby hb⟩
  have hS0 : w.drew.cell? ⟨b0, 0, none⟩ = some (.slice a0 b.length cp0) ∧ w.drew.cell? ⟨b1, 0, none⟩ = some (.pointer (some ⟨p, 0, none⟩)) ∧ w.drew.cell? ⟨b2, 0, none⟩ = some (.int .i64 (i : Int)) ∧ w.drew.cell? ⟨p, 1, none⟩ = some (.map (some bm)) := ⟨k0, k1, k2, c1⟩
  have hlt0 : ∀ a u, w.drew.cell? a = some u → a.block < w.drew.heap.size := fun a u hu => World.block_lt_of_cell? _ _ hu
  clear h hby
  generalize b.length = bl at hf hS0 k0
  go_enter Try.func36, Try.ntmps36
  go_wp2
  refine wp_region_held_drew (S := fun w' => w'.cell? ⟨b0, 0, none⟩ = some (.slice a0 bl cp0) ∧ w'.cell? ⟨b1, 0, none⟩ = some (.pointer (some ⟨p, 0, none⟩)) ∧ w'.cell? ⟨b2, 0, none⟩ = some (.int .i64 (i : Int)) ∧ w'.cell? ⟨p, 1, none⟩ = some (.map (some bm))) (by kernel_rfl) hS0 (fun hS => ?_)
  refine wpAnyH_take (i := 0) (v := .pointer (some ⟨p, 0, none⟩)) rfl (by kernel_rfl) (by kernel_rfl) (by kernel_rfl) (fun _ _ _ h => h) (Or.inl ⟨by kernel_rfl, fun wx hx => by obtain ⟨hx0, hx1, hx2, hx3⟩ := hx; go_simp⟩) hS ?_
  refine wpAnyH_take (i := 1) (v := .pointer (some ⟨p, 0, none⟩)) rfl (by kernel_rfl) (by kernel_rfl) (by kernel_rfl) (fun _ _ _ h => h) (Or.inl ⟨by kernel_rfl, fun wx _ => by go_simp⟩) hS ?_
  refine wpAnyH_take (i := 2) (v := .pointer (some ⟨p, 1, none⟩)) rfl (by kernel_rfl) (by kernel_rfl) (by kernel_rfl) (fun _ _ _ h => h) (Or.inl ⟨by kernel_rfl, fun wx _ => by go_simp⟩) hS ?_
  refine wpAnyH_take (i := 3) (v := .map (some bm)) rfl (by kernel_rfl) (by kernel_rfl) (by kernel_rfl) (fun _ _ _ h => h) (Or.inl ⟨by kernel_rfl, fun wx hx => by obtain ⟨hx0, hx1, hx2, hx3⟩ := hx; go_simp⟩) hS ?_
  refine wpAnyH_take (i := 4) (v := .int .i64 (i : Int)) rfl (by kernel_rfl) (by kernel_rfl) (by kernel_rfl) (fun _ _ _ h => h) (Or.inl ⟨by kernel_rfl, fun wx hx => by obtain ⟨hx0, hx1, hx2, hx3⟩ := hx; go_simp⟩) hS ?_
  refine wpAnyH_take (i := 5) (v := .slice a0 bl cp0) rfl (by kernel_rfl) (by kernel_rfl) (by kernel_rfl) (fun _ _ _ h => h) (Or.inl ⟨by kernel_rfl, fun wx hx => by obtain ⟨hx0, hx1, hx2, hx3⟩ := hx; go_simp⟩) hS ?_
  refine wpAnyH_ready (rs := [6]) (by kernel_rfl) (by simp) (AllReadyH.cons rfl (fun Kc hK => ?_) AllReadyH.nil)
  go_simp
  refine hf.mono ?_
  rintro e w1 ⟨rfl, hb1⟩
  have hX1 : AtX w1 p g bm base cap tc n D d := (HX.out.kept (w' := w.drew) rfl rfl rfl).below hb1
  have hS1 : w1.cell? ⟨b0, 0, none⟩ = some (.slice a0 bl cp0) ∧ w1.cell? ⟨b1, 0, none⟩ = some (.pointer (some ⟨p, 0, none⟩)) ∧ w1.cell? ⟨b2, 0, none⟩ = some (.int .i64 (i : Int)) ∧ w1.cell? ⟨p, 1, none⟩ = some (.map (some bm)) :=
    ⟨(hb1.cell (hlt0 _ _ hS0.1)).trans hS0.1, (hb1.cell (hlt0 _ _ hS0.2.1)).trans hS0.2.1, (hb1.cell (hlt0 _ _ hS0.2.2.1)).trans hS0.2.2.1, (hb1.cell (hlt0 _ _ hS0.2.2.2)).trans hS0.2.2.2⟩
  refine hK.out _ _ hS1 (fun hS => ?_)
  clear hK hf
  obtain ⟨w2, hrun, hch, n', D', hX2⟩ := hX1.put hi HP.out
  have hlt1 : ∀ a u, w1.cell? a = some u → a.block < w1.heap.size := fun a u hu => World.block_lt_of_cell? _ _ hu
  have hS2 : w2.cell? ⟨b0, 0, none⟩ = some (.slice a0 bl cp0) ∧ w2.cell? ⟨b1, 0, none⟩ = some (.pointer (some ⟨p, 0, none⟩)) ∧ w2.cell? ⟨b2, 0, none⟩ = some (.int .i64 (i : Int)) ∧ w2.cell? ⟨p, 1, none⟩ = some (.map (some bm)) := by
    have hnm : ∀ a u, w1.cell? a = some u → a.block ∉ [bm] := fun a u hu hm => by
      obtain ⟨es, clock, hbm, _⟩ := hX1.map
      simp only [List.mem_singleton] at hm
      unfold World.cell? at hu
      rw [hm, hbm] at hu
      simp at hu
    exact ⟨(hch.cell (hlt1 _ _ hS1.1) (hnm _ _ hS1.1)).trans hS1.1, (hch.cell (hlt1 _ _ hS1.2.1) (hnm _ _ hS1.2.1)).trans hS1.2.1, (hch.cell (hlt1 _ _ hS1.2.2.1) (hnm _ _ hS1.2.2.1)).trans hS1.2.2.1, (hch.cell (hlt1 _ _ hS1.2.2.2) (hnm _ _ hS1.2.2.2)).trans hS1.2.2.2⟩
  have HR : Hid (At w2 p g bm base (setWr d i (fil b)) ∧ Chg [bm] w w2) := ⟨hX2.at, ((Chg.refl [bm] w).drew.trans (Chg.ofBelow hb1)).trans hch⟩
  clear hX2 hX1 hch hb1
  refine wpAnyH_ready (rs := [7]) (by kernel_rfl) (by simp) (AllReadyH.cons rfl (fun Kc hK => ?_) AllReadyH.nil)
  go_simp
  refine hK.out _ _ hS2 (fun hS => ?_)
  clear hK
  refine wpAnyH_done (by kernel_rfl) ?_ _
  go_wp2
  go_returns
  exact ⟨rfl, HR.out⟩
end Go.Proofs.Ytmcikhdfpmkpnaa
