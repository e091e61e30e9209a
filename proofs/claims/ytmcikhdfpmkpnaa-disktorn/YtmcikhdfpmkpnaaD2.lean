/- A disk in memory; what it tells of itself. -/
import Derived.Test.YtmcikhdfpmkpnaaD1
namespace Go.Proofs.Ytmcikhdfpmkpnaa
open Go.RowKit Go.Maps Go.Sort Go.Shelf

/-- A disk, as plain data. -/
structure Dk where
  S : List Sec
  trip : Int
  down : Bool
  life : Int

/-- What was there stays, but for some blocks. -/
structure Chg (X : List Nat) (w w' : World) : Prop where
  os : w'.os = w.os
  tape : w'.tape = w.tape
  output : w'.output = w.output
  size : w.heap.size ≤ w'.heap.size
  block : ∀ k, k < w.heap.size → k ∉ X → w'.heap[k]? = w.heap[k]?

theorem Chg.refl (X : List Nat) (w : World) : Chg X w w := ⟨rfl, rfl, rfl, Nat.le_refl _, fun _ _ _ => rfl⟩
theorem Chg.trans {X : List Nat} {w w1 w2 : World} (h : Chg X w w1) (k : Chg X w1 w2) : Chg X w w2 :=
  ⟨k.os.trans h.os, k.tape.trans h.tape, k.output.trans h.output, Nat.le_trans h.size k.size, fun i hi hx => (k.block i (Nat.lt_of_lt_of_le hi h.size) hx).trans (h.block i hi hx)⟩
theorem Chg.ofBelow {X : List Nat} {w w' : World} (h : Below w.heap.size w w') : Chg X w w' := ⟨h.os, h.tape, h.output, h.size, fun k hk _ => h.block k hk⟩
theorem Chg.below {X : List Nat} {w w' : World} (h : Chg X w w') {B : Nat} (hB : B ≤ w.heap.size) (hX : ∀ x ∈ X, B ≤ x) : Below B w w' :=
  ⟨h.os, h.tape, h.output, h.size, fun k hk => h.block k (by omega) (fun hx => by have := hX k hx; omega)⟩
theorem Chg.mono {X Y : List Nat} {w w' : World} (h : Chg X w w') (hX : ∀ x ∈ X, x ∈ Y ∨ w.heap.size ≤ x) : Chg Y w w' :=
  ⟨h.os, h.tape, h.output, h.size, fun k hk hy => h.block k hk (fun hx => by rcases hX k hx with h | h; exact hy h; omega)⟩
theorem Chg.thenNew {X Y : List Nat} {w w1 w2 : World} (h : Chg X w w1) (k : Chg Y w1 w2) (hY : ∀ x ∈ Y, x ∈ X ∨ w.heap.size ≤ x) : Chg X w w2 :=
  ⟨k.os.trans h.os, k.tape.trans h.tape, k.output.trans h.output, Nat.le_trans h.size k.size, fun i hi hx => (k.block i (Nat.lt_of_lt_of_le hi h.size) (fun hy => by rcases hY i hy with q | q; exact hx q; omega)).trans (h.block i hi hx)⟩
theorem Chg.cell {X : List Nat} {w w' : World} (h : Chg X w w') {a : Addr} (ha : a.block < w.heap.size) (hx : a.block ∉ X) : w'.cell? a = w.cell? a := World.cell?_of_block (h.block _ ha hx)
theorem Chg.setCell {X : List Nat} {w w' : World} (h : Chg X w w') {a : Addr} (ha : a.block ∈ X ∨ w.heap.size ≤ a.block) (v : Value) : Chg X w (w'.setCell a v) :=
  ⟨h.os, h.tape, h.output, by simpa using h.size, fun k hk hx => (heap_setCell_other w' a k v (fun e => by subst e; rcases ha with q | q; exact hx q; omega)).trans (h.block k hk hx)⟩
theorem Chg.setRow {X : List Nat} {w w' : World} (h : Chg X w w') {g : Nat} (hg : g ∈ X ∨ w.heap.size ≤ g) (cs : Array Value) : Chg X w (w'.setRow g cs) :=
  ⟨h.os, h.tape, h.output, by simpa using h.size, fun k hk hx => (setRow_other w' g k cs (fun e => by subst e; rcases hg with q | q; exact hx q; omega)).trans (h.block k hk hx)⟩
theorem Chg.ofMap {w w' : World} {b : Nat} (h : w.mapTurned w' b) : Chg [b] w w' := by
  have g := h.grown
  exact ⟨g.os, g.tape, g.output, g.size, fun k hk hx => g.block k hk (fun e => hx (by simp only [Option.some.injEq] at e; simp [e]))⟩
theorem Chg.drew {X : List Nat} {w w' : World} (h : Chg X w w') : Chg X w w'.drew := ⟨h.os, h.tape, h.output, h.size, h.block⟩

/-- The disk at block p: its sure pages in block g, its map in block bm. -/
structure AtX (w : World) (p g bm base cap : Nat) (tc : Int) (n : Nat) (D : DataW Value) (d : Dk) : Prop where
  row : w.heap[p]? = some (.cells #[.slice (some ⟨g, 0, none⟩) d.S.length cap, .map (some bm), .int .i64 tc, .bool d.down, .int .i64 d.life] 63 (0, 0))
  rows : Rows w g cap 68 (d.S.map (·.1))
  map : w.ownsMap Try.prog 3 self bm n D
  drt : Dirt D d.S
  ok : ∀ s ∈ d.S, OkS s
  len : d.S.length ≤ 4096
  trip : d.down = false → tc = d.trip
  rng : 0 ≤ tc ∧ tc ≤ 9223372036854775807
  bp : base ≤ p ∧ base ≤ g ∧ base ≤ bm
def At (w : World) (p g bm base : Nat) (d : Dk) : Prop := ∃ cap tc n D, AtX w p g bm base cap tc n D d

theorem AtX.at {w : World} {p g bm base cap : Nat} {tc : Int} {n : Nat} {D : DataW Value} {d : Dk} (h : AtX w p g bm base cap tc n D d) : At w p g bm base d := ⟨cap, tc, n, D, h⟩
section
variable {w w' : World} {p g bm base cap : Nat} {tc : Int} {n : Nat} {D : DataW Value} {d : Dk}
theorem AtX.lt (h : AtX w p g bm base cap tc n D d) : p < w.heap.size ∧ g < w.heap.size ∧ bm < w.heap.size := ⟨(Array.getElem?_eq_some_iff.1 h.row).1, h.rows.lt, h.map.lt⟩
theorem AtX.ne (h : AtX w p g bm base cap tc n D d) : p ≠ g ∧ p ≠ bm ∧ g ≠ bm := by
  have hr := h.row
  obtain ⟨_, cur, rest, hg, _⟩ := h.rows
  obtain ⟨es, clock, hb, _⟩ := h.map
  refine ⟨fun e => ?_, fun e => ?_, fun e => ?_⟩
  · rw [e, hg] at hr; simp at hr
  · rw [e, hb] at hr; simp at hr
  · rw [e, hb] at hg; simp at hg
theorem AtX.kept (h : AtX w p g bm base cap tc n D d) (h1 : w'.heap[p]? = w.heap[p]?) (h2 : w'.heap[g]? = w.heap[g]?) (h3 : w'.heap[bm]? = w.heap[bm]?) : AtX w' p g bm base cap tc n D d := by
  obtain ⟨es, clock, hb, r⟩ := h.map
  exact { h with row := h1.trans h.row, rows := h.rows.kept h2, map := ⟨es, clock, h3.trans hb, r⟩ }
theorem AtX.below (h : AtX w p g bm base cap tc n D d) (hb : Below w.heap.size w w') : AtX w' p g bm base cap tc n D d :=
  h.kept (hb.block p h.lt.1) (hb.block g h.lt.2.1) (hb.block bm h.lt.2.2)
theorem AtX.chg (h : AtX w p g bm base cap tc n D d) {X : List Nat} (hc : Chg X w w') (hx : p ∉ X ∧ g ∉ X ∧ bm ∉ X) : AtX w' p g bm base cap tc n D d :=
  h.kept (hc.block p h.lt.1 hx.1) (hc.block g h.lt.2.1 hx.2.1) (hc.block bm h.lt.2.2 hx.2.2)
theorem AtX.cells (h : AtX w p g bm base cap tc n D d) : w.cell? ⟨p, 0, none⟩ = some (.slice (some ⟨g, 0, none⟩) d.S.length cap) ∧ w.cell? ⟨p, 1, none⟩ = some (.map (some bm)) ∧ w.cell? ⟨p, 2, none⟩ = some (.int .i64 tc) ∧ w.cell? ⟨p, 3, none⟩ = some (.bool d.down) ∧ w.cell? ⟨p, 4, none⟩ = some (.int .i64 d.life) := by
  have hr := h.row
  refine ⟨?_, ?_, ?_, ?_, ?_⟩ <;> simp [World.cell?, hr]
theorem AtX.frozen (h : AtX w p g bm base cap tc n D d) (j : Nat) : w.frozen? ⟨p, j, none⟩ = false := frozen_of_row w p j _ 63 h.row
theorem AtX.size (h : AtX w p g bm base cap tc n D d) : Maps.size D = (dl d.S).length := h.drt.size h.map Try.underlying3
end
theorem At.below {w w' : World} {p g bm base : Nat} {d : Dk} (h : At w p g bm base d) (hb : Below w.heap.size w w') : At w' p g bm base d := by
  obtain ⟨cap, tc, n, D, h⟩ := h
  exact (h.below hb).at
theorem At.chg {w w' : World} {p g bm base : Nat} {d : Dk} (h : At w p g bm base d) {X : List Nat} (hc : Chg X w w') (hx : p ∉ X ∧ g ∉ X ∧ bm ∉ X) : At w' p g bm base d := by
  obtain ⟨cap, tc, n, D, h⟩ := h
  exact (h.chg hc hx).at
theorem At.lt {w : World} {p g bm base : Nat} {d : Dk} (h : At w p g bm base d) : p < w.heap.size ∧ g < w.heap.size ∧ bm < w.heap.size := by
  obtain ⟨cap, tc, n, D, h⟩ := h
  exact h.lt

def OwnI (w : World) (base : Nat) (v : Value) (l : List Int) : Prop := w.ownsRow base 3 1 v l.length (l.map (Value.int .i64))
def dlI (S : List Sec) : List Int := (dl S).map (fun i : Nat => (i : Int))

section
variable {w : World} {p g bm base : Nat} {d : Dk}
theorem sectors_any (h : At w p g bm base d) : Calls Try.prog 11 #[.pointer (some ⟨p, 0, none⟩)] w fun e w' => e = .returned (.int .i64 d.S.length) ∧ w = w' := by
  obtain ⟨cap, tc, n, D, h⟩ := h
  obtain ⟨c0, _⟩ := h.cells
  clear h
  go_enter Try.func11, Try.ntmps11
  go_wp2
  go_ret
  exact ⟨rfl, rfl⟩
theorem life_any (h : At w p g bm base d) : Calls Try.prog 12 #[.pointer (some ⟨p, 0, none⟩)] w fun e w' => e = .returned (.int .i64 d.life) ∧ w = w' := by
  obtain ⟨cap, tc, n, D, h⟩ := h
  obtain ⟨_, _, _, _, c4⟩ := h.cells
  clear h
  go_enter Try.func12, Try.ntmps12
  go_wp2
  go_ret
  exact ⟨rfl, rfl⟩
theorem down_any (h : At w p g bm base d) : Calls Try.prog 13 #[.pointer (some ⟨p, 0, none⟩)] w fun e w' => e = .returned (.bool d.down) ∧ w = w' := by
  obtain ⟨cap, tc, n, D, h⟩ := h
  obtain ⟨_, _, _, c3, _⟩ := h.cells
  clear h
  go_enter Try.func13, Try.ntmps13
  go_wp2
  go_ret
  exact ⟨rfl, rfl⟩
theorem ready_any (h : At w p g bm base d) : Calls Try.prog 33 #[.pointer (some ⟨p, 0, none⟩)] w fun e w' => e = .returned (.int .i64 (if d.down then 7 else 0)) ∧ w = w' := by
  obtain ⟨cap, tc, n, D, h⟩ := h
  obtain ⟨_, _, _, c3, _⟩ := h.cells
  clear h
  go_enter Try.func33, Try.ntmps33
  cases hd : d.down <;> rw [hd] at c3
  · go_wp2
    go_ret
    exact ⟨rfl, rfl⟩
  · go_wp2
    go_ret
    exact ⟨rfl, rfl⟩
theorem has_any (h : At w p g bm base d) (i : Int) : Calls Try.prog 39 #[.pointer (some ⟨p, 0, none⟩), .int .i64 i] w fun e w' => e = .returned (.bool (decide (0 ≤ i ∧ i < (d.S.length : Int)))) ∧ w = w' := by
  obtain ⟨cap, tc, n, D, h⟩ := h
  obtain ⟨c0, _⟩ := h.cells
  clear h
  go_enter Try.func39, Try.ntmps39
  by_cases h1 : 0 ≤ i
  · go_wp2
    go_ret
    exact ⟨by simp [h1], rfl⟩
  · go_wp2
    go_ret
    exact ⟨by simp; omega, rfl⟩
def fitE (d : Dk) (i : Int) (n : Nat) : Int := if 0 ≤ i ∧ i < (d.S.length : Int) then (if 128 < n then 6 else 0) else 2
theorem fits_any (h : At w p g bm base d) (i : Int) (ao : Option Addr) (n cap : Nat) : Calls Try.prog 34 #[.pointer (some ⟨p, 0, none⟩), .int .i64 i, .slice ao n cap] w fun e w' => e = .returned (.int .i64 (fitE d i n)) ∧ w = w' := by
  have t := has_any h i
  clear h
  unfold fitE
  go_enter Try.func34, Try.ntmps34
  by_cases h1 : 0 ≤ i ∧ i < (d.S.length : Int)
  · rw [decide_eq_true h1] at t
    rw [if_pos h1]
    by_cases h2 : 128 < n
    · have h2z : (128 : Int) < (n : Int) := by omega
      rw [if_pos h2]
      go_wp2_with (go_at_call 39; refine t.mono ?_; rintro e w' ⟨rfl, rfl⟩)
      go_ret
      exact ⟨rfl, rfl⟩
    · have h2z : ¬ (128 : Int) < (n : Int) := by omega
      rw [if_neg h2]
      go_wp2_with (go_at_call 39; refine t.mono ?_; rintro e w' ⟨rfl, rfl⟩)
      go_ret
      exact ⟨rfl, rfl⟩
  · rw [decide_eq_false h1] at t
    rw [if_neg h1]
    go_wp2_with (go_at_call 39; refine t.mono ?_; rintro e w' ⟨rfl, rfl⟩)
    go_ret
    exact ⟨rfl, rfl⟩
theorem dirty_any (h : At w p g bm base d) : Calls Try.prog 14 #[.pointer (some ⟨p, 0, none⟩)] w fun e w' => ∃ v, e = .returned v ∧ OwnI w' w.heap.size v (dlI d.S) ∧ Below w.heap.size w w' := by
  obtain ⟨cap, tc, n, D, h⟩ := h
  obtain ⟨_, c1, _⟩ := h.cells
  have t := sorted_any bm n D w h.map (by rw [h.size]; exact Nat.le_trans (dl_le _) h.len)
  have HS : Hid (∀ ss : List Int, ss.Perm (intKeys D) → ss.mergeSort (fun x y => decide (x ≤ y)) = dlI d.S) := ⟨fun ss hp => h.drt.sorted h.map Try.underlying3 hp⟩
  clear h
  go_enter Try.func14, Try.ntmps14
  go_wp2_with (first
    | (go_at_call 27; refine (keys_any (some bm) w).mono ?_; rintro e w' ⟨rfl, rfl⟩)
    | (go_at_call 26; refine t.mono ?_; rintro e w' ⟨v, ss, rfl, hp, hrow, hb⟩))
  go_ret
  refine ⟨v, rfl, ?_, hb⟩
  rw [HS.out ss hp] at hrow
  have hl : ss.length = (dlI d.S).length := by rw [← HS.out ss hp]; simp
  unfold OwnI
  rw [← hl]
  exact hrow
end
end Go.Proofs.Ytmcikhdfpmkpnaa
