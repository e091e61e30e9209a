/- The document's map: rows of bools; New, all, set. -/
import Derived.Test.YtcmibcmndiplbabZ4
import Derived.Test.YtcmibcmndiplbabZ3
namespace Go.Proofs.Ytcmibcmndiplbab
open Go.RowKit Go.Lib Go.Shelf

def OwnB (w : World) (base : Nat) (v : Value) (T : List Bool) : Prop := w.ownsRow base 4 1 v T.length (T.map Value.bool)
theorem OwnB.shape {w : World} {base : Nat} {v : Value} {T : List Bool} (h : OwnB w base v T) : ∃ ao cap, v = .slice ao T.length cap ∧ ∀ j, j < T.length → ∃ g, ao = some ⟨g, 0, none⟩ ∧ w.cell? ⟨g, j, none⟩ = some (.bool (T.getD j false)) := by
  rcases h.2 with ⟨rfl, h0⟩ | ⟨g, cap, cur, rfl, hb, hh, h1, h2, h3, h4⟩
  · exact ⟨none, 0, by rw [h0], fun j hj => by omega⟩
  · refine ⟨_, cap, rfl, fun j hj => ⟨g, rfl, ?_⟩⟩
    have e2 : (cur.toList.take (T.length * 1))[j]? = (T.map Value.bool)[j]? := by rw [h4]
    rw [List.getElem?_take, if_pos (by omega)] at e2
    simp [World.cell?, hh, List.getD_eq_getElem?_getD, List.getElem?_eq_getElem hj] at e2 ⊢
    exact e2

/-- The document's map at block q. -/
structure RefAt (w : World) (q : Nat) (A : Int) (base : Nat) (v : Value) (T : List Bool) : Prop where
  row : w.heap[q]? = some (.cells #[.int .i64 A, v] 79 (0, 0))
  own : OwnB w base v T
  pb : base ≤ q
  ne : v.ownBlock ≠ some q
  small : T.length ≤ 4096

theorem cells_row2 {w : World} {p : Nat} {c0 c1 : Value} {t : TypeId} (h : w.heap[p]? = some (.cells #[c0, c1] t (0, 0))) : w.cell? ⟨p, 0, none⟩ = some c0 ∧ w.cell? ⟨p, 1, none⟩ = some c1 := by
  refine ⟨?_, ?_⟩ <;> simp [World.cell?, h]
theorem RefAt.lt {w : World} {q : Nat} {A : Int} {base : Nat} {v : Value} {T : List Bool} (h : RefAt w q A base v T) : q < w.heap.size := (Array.getElem?_eq_some_iff.1 h.row).1
theorem RefAt.kept {w w' : World} {q : Nat} {A : Int} {base : Nat} {v : Value} {T : List Bool} (h : RefAt w q A base v T) (hq : w'.heap[q]? = w.heap[q]?) (hv : ∀ g, v.ownBlock = some g → w'.heap[g]? = w.heap[g]?) : RefAt w' q A base v T := by
  refine ⟨hq.trans h.row, ⟨h.own.1, ?_⟩, h.pb, h.ne, h.small⟩
  rcases h.own.2 with hn | ⟨g, cap, cur, rfl, hb', hh, r⟩
  · exact .inl hn
  · exact .inr ⟨g, cap, cur, rfl, hb', (hv g rfl).trans hh, r⟩
theorem RefAt.ownLt {w : World} {q : Nat} {A : Int} {base : Nat} {v : Value} {T : List Bool} (h : RefAt w q A base v T) : ∀ g, v.ownBlock = some g → base ≤ g ∧ g < w.heap.size := World.ownsRow.lt h.own
theorem RefAt.below {w w' : World} {q : Nat} {A : Int} {base : Nat} {v : Value} {T : List Bool} (h : RefAt w q A base v T) (hb : Below w.heap.size w w') : RefAt w' q A base v T := h.kept (hb.block q h.lt) (fun g hg => hb.block g (h.ownLt g hg).2)

section
variable {ops : Array Oper} {rest : List Oper} {o : Oper} {a : Act} {Q : Exit → Act → World → Prop}
theorem info4 : (Try.prog.info? 4).map (fun i => (i.zero, i.size, i.bytes)) = some (some (.bool false), 1, 1) := by kernel_rfl
theorem wp_app1B {w : World} {y : Bool} (hgd : o.guard = none) (s x : Operand)
    (ho : o.op = .call { callee := .builtin .append, args := #[s, x], argTypes := #[77, 77] })
    {base : Nat} {v : Value} {xs : List Bool} (hs : a.eval s = v) (hown : OwnB w base v xs)
    (hx : a.eval x = .slice (some ⟨w.heap.size, 0, none⟩) 1 1) (hlen : xs.length ≤ 1000000) (hbase : base ≤ w.heap.size)
    (h : ∀ v' w', OwnB w' base v' (xs ++ [y]) → Below base w w' → wpList Try.prog ops Q rest (a.put o.dst v') w') :
    wpList Try.prog ops Q (o :: rest) a (w.alloc (.cells #[.bool y] 4)) := by
  obtain ⟨i0, hi, hz0, hz1, hz2⟩ := info_parts' info4
  refine wpList_append_own _ hgd s x 77 ho base 4 i0 (.bool false) 1 1 Try.underlying77 hi hz0 hz1 hz2 rfl (by decide) v xs.length _ hs (World.ownsRow.alloc hown _) ⟨w.heap.size, 0, none⟩ 1 1 [.bool y] hx rfl ?_ ?_ ?_ ?_ ?_ ?_
  · intro j u hj
    match j, hj with
    | 0, hj => simp at hj; subst hj; simp [Addr.add]
  · intro u hu; simp at hu; subst hu; rfl
  · unfold maxLen; omega
  · omega
  · simp; omega
  · intro v' w' h1 h2 _
    refine h v' w' (by unfold OwnB; simpa using h1) ?_
    exact ((Below.refl base w).alloc hbase _).grown h2 (by simp; omega) (owns_ge hown)
end

/-- Are all of them so? -/
def allB (T : List Bool) (a n : Nat) (tk : Bool) : Bool := (List.range n).all fun j => T.getD (a + j) false == tk

set_option maxHeartbeats 2000000 in
theorem all_any {w : World} {q : Nat} {A : Int} {base : Nat} {v : Value} {T : List Bool} (h : RefAt w q A base v T) (a n : Nat) (tk : Bool) (hn : a + n ≤ T.length) :
    Calls Try.prog 48 #[.pointer (some ⟨q, 0, none⟩), .int .i64 (a : Int), .int .i64 (n : Int), .bool tk] w fun e w' => e = .returned (.bool (allB T a n tk)) ∧ w = w' := by
  obtain ⟨c0, c1⟩ := cells_row2 h.row
  obtain ⟨ao, cap, rfl, hcell⟩ := h.own.shape
  have hsm := h.small
  have HC : Hid (∀ j, j < T.length → ∃ g, ao = some ⟨g, 0, none⟩ ∧ w.cell? ⟨g, j, none⟩ = some (.bool (T.getD j false))) := ⟨hcell⟩
  obtain ⟨N, hN⟩ : ∃ N, T.length = N := ⟨_, rfl⟩
  rw [hN] at c1 hn hsm
  have hw : wrap64 ((a : Int) + (n : Int)) = (a : Int) + n := IntWalk.wrap64_in _ ⟨by omega, by omega⟩
  clear h hcell c0
  go_enter Try.func48, Try.ntmps48
  go_wp2
  go_loopg [9] n (fun gg s9 wr => ∃ kk : Nat, kk ≤ n ∧ n - kk ≤ gg ∧ s9 = .int .i64 ((a : Int) + (kk : Int)) ∧ wr = w ∧ Hid (∀ j, j < kk → (T.getD (a + j) false == tk) = true))
  case atStart => exact ⟨0, Nat.zero_le _, by omega, by simp, rfl, ⟨fun j hj => absurd hj (Nat.not_lt_zero _)⟩⟩
  case round =>
    obtain ⟨kk, hkk, hg, rfl, rfl, HA⟩ := hrel
    obtain ⟨t, ht⟩ : ∃ t, a + kk = t := ⟨_, rfl⟩
    have hti : (a : Int) + (kk : Int) = (t : Int) := by omega
    rw [hti]
    by_cases hlt : kk < n
    · have hltz : (t : Int) < (a : Int) + (n : Int) := by omega
      have htN : (t : Int) < (N : Int) := by omega
      obtain ⟨g, rfl, cg⟩ := HC.out t (by omega)
      have HB : Hid (T.getD (a + kk) false = T.getD t false) := ⟨by rw [ht]⟩
      generalize T.getD t false = y at cg HB
      by_cases hy : y = tk
      · subst hy
        go_wp2
        go_roundg (n - (kk + 1))
        case measure => omega
        case rel => exact ⟨kk + 1, by omega, by omega, by rw [← hti]; go_num, rfl, ⟨fun j hj => by
          rcases Nat.lt_or_ge j kk with h | h
          · exact HA.out j h
          · rw [show j = kk by omega, HB.out]; simp⟩⟩
      · have hyb : (y == tk) = false := by cases y <;> cases tk <;> simp_all
        have HF : Hid (allB T a n tk = false) := ⟨by
          unfold allB
          rw [List.all_eq_false]
          exact ⟨kk, by simpa using hlt, by rw [HB.out, hyb]; simp⟩⟩
        go_wp2
        go_ret
        exact ⟨by rw [HF.out]; rfl, rfl⟩
    · have HF : Hid (allB T a n tk = true) := ⟨by
        unfold allB
        rw [List.all_eq_true]
        intro j hj
        exact HA.out j (by have := List.mem_range.1 hj; omega)⟩
      have hltz : ¬ (t : Int) < (a : Int) + (n : Int) := by omega
      go_wp2
      go_ret
      exact ⟨by rw [HF.out]; rfl, rfl⟩
end Go.Proofs.Ytcmibcmndiplbab
