/- The program's summary: what it is, New, Size. -/
import Derived.Test.YtiloclekhddkfabDoorB6
namespace Go.Proofs.YtiloclekhddkfabDoor
open Go.RowKit

/-- Cells of 64 bits. -/
def uv (l : List Nat) : List Value := l.map (fun (n : Nat) => Value.int .u64 (n : Int))
theorem uv_len (l : List Nat) : (uv l).length = l.length := by simp [uv]
theorem uv_get (l : List Nat) {i : Nat} (h : i < l.length) : (uv l)[i]? = some (.int .u64 (l.getD i 0 : Int)) := by simp [uv, h]
theorem uv_set (l : List Nat) (i m : Nat) : (uv l).set i (.int .u64 (m : Int)) = uv (l.set i m) := by simp [uv, List.map_set]
theorem infoU : (Tryd.prog.info? 73).map (fun i => (i.zero, i.size, i.bytes)) = some (some (.int .u64 0), 1, 8) := by kernel_rfl
/-- The program's summary at a block, its cells at another. -/
structure FlAt (w : World) (p c cap : Nat) (size ways : Int) (cs : List Nat) : Prop where
  row : w.heap[p]? = some (.cells #[.int .i64 size, .int .i64 ways, .slice (some ⟨c, 0, none⟩) cs.length cap] 61 (0, 0))
  ne : c ≠ p
  own : w.ownsRow 0 73 1 (.slice (some ⟨c, 0, none⟩) cs.length cap) cs.length (uv cs)
section
variable {w w' : World} {p c cap : Nat} {size ways : Int} {cs : List Nat} {X : List Nat}
theorem FlAt.lt (h : FlAt w p c cap size ways cs) : p < w.heap.size := (Array.getElem?_eq_some_iff.1 h.row).1
theorem FlAt.c0 (h : FlAt w p c cap size ways cs) : w.cell? ⟨p, 0, none⟩ = some (.int .i64 size) := by rw [cell_of_row _ _ _ _ _ _ h.row]; rfl
theorem FlAt.c1 (h : FlAt w p c cap size ways cs) : w.cell? ⟨p, 1, none⟩ = some (.int .i64 ways) := by rw [cell_of_row _ _ _ _ _ _ h.row]; rfl
theorem FlAt.c2 (h : FlAt w p c cap size ways cs) : w.cell? ⟨p, 2, none⟩ = some (.slice (some ⟨c, 0, none⟩) cs.length cap) := by rw [cell_of_row _ _ _ _ _ _ h.row]; rfl
theorem FlAt.blk (h : FlAt w p c cap size ways cs) : ∃ cur, w.heap[c]? = some (.cells cur 73 (0, 0)) ∧ cs.length ≤ cap ∧ cap ≤ maxLen ∧ cur.size = cap ∧ cur.toList.take cs.length = uv cs := by
  rcases h.own.2 with ⟨z, _⟩ | ⟨g, cp, cur, e, _, hh, h1, h2, h3, h4⟩
  · cases z
  · cases e
    exact ⟨cur, hh, h1, h2, by omega, by rw [Nat.mul_one] at h4; exact h4⟩
theorem FlAt.clt (h : FlAt w p c cap size ways cs) : c < w.heap.size := by
  obtain ⟨cur, hh, _⟩ := h.blk
  exact (Array.getElem?_eq_some_iff.1 hh).1
theorem FlAt.far (h : FlAt w p c cap size ways cs) (hc : Chg X w w') (hp : p ∉ X) (hq : c ∉ X) : FlAt w' p c cap size ways cs :=
  ⟨(hc.block p h.lt hp).trans h.row, h.ne, own_far h.own hc (fun g hg => by simp [Value.ownBlock] at hg; subst hg; exact hq)⟩
theorem FlAt.cell (h : FlAt w p c cap size ways cs) {i : Nat} (hi : i < cs.length) : w.cell? ⟨c, i, none⟩ = some (.int .u64 (cs.getD i 0 : Int)) := by
  obtain ⟨cur, hh, _, _, _, h4⟩ := h.blk
  rw [cell_of_row _ _ _ _ _ _ hh, ← uv_get cs hi, ← h4, List.getElem?_take, if_pos hi]
  simp
theorem FlAt.fz (h : FlAt w p c cap size ways cs) (i : Nat) : w.frozen? ⟨c, i, none⟩ = false := by
  obtain ⟨cur, hh, _⟩ := h.blk
  exact frozen_of_row w c i _ 73 hh
theorem FlAt.set (h : FlAt w p c cap size ways cs) (i m : Nat) : FlAt (w.setCell ⟨c, i, none⟩ (.int .u64 (m : Int))) p c cap size ways (cs.set i m) := by
  obtain ⟨cur, hh, h1, h2, h3, h4⟩ := h.blk
  refine ⟨?_, h.ne, ?_⟩
  · rw [heap_setCell_other _ _ _ _ (fun e => h.ne e.symm), List.length_set]; exact h.row
  · refine ⟨by rw [uv_len]; simp, .inr ⟨c, cap, _, rfl, Nat.zero_le _, heap_setCell_same w c i cur 73 _ hh, by simpa using h1, h2, by simp [h3], ?_⟩⟩
    rw [← uv_set, ← h4]
    simp [List.take_set]
theorem wp_makeU {ops : Array Oper} {rest : List Oper} {o : Oper} {a : Act} {Q : Exit → Act → World → Prop} (hg : o.guard = none) (l c : Operand) (hop : o.op = Op.makeSlice 59 l c) {L : Int} (n : Nat) (hl : a.eval l = .int .i64 L) (hc : a.eval c = .int .i64 L) (hL : L = (n : Int)) (hn : n ≤ 1000000)
    (h : ∀ w', w'.ownsRow 0 73 1 (.slice (some ⟨w.heap.size, 0, none⟩) n n) n (uv (List.replicate n 0)) → Below w.heap.size w w' → wpList Tryd.prog ops Q rest (a.put o.dst (.slice (some ⟨w.heap.size, 0, none⟩) n n)) w') :
    wpList Tryd.prog ops Q (o :: rest) a w := by
  obtain ⟨i0, hi, hz0, hz1, hz2⟩ := info_parts' infoU
  refine wpList_make_full w hg l c 59 hop w.heap.size 73 i0 (.int .u64 0) 1 Tryd.underlying59 hi hz0 hz1 .i64 .i64 L L n hl hc hL hL (by rw [hz2]; omega) (by unfold maxLen; omega) (Nat.le_refl _) fun w' h1 h2 => h w' ?_ ((Below.refl _ w).grown h2 (Nat.le_refl _) (by simp))
  have e1 : (madeCells (Value.int IntKind.u64 0).cells (n * 1)).toList = List.replicate n (Value.int .u64 0) := by rw [Nat.mul_one]; exact toList_madeCells_one _ _
  rw [e1] at h1
  have e2 : uv (List.replicate n 0) = List.replicate n (Value.int .u64 0) := by simp [uv]
  rw [e2]
  exact own_base h1 (fun _ _ => Nat.zero_le _)
end
section
variable {w : World}
set_option maxHeartbeats 2000000 in
set_option maxRecDepth 100000 in
theorem size_any {p c cap : Nat} {size ways : Int} {cs : List Nat} (h : FlAt w p c cap size ways cs) : Calls Tryd.prog 16 #[.pointer (some ⟨p, 0, none⟩)] w fun e w' => e = .returned (.int .i64 size) ∧ w = w' := by
  have c0 := h.c0
  clear h
  go_enter Tryd.func16, Tryd.ntmps16
  go_wp2_with fail
  go_ret
  exact ⟨rfl, rfl⟩
theorem sizeNil_any : Calls Tryd.prog 16 #[.pointer none] w fun e w' => e = .returned (.int .i64 0) ∧ w = w' := by
  go_enter Tryd.func16, Tryd.ntmps16
  go_wp2_with fail
  go_ret
  exact ⟨rfl, rfl⟩
/-- How many cells a size wants. -/
def ncl (size : Int) : Nat := (size.toNat + 63) / 64
set_option maxHeartbeats 2000000 in
set_option maxRecDepth 100000 in
theorem new_any (size ways : Int) : Calls Tryd.prog 8 #[.int .i64 size, .int .i64 ways] w fun e w' => (if ft size ways = true then ∃ p, w.heap.size < p ∧ e = .returned (.tuple #[.pointer (some ⟨p, 0, none⟩), .int .i64 0]) ∧ FlAt w' p w.heap.size (ncl size) size ways (List.replicate (ncl size) 0) else e = .returned (.tuple #[.pointer none, .int .i64 2])) ∧ Below w.heap.size w w' := by
  have t1 := fits_any (w := w) size ways
  by_cases hf : ft size ways = true
  · simp only [if_pos hf]
    rw [hf] at t1
    have hfb : 1 ≤ size ∧ size ≤ 65536 ∧ 1 ≤ ways ∧ ways ≤ 8 := of_decide_eq_true hf
    obtain ⟨N, rfl⟩ := Int.eq_ofNat_of_zero_le (show 0 ≤ size by omega)
    have Hn : Hid (ncl (N : Int) = (N + 63) / 64) := ⟨by simp [ncl]⟩
    have hq : ((N : Int) + 64 - 1).tdiv 64 = ((N + 63) / 64 : Nat) := by rw [Int.tdiv_eq_ediv_of_nonneg (by omega)]; omega
    rw [Hn.out]
    have hnb : (N + 63) / 64 ≤ 2000 := by omega
    generalize (N + 63) / 64 = n at hq hnb Hn ⊢
    clear hf
    go_enter Tryd.func8, Tryd.ntmps8
    go_wp2_with (first
      | (go_at_call 26; refine t1.mono ?_; rintro e wx ⟨rfl, ex⟩; subst ex)
      | (refine wp_makeU rfl (.tmp 15) (.tmp 15) rfl n (by kernel_rfl) (by kernel_rfl) rfl (by omega) ?_; intro w2 hO2 hB2; have HO2 := Hid.mk hO2; have HB2 := Hid.mk hB2; clear hO2 hB2))
    have HS2 : Hid (w.heap.size < w2.heap.size) := ⟨(HO2.out.lt w.heap.size rfl).2⟩
    have HB3 : Hid (Below w.heap.size w (w2.alloc (.cells #[.int .i64 (N : Int), .int .i64 ways, .slice (some ⟨w.heap.size, 0, none⟩) n n] 61))) := ⟨HB2.out.alloc HB2.out.size _⟩
    have HR : Hid (FlAt (w2.alloc (.cells #[.int .i64 (N : Int), .int .i64 ways, .slice (some ⟨w.heap.size, 0, none⟩) n n] 61)) w2.heap.size w.heap.size n (N : Int) ways (List.replicate n 0)) := ⟨⟨by rw [List.length_replicate]; exact heap_alloc_new w2 _, by have := HS2.out; omega, by rw [List.length_replicate]; exact own_far HO2.out (Chg.ofBelow (X := []) ((Below.refl _ w2).alloc (Nat.le_refl _) _)) (by simp)⟩⟩
    go_ret2
    exact ⟨⟨w2.heap.size, HS2.out, rfl, HR.out⟩, HB3.out⟩
  · simp only [if_neg hf]
    rw [Bool.not_eq_true] at hf
    rw [hf] at t1
    clear hf
    go_enter Tryd.func8, Tryd.ntmps8
    go_wp2_with (go_at_call 26; refine t1.mono ?_; rintro e wx ⟨rfl, ex⟩; subst ex)
    go_ret2
    exact ⟨rfl, Below.refl _ _⟩
end
end Go.Proofs.YtiloclekhddkfabDoor
