/- Package disk's New; slices.Clone of pages; Fork. -/
import Derived.Test.YtmcikhdfpmkpnaaD14
import Derived.Laws.MakeOwn
namespace Go.Proofs.Ytmcikhdfpmkpnaa
open Go.RowKit Go.Maps Go.Sort Go.Shelf

theorem info68b : (Try.prog.info? 68).map (fun i => (i.zero, i.size, i.bytes)) = some (some (.agg (pa zp)), 128, 128) := by
  rw [zp_arr]; kernel_rfl

theorem newdisk_bad (n : Int) (w : World) (h : n < 1 ∨ 4096 < n) : Calls Try.prog 9 #[.int .i64 n] w fun e w' => e = .returned (.tuple #[.pointer none, .int .i64 2]) ∧ w = w' := by
  go_enter Try.func9, Try.ntmps9
  by_cases h1 : n < 1
  · go_wp2
    go_ret2
    exact ⟨rfl, rfl⟩
  · have h2 : 4096 < n := by omega
    go_wp2
    go_ret2
    exact ⟨rfl, rfl⟩

def newD (n : Nat) : Dk := { S := List.replicate n (zp, none), trip := 0, down := false, life := 0 }
theorem fl_zeros (n : Nat) : fl (List.replicate n zp) = List.replicate (n * 128) (.int .u8 0) := by
  induction n with
  | zero => rfl
  | succ n ih =>
    rw [List.replicate_succ, fl_cons, ih, show (n + 1) * 128 = 128 + n * 128 by omega, ← List.replicate_append_replicate]
    congr 1
theorem dirt_new (n i : Nat) : dirt (List.replicate n (zp, none)) i = false := by
  unfold dirt sec
  rw [List.getD, List.getElem?_replicate]
  split <;> rfl
theorem dl_new (n : Nat) : dl (List.replicate n (zp, none)) = [] := dl_nil_of fun i _ => dirt_new n i

theorem made_zeros (m : Nat) : (madeCells (pa zp) m).toList = List.replicate m (.int .u8 0) := by
  rw [zp_arr]
  unfold madeCells
  apply List.ext_getElem?
  intro i
  by_cases hi : i < m
  · have hz : i % 128 < 128 := Nat.mod_lt _ (by omega)
    simp [hi, hz]
  · simp [hi]
theorem rows_of_owns {w : World} {base g n cap : Nat} {ps : List (List Int)} (h : w.ownsRow base 68 128 (.slice (some ⟨g, 0, none⟩) n cap) n (fl ps)) (hp : P128 ps) (hl : ps.length = n) : Rows w g cap 68 ps ∧ base ≤ g := by
  rcases h.2 with ⟨h', _⟩ | ⟨g', cap', cur, h', hb, hh, h1, h2, h3, h4⟩
  · simp at h'
  · simp only [Value.slice.injEq, Option.some.injEq, Addr.mk.injEq] at h'
    obtain ⟨⟨rfl, _, _⟩, _, rfl⟩ := h'
    refine ⟨⟨hp, cur, cur.toList.drop (n * 128), hh, ?_, h3, by omega, h2⟩, hb⟩
    rw [← h4, List.take_append_drop]

def NewDisk (w : World) (n : Nat) (e : Ending) (w' : World) : Prop := ∃ p g bm, e = .returned (.tuple #[.pointer (some ⟨p, 0, none⟩), .int .i64 0]) ∧ At w' p g bm w.heap.size (newD n) ∧ Below w.heap.size w w'
set_option maxHeartbeats 1000000 in
set_option maxRecDepth 100000 in
theorem newdisk_any (n : Nat) (w : World) (h0 : 1 ≤ n) (h1 : n ≤ 4096) : Calls Try.prog 9 #[.int .i64 (n : Int)] w (NewDisk w n) := by
  have a1 : ¬ (n : Int) < 1 := by omega
  have a2 : ¬ (4096 : Int) < (n : Int) := by omega
  obtain ⟨i0, hi, hz0, hz1, hz2⟩ := info_parts' info68b
  have hmk : ∀ W : World, (Instr.makeMap 61 none).run Try.prog W = .ok (.map (some W.heap.size)) (W.alloc (.map #[] 0)) := fun W => run_makeMap 61 W
  go_enter Try.func9, Try.ntmps9
  go_wp2_with (at_make; refine wpList_make_full w rfl (.tmp 10) (.tmp 10) 60 rfl w.heap.size 68 i0 (.agg (pa zp)) 128 Try.underlying60 hi hz0 hz1 .i64 .i64 _ _ n rfl rfl rfl rfl (by rw [hz2]; omega) (by unfold maxLen; omega) (Nat.le_refl _) ?_; intro w1 hown hgr)
  go_ret2
  have e1 : (madeCells (Value.agg (pa zp)).cells (n * 128)).toList = fl (List.replicate n zp) := by
    rw [fl_zeros]; exact made_zeros _
  rw [e1] at hown
  obtain ⟨hR, _⟩ := rows_of_owns hown (fun q hq => by rw [(List.mem_replicate.1 hq).2]; rfl) (by simp)
  have hs1 := hgr.size
  have hgl := hR.lt
  have hb1 : Below w.heap.size w w1 := ⟨hgr.os, hgr.tape, hgr.output, hgr.size, fun k hk => hgr.block k hk (by simp)⟩
  refine ⟨w1.heap.size + 1, w.heap.size, w1.heap.size, rfl, ⟨n, 0, 0, .map [], ?_, ?_, ?_, Dirt.empty (fun i _ => dirt_new n i), ?_, ?_, fun _ => rfl, by omega, by omega, Nat.le_refl _, hs1⟩, ?_⟩
  · have := heap_alloc_new (w1.alloc (.map #[] 0)) (.cells #[.slice (some ⟨w.heap.size, 0, none⟩) n n, .map (some w1.heap.size), .int .i64 0, .bool false, .int .i64 0] 63)
    rw [size_alloc] at this
    simpa [newD] using this
  · have e2 : (newD n).S.map (·.1) = List.replicate n zp := by simp [newD]
    rw [e2]
    exact hR.kept (by rw [heap_alloc_old _ _ _ (by simp; omega), heap_alloc_old _ _ _ hgl])
  · exact (World.ownsMap_made w1 Try.prog 3 self).alloc _
  · intro s hs
    simp only [newD] at hs
    rw [(List.mem_replicate.1 hs).2]; exact ok_zp
  · simpa [newD] using h1
  · exact (hb1.alloc hs1 _).alloc (by simp; omega) _
end Go.Proofs.Ytmcikhdfpmkpnaa
