/- Package extent's New. -/
import Derived.Test.YtcmibcmndiplbabX8
namespace Go.Proofs.Ytcmibcmndiplbab
open Go.RowKit Go.Lib Go.Shelf

set_option maxHeartbeats 2000000 in
theorem new_bad (f t : Int) (w : World) (h : f < 0 ∨ t < f ∨ 4096 < t) : Calls Try.prog 8 #[.int .i64 f, .int .i64 t] w fun e w' => e = .returned (.tuple #[.pointer none, .int .i64 2]) ∧ w' = w := by
  go_enter Try.func8, Try.ntmps8
  by_cases h1 : f < 0
  · go_wp2
    go_ret2
    exact ⟨rfl, rfl⟩
  · by_cases h2 : t < f
    · go_wp2
      go_ret2
      exact ⟨rfl, rfl⟩
    · have h3 : 4096 < t := by omega
      go_wp2
      go_ret2
      exact ⟨rfl, rfl⟩

theorem Row.own {w : World} {b base cap : Nat} {cs : Array Value} {l : List (Int × Int)} (h : Row w b cs) (hb : base ≤ b) (hs : cs.size = cap * 2) (hl : l.length ≤ cap) (hm : cap ≤ maxLen) (ht : cs.toList.take (l.length * 2) = flat2 l) : Own2 w base 57 (.slice (some ⟨b, 0, none⟩) l.length cap) l :=
  ⟨flat2_length l, .inr ⟨b, cap, cs, rfl, hb, h, hl, hm, hs, ht⟩⟩

set_option maxHeartbeats 2000000 in
theorem new_n (f t : Int) (w : World) (h0 : 0 ≤ f) (h1 : f < t) (h2 : t ≤ 4096) : Calls Try.prog 8 #[.int .i64 f, .int .i64 t] w fun e w' => ∃ p b, e = .returned (.tuple #[.pointer (some ⟨p, 0, none⟩), .int .i64 0]) ∧ MapAt w' p f t w.heap.size b 1 [(f, t)] ∧ Below w.heap.size w w' := by
  have hft : (f == t) = false := by simp; omega
  have n2 : ¬ t < f := by omega
  have n1 : ¬ f < 0 := by omega
  have n3 : ¬ 4096 < t := by omega
  have hsz : (w.alloc (.cells #[.int .i64 f, .int .i64 t] 57)).heap.size = w.heap.size + 1 := by simp
  have hrow : Row (((w.alloc (.cells #[.int .i64 f, .int .i64 t] 57)).alloc (.cells #[.int .i64 f, .int .i64 t] 57)).drew) (w.heap.size + 1) #[.int .i64 f, .int .i64 t] := by
    have := heap_alloc_new (w.alloc (.cells #[.int .i64 f, .int .i64 t] 57)) (.cells #[.int .i64 f, .int .i64 t] 57)
    rw [hsz] at this
    exact this
  have HB : Hid (Below w.heap.size w (((w.alloc (.cells #[.int .i64 f, .int .i64 t] 57)).alloc (.cells #[.int .i64 f, .int .i64 t] 57)).drew)) := ⟨(((Below.refl _ w).alloc (Nat.le_refl _) _).alloc (by simp) _).drew⟩
  have hcon := del_n f t hft (w.heap.size + 1) _ hrow
  clear hrow hsz
  go_enter Try.func8, Try.ntmps8
  go_wp2
  go_region_with (go_at_call 23
                  go_loud (
                  refine hcon.mono ?_
                  rintro e w' ⟨rfl, hr, hg⟩
                  have k0 : w'.cell? ⟨w.heap.size, 0, none⟩ = some (.int .i64 f) := hg.cell (show World.cell? (((w.alloc (.cells #[.int .i64 f, .int .i64 t] 57)).alloc (.cells #[.int .i64 f, .int .i64 t] 57)).drew) ⟨w.heap.size, 0, none⟩ = some (.int .i64 f) by simp) (by simp)
                  have k1 : w'.cell? ⟨w.heap.size, 1, none⟩ = some (.int .i64 t) := hg.cell (show World.cell? (((w.alloc (.cells #[.int .i64 f, .int .i64 t] 57)).alloc (.cells #[.int .i64 f, .int .i64 t] 57)).drew) ⟨w.heap.size, 1, none⟩ = some (.int .i64 t) by simp) (by simp)
                  have HR : Hid (Row w' (w.heap.size + 1) #[.int .i64 f, .int .i64 t]) := ⟨hr⟩
                  have HG : Hid (Below w.heap.size w w') := ⟨below_of_grown HB.out hg (by omega) (Nat.le_refl _)⟩
                  have hsz' : w.heap.size + 2 ≤ w'.heap.size := by have := hr.lt; omega
                  clear hr hg hcon))
  all_goals (go_wp2; go_ret2)
  all_goals (
    refine ⟨_, w.heap.size + 1, rfl, ⟨heap_alloc_new _ _, ?_, by simp, by have := HG.out.size; omega, by omega⟩, HG.out.alloc HG.out.size _⟩
    exact Row.own (HR.out.below ((Below.refl _ _).alloc (Nat.le_refl _) _)) (by omega) rfl (Nat.le_refl _) (by decide) rfl)

set_option maxHeartbeats 2000000 in
theorem new_e (f : Int) (w : World) (h0 : 0 ≤ f) (h2 : f ≤ 4096) : Calls Try.prog 8 #[.int .i64 f, .int .i64 f] w fun e w' => ∃ p b, e = .returned (.tuple #[.pointer (some ⟨p, 0, none⟩), .int .i64 0]) ∧ MapAt w' p f f w.heap.size b 1 [] ∧ Below w.heap.size w w' := by
  have n2 : ¬ f < f := by omega
  have n1 : ¬ f < 0 := by omega
  have n3 : ¬ 4096 < f := by omega
  have hsz : (w.alloc (.cells #[.int .i64 f, .int .i64 f] 57)).heap.size = w.heap.size + 1 := by simp
  have hrow : Row (((w.alloc (.cells #[.int .i64 f, .int .i64 f] 57)).alloc (.cells #[.int .i64 f, .int .i64 f] 57)).drew) (w.heap.size + 1) #[.int .i64 f, .int .i64 f] := by
    have := heap_alloc_new (w.alloc (.cells #[.int .i64 f, .int .i64 f] 57)) (.cells #[.int .i64 f, .int .i64 f] 57)
    rw [hsz] at this
    exact this
  have HB : Hid (Below w.heap.size w (((w.alloc (.cells #[.int .i64 f, .int .i64 f] 57)).alloc (.cells #[.int .i64 f, .int .i64 f] 57)).drew)) := ⟨(((Below.refl _ w).alloc (Nat.le_refl _) _).alloc (by simp) _).drew⟩
  have hcon := del_e f (w.heap.size + 1) _ hrow
  clear hrow hsz
  go_enter Try.func8, Try.ntmps8
  go_wp2
  go_region_with (go_at_call 23
                  go_loud (
                  refine hcon.mono ?_
                  rintro e w' ⟨rfl, hr, hg⟩
                  have k0 : w'.cell? ⟨w.heap.size, 0, none⟩ = some (.int .i64 f) := hg.cell (show World.cell? (((w.alloc (.cells #[.int .i64 f, .int .i64 f] 57)).alloc (.cells #[.int .i64 f, .int .i64 f] 57)).drew) ⟨w.heap.size, 0, none⟩ = some (.int .i64 f) by simp) (by simp)
                  have k1 : w'.cell? ⟨w.heap.size, 1, none⟩ = some (.int .i64 f) := hg.cell (show World.cell? (((w.alloc (.cells #[.int .i64 f, .int .i64 f] 57)).alloc (.cells #[.int .i64 f, .int .i64 f] 57)).drew) ⟨w.heap.size, 1, none⟩ = some (.int .i64 f) by simp) (by simp)
                  have HR : Hid (Row w' (w.heap.size + 1) #[.int .i64 0, .int .i64 0]) := ⟨hr⟩
                  have HG : Hid (Below w.heap.size w w') := ⟨below_of_grown HB.out hg (by omega) (Nat.le_refl _)⟩
                  have hsz' : w.heap.size + 2 ≤ w'.heap.size := by have := hr.lt; omega
                  clear hr hg hcon))
  all_goals (go_wp2; go_ret2)
  all_goals (
    refine ⟨_, w.heap.size + 1, rfl, ⟨heap_alloc_new _ _, ?_, by simp, by have := HG.out.size; omega, by omega⟩, HG.out.alloc HG.out.size _⟩
    exact Row.own (HR.out.below ((Below.refl _ _).alloc (Nat.le_refl _) _)) (by omega) rfl (Nat.zero_le _) (by decide) rfl)
end Go.Proofs.Ytcmibcmndiplbab
