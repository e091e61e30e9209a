/- slices.Delete of a row's last share; the heap's own Push and Pop. -/
import Derived.Test.YtjcojpddjhjhbaaC4
import Derived.BigRegion
import Derived.RegionTactic
namespace Go.Proofs.Ytjcojpddjhjhbaa
open Go.RowKit Go.Lib Go.Shelf

theorem run_clearS (w : World) (ty g o n c : Nat) (C : Array Value) (hg : w.heap[g]? = some (.cells C 27 (0, 0))) (hn : 0 < n) (hfit : o + n * 3 ≤ C.size) :
    (Builtin.clear_ #[56] ty #[.slice (some ⟨g, o, none⟩) n c]).run Try.prog w = .ok (.tuple #[]) (w.setRow g (C.toList.take o ++ List.replicate (n * 3) (Value.int .i64 0) ++ C.toList.drop (o + n * 3)).toArray) := by
  have hzc : (Builtin.zeroCells (Value.agg #[.int .i64 0, .int .i64 0, .int .i64 0]).cells n).toList = List.replicate (n * 3) (.int .i64 0) := by
    simp [Builtin.zeroCells, Value.cells]
    apply List.ext_getElem
    · simp
    · intro i h1 h2
      simp
      have h : i % 3 = 0 ∨ i % 3 = 1 ∨ i % 3 = 2 := by omega
      rcases h with h | h | h <;> simp [h]
  have hst := run_storeCells_at Try.prog g o 27 (List.replicate (n * 3) (.int .i64 0)) 0 C w hg (by simpa using hfit) (by intro v hv'; rw [List.eq_of_mem_replicate hv']; rfl)
  simp only [Nat.add_zero, List.length_replicate] at hst
  obtain ⟨m, rfl⟩ : ∃ m, n = m + 1 := ⟨n - 1, by omega⟩
  simp [Builtin.clear_, run_underlying Try.underlying56, Try.zeroValue27, hzc, hst]
section
variable {w : World}
set_option maxHeartbeats 8000000 in
set_option maxRecDepth 100000 in
theorem delete78 {base g n c : Nat} {L : List Sh} (h : OwnE sh3 3 27 w base (.slice (some ⟨g, 0, none⟩) (n + 1) c) L) (hn : L.length = n + 1) (hc : c ≤ maxLen) :
    Calls Try.prog 78 #[.slice (some ⟨g, 0, none⟩) (n + 1) c, .int .i64 (n : Int), .int .i64 ((n + 1 : Nat) : Int)] w fun e w' => e = .returned (.slice (some ⟨g, 0, none⟩) n c) ∧ OwnE sh3 3 27 w' base (.slice (some ⟨g, 0, none⟩) n c) (L.take n) ∧ Chg [g] w w' := by
  have hcx : c ≤ 9223372036854775807 := hc
  have hnc : n + 1 ≤ c := by have := (h.rd s0).shape; obtain ⟨a', c', e', h1, _⟩ := this; simp at e'; omega
  obtain ⟨m, Hm⟩ : ∃ m, Hid (n + 1 = m) := ⟨_, ⟨rfl⟩⟩
  rw [Hm.out] at h hn hnc ⊢
  have H := Hid.mk h
  have hmn : n < m := by have := Hm.out; omega
  have hmz : (n : Int) < (m : Int) := by omega
  have hne : ((n : Int) == (m : Int)) = false := by simp; omega
  have hnez : ¬ (n : Int) = (m : Int) := by omega
  clear h
  by_cases hcm : c = m
  · subst hcm
    have hne' : ¬ c = n := by omega
    go_enter Try.func78, Try.ntmps78
    go_upto_region 5 with fail
    go_region
    obtain ⟨W, HW⟩ : ∃ x, Hid (w.drew = x) := ⟨_, ⟨rfl⟩⟩
    have HC : Hid (Chg [g] w W) := ⟨by rw [← HW.out]; exact (Chg.refl _ w).drew⟩
    have HO : Hid (OwnE sh3 3 27 W base (.slice (some ⟨g, 0, none⟩) c c) L) := ⟨H.out.far (X := []) (by rw [← HW.out]; exact (Chg.refl _ w).drew) (by simp)⟩
    obtain ⟨cur, hrow, hsz, _⟩ := own_rowE HO.out
    have hcl : ∀ ty, (Builtin.clear_ #[56] ty #[.slice (some ⟨g, n * 3, none⟩) (c - n) (c - n)]).run Try.prog W = .ok (.tuple #[]) (W.setRow g (cur.toList.take (n * 3) ++ List.replicate ((c - n) * 3) (Value.int .i64 0) ++ cur.toList.drop (n * 3 + (c - n) * 3)).toArray) := fun ty => run_clearS W ty g (n * 3) (c - n) (c - n) cur hrow (by omega) (by rw [hsz]; omega)
    obtain ⟨D, HD⟩ : ∃ x, Hid ((cur.toList.take (n * 3) ++ List.replicate ((c - n) * 3) (Value.int .i64 0) ++ cur.toList.drop (n * 3 + (c - n) * 3)).toArray = x) := ⟨_, ⟨rfl⟩⟩
    rw [HD.out] at hcl
    have hls : cur.toList.length = c * 3 := by rw [Array.length_toList, hsz]
    have HDs : Hid (D.size = cur.size) := ⟨by rw [← HD.out, hsz]; simp only [List.size_toArray, List.length_append, List.length_take, List.length_replicate, List.length_drop, hls]; omega⟩
    have HDt : Hid (D.toList.take (n * 3) = cur.toList.take (n * 3)) := ⟨by rw [← HD.out]; simp only [List.append_assoc]; rw [List.take_append_of_le_length (by rw [List.length_take, hls]; omega), List.take_take, Nat.min_self]⟩
    have HOf : Hid (OwnE sh3 3 27 (W.setRow g D) base (.slice (some ⟨g, 0, none⟩) n c) (L.take n)) := ⟨own_behind (own_cut HO.out hn (by omega)) (by rw [List.length_take]; omega) hrow HDs.out HDt.out⟩
    have HCf : Hid (Chg [g] w (W.setRow g D)) := ⟨HC.out.trans ⟨rfl, rfl, rfl, by simp, fun k _ hx => setRow_other _ _ k _ (by simpa using hx)⟩⟩
    rw [HW.out]
    clear hrow hsz hls
    go_wp2_with fail
    go_ret
    exact ⟨rfl, HOf.out, HCf.out⟩
  · have hcm' : ¬ m = c := fun e => hcm e.symm
    go_enter Try.func78, Try.ntmps78
    go_upto_region 5 with fail
    go_region
    obtain ⟨W, HW⟩ : ∃ x, Hid (w.drew = x) := ⟨_, ⟨rfl⟩⟩
    have HC : Hid (Chg [g] w W) := ⟨by rw [← HW.out]; exact (Chg.refl _ w).drew⟩
    have HO : Hid (OwnE sh3 3 27 W base (.slice (some ⟨g, 0, none⟩) m c) L) := ⟨H.out.far (X := []) (by rw [← HW.out]; exact (Chg.refl _ w).drew) (by simp)⟩
    obtain ⟨cur, hrow, hsz, _⟩ := own_rowE HO.out
    have hcl : ∀ ty, (Builtin.clear_ #[56] ty #[.slice (some ⟨g, n * 3, none⟩) (m - n) (c - n)]).run Try.prog W = .ok (.tuple #[]) (W.setRow g (cur.toList.take (n * 3) ++ List.replicate ((m - n) * 3) (Value.int .i64 0) ++ cur.toList.drop (n * 3 + (m - n) * 3)).toArray) := fun ty => run_clearS W ty g (n * 3) (m - n) (c - n) cur hrow (by omega) (by rw [hsz]; omega)
    obtain ⟨D, HD⟩ : ∃ x, Hid ((cur.toList.take (n * 3) ++ List.replicate ((m - n) * 3) (Value.int .i64 0) ++ cur.toList.drop (n * 3 + (m - n) * 3)).toArray = x) := ⟨_, ⟨rfl⟩⟩
    rw [HD.out] at hcl
    have hls : cur.toList.length = c * 3 := by rw [Array.length_toList, hsz]
    have HDs : Hid (D.size = cur.size) := ⟨by rw [← HD.out, hsz]; simp only [List.size_toArray, List.length_append, List.length_take, List.length_replicate, List.length_drop, hls]; omega⟩
    have HDt : Hid (D.toList.take (n * 3) = cur.toList.take (n * 3)) := ⟨by rw [← HD.out]; simp only [List.append_assoc]; rw [List.take_append_of_le_length (by rw [List.length_take, hls]; omega), List.take_take, Nat.min_self]⟩
    have HOf : Hid (OwnE sh3 3 27 (W.setRow g D) base (.slice (some ⟨g, 0, none⟩) n c) (L.take n)) := ⟨own_behind (own_cut HO.out hn (by omega)) (by rw [List.length_take]; omega) hrow HDs.out HDt.out⟩
    have HCf : Hid (Chg [g] w (W.setRow g D)) := ⟨HC.out.trans ⟨rfl, rfl, rfl, by simp, fun k _ hx => setRow_other _ _ k _ (by simpa using hx)⟩⟩
    rw [HW.out]
    clear hrow hsz hls
    go_wp2_with fail
    go_ret
    exact ⟨rfl, HOf.out, HCf.out⟩
end
end Go.Proofs.Ytjcojpddjhjhbaa
