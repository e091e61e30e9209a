/- The taker: a number, how many, a fault that is none. -/
import Derived.Test.YtdcmagdglmmdkaaN5
import Derived.Test.YtdcmagdglmmdkaaMulti
namespace Go.Proofs.Ytdcmagdglmmdkaa
open Go.RowKit
/-- A number at a place, and the place behind it, or the error. -/
def nm (bs : List Int) (i : Int) : Except Int (Int × Int) := if (Oct.tkNum bs i).2.2 = 0 then .ok ((Oct.tkNum bs i).1, (Oct.tkNum bs i).2.1) else .error (Oct.tkNum bs i).2.2
theorem nmn_ok {bs : List Int} {i n j : Int} (hb : ∀ x ∈ bs, 0 ≤ x ∧ x < 256) (h : nm bs i = .ok (n, j)) : Oct.tkNum bs i = (n, j, 0) ∧ 0 ≤ i ∧ 0 ≤ n ∧ n ≤ 9007199254740991 ∧ i < j ∧ j ≤ bs.length := by
  unfold nm at h
  split at h
  · rename_i h0
    have := Oct.tkNum_ok bs i hb h0
    cases h
    refine ⟨?_, this⟩
    rw [← h0]
  · cases h
/-- A taker in memory: its bytes, and its place. -/
structure TkAt (w : World) (p : Nat) (v : Value) (i : Int) : Prop where
  row : w.heap[p]? = some (.cells #[v, .int .i64 i] 76 (0, 0))
theorem TkAt.lt {w : World} {p : Nat} {v : Value} {i : Int} (h : TkAt w p v i) : p < w.heap.size := (Array.getElem?_eq_some_iff.1 h.row).1
theorem TkAt.c0 {w : World} {p : Nat} {v : Value} {i : Int} (h : TkAt w p v i) : w.cell? ⟨p, 0, none⟩ = some v := by rw [cell_of_row _ _ _ _ _ _ h.row]; rfl
theorem TkAt.c1 {w : World} {p : Nat} {v : Value} {i : Int} (h : TkAt w p v i) : w.cell? ⟨p, 1, none⟩ = some (.int .i64 i) := by rw [cell_of_row _ _ _ _ _ _ h.row]; rfl
theorem TkAt.far {w w' : World} {p : Nat} {v : Value} {i : Int} {X : List Nat} (h : TkAt w p v i) (hc : Chg X w w') (hx : p ∉ X) : TkAt w' p v i := ⟨(hc.block p h.lt hx).trans h.row⟩
theorem TkAt.set {w : World} {p : Nat} {v : Value} {i : Int} (h : TkAt w p v i) (j : Int) : TkAt (w.setCell ⟨p, 1, none⟩ (.int .i64 j)) p v j := ⟨heap_setCell_same w p 1 _ 76 _ h.row⟩
theorem TkAt.fz {w : World} {p : Nat} {v : Value} {i : Int} (h : TkAt w p v i) : w.frozen? ⟨p, 1, none⟩ = false := frozen_of_row w p 1 _ 76 h.row
section
variable {w : World}
theorem stop_ok : Calls Try.prog 73 #[.int .i64 0] w fun e w' => e = .returned (.tuple #[]) ∧ w = w' := by
  go_enter Try.func73, Try.ntmps73
  go_wp2
  go_end0
  exact ⟨rfl, rfl⟩
set_option maxHeartbeats 2000000 in
set_option maxRecDepth 100000 in
theorem num_ok {p : Nat} {v : Value} {bs : List Int} {i n j : Int} (hT : TkAt w p v i) (hv : Oct.Bs w v bs) (hby : ∀ x ∈ bs, 0 ≤ x ∧ x < 256) (h : nm bs i = .ok (n, j)) : Calls Try.prog 80 #[.pointer (some ⟨p, 0, none⟩)] w fun e w' => e = .returned (.int .i64 n) ∧ TkAt w' p v j ∧ Chg [p] w w' := by
  obtain ⟨hk, _⟩ := nmn_ok hby h
  have HT : Hid (TkAt w p v i) := ⟨hT⟩
  have hb := hv
  obtain ⟨av, cv, rfl, _⟩ := hv
  obtain ⟨nb, Hnb⟩ : ∃ n, Hid (bs.length = n) := ⟨_, ⟨rfl⟩⟩
  have t1 := Oct.takeNum_any _ bs i w.drew (hb.below ⟨rfl, rfl, rfl, Nat.le_refl _, fun _ _ => rfl⟩) hby
  rw [hk] at t1
  simp only at t1
  rw [Hnb.out] at HT t1
  have hS0 : (fun w' => w'.cell? ⟨p, 0, none⟩ = some (.slice av nb cv) ∧ w'.cell? ⟨p, 1, none⟩ = some (.int .i64 i)) w.drew := ⟨HT.out.c0, HT.out.c1⟩
  have HT2 : Hid (TkAt w.drew p (.slice av nb cv) i) := ⟨HT.out.far (Chg.refl [] w).drew (by simp)⟩
  have hf := HT2.out.fz
  have hc1 := HT2.out.c1
  obtain ⟨c, hc⟩ : ∃ c, c = (0 : Int) := ⟨_, rfl⟩
  rw [← hc] at t1
  rw [Hnb.out]
  clear hT hb h hk
  go_enter Try.func80, Try.ntmps80
  go_upto_region 1 with fail
  refine wp_region_held_drew (S := (fun w' => w'.cell? ⟨p, 0, none⟩ = some (.slice av nb cv) ∧ w'.cell? ⟨p, 1, none⟩ = some (.int .i64 i))) (by kernel_rfl) hS0 (fun hS => ?_)
  refine wpAnyH_take (i := 0) (v := .pointer (some ⟨p, 0, none⟩)) rfl (by kernel_rfl) (by kernel_rfl) (by kernel_rfl) (fun _ _ _ h => h) (Or.inl ⟨by kernel_rfl, fun _ _ => by kernel_rfl⟩) hS ?_
  refine wpAnyH_take (i := 1) (v := .pointer (some ⟨p, 0, none⟩)) rfl (by kernel_rfl) (by kernel_rfl) (by kernel_rfl) (fun _ _ _ h => h) (Or.inl ⟨by kernel_rfl, fun wx hx => by go_simp⟩) hS ?_
  refine wpAnyH_take (i := 2) (v := .pointer (some ⟨p, 0, none⟩)) rfl (by kernel_rfl) (by kernel_rfl) (by kernel_rfl) (fun _ _ _ h => h) (Or.inl ⟨by kernel_rfl, fun wx hx => by go_simp⟩) hS ?_
  refine wpAnyH_take (i := 3) (v := .slice av nb cv) rfl (by kernel_rfl) (by kernel_rfl) (by kernel_rfl) (fun _ _ _ h => h) (Or.inl ⟨by kernel_rfl, fun wx hx => by obtain ⟨hx1, hx2⟩ := hx; go_simp⟩) hS ?_
  refine wpAnyH_take (i := 4) (v := .pointer (some ⟨p, 0, none⟩)) rfl (by kernel_rfl) (by kernel_rfl) (by kernel_rfl) (fun _ _ _ h => h) (Or.inl ⟨by kernel_rfl, fun _ _ => by kernel_rfl⟩) hS ?_
  refine wpAnyH_take (i := 5) (v := .pointer (some ⟨p, 0, none⟩)) rfl (by kernel_rfl) (by kernel_rfl) (by kernel_rfl) (fun _ _ _ h => h) (Or.inl ⟨by kernel_rfl, fun wx hx => by go_simp⟩) hS ?_
  refine wpAnyH_take (i := 6) (v := .pointer (some ⟨p, 1, none⟩)) rfl (by kernel_rfl) (by kernel_rfl) (by kernel_rfl) (fun _ _ _ h => h) (Or.inl ⟨by kernel_rfl, fun wx hx => by go_simp⟩) hS ?_
  refine wpAnyH_take (i := 7) (v := .int .i64 i) rfl (by kernel_rfl) (by kernel_rfl) (by kernel_rfl) (fun _ _ _ h => h) (Or.inl ⟨by kernel_rfl, fun wx hx => by obtain ⟨hx1, hx2⟩ := hx; go_simp⟩) hS ?_
  refine wpAnyH_ready (rs := [8]) (by kernel_rfl) (by simp) (AllReadyH.cons rfl (fun Kc hK => ?_) AllReadyH.nil)
  go_simp
  refine t1.mono ?_
  rintro e w5 ⟨rfl, e5⟩
  subst e5
  refine hK.out _ _ hS0 (fun hS => ?_)
  clear hK
  refine wpAnyH_take (i := 9) (v := .tuple #[.int .i64 n, .int .i64 j, .int .i64 c]) rfl (by kernel_rfl) (by kernel_rfl) (by kernel_rfl) (fun _ _ _ h => h) (Or.inl ⟨by kernel_rfl, fun _ _ => by kernel_rfl⟩) hS ?_
  refine wpAnyH_take (i := 10) (v := .int .i64 n) rfl (by kernel_rfl) (by kernel_rfl) (by kernel_rfl) (fun _ _ _ h => h) (Or.inl ⟨by kernel_rfl, fun wx hx => by go_simp⟩) hS ?_
  refine wpAnyH_take (i := 11) (v := .int .i64 j) rfl (by kernel_rfl) (by kernel_rfl) (by kernel_rfl) (fun _ _ _ h => h) (Or.inl ⟨by kernel_rfl, fun wx hx => by go_simp⟩) hS ?_
  refine wpAnyH_take (i := 12) (v := .int .i64 c) rfl (by kernel_rfl) (by kernel_rfl) (by kernel_rfl) (fun _ _ _ h => h) (Or.inl ⟨by kernel_rfl, fun wx hx => by go_simp⟩) hS ?_
  refine wpAnyH_take (i := 13) (v := .int .i64 n) rfl (by kernel_rfl) (by kernel_rfl) (by kernel_rfl) (fun _ _ _ h => h) (Or.inl ⟨by kernel_rfl, fun _ _ => by kernel_rfl⟩) hS ?_
  refine wpAnyH_take (i := 14) (v := .int .i64 j) rfl (by kernel_rfl) (by kernel_rfl) (by kernel_rfl) (fun _ _ _ h => h) (Or.inl ⟨by kernel_rfl, fun _ _ => by kernel_rfl⟩) hS ?_
  refine wpAnyH_take (i := 15) (v := .int .i64 c) rfl (by kernel_rfl) (by kernel_rfl) (by kernel_rfl) (fun _ _ _ h => h) (Or.inl ⟨by kernel_rfl, fun _ _ => by kernel_rfl⟩) hS ?_
  refine wpAnyH_done (by kernel_rfl) ?_ _
  clear hS hS0
  subst hc
  go_simp
  go_wp2_with (go_at_call 73; refine (stop_ok (w := w.drew)).mono ?_; rintro e w6 ⟨rfl, e6⟩; subst e6)
  go_ret
  exact ⟨rfl, HT2.out.set j, (Chg.refl [p] w).drew.setCell (.inl (by simp)) _⟩
theorem count_ok {p : Nat} {v : Value} {bs : List Int} {i n j : Int} (m : Int) (hT : TkAt w p v i) (hv : Oct.Bs w v bs) (hby : ∀ x ∈ bs, 0 ≤ x ∧ x < 256) (h : nm bs i = .ok (n, j)) (hm : n ≤ m) : Calls Try.prog 72 #[.pointer (some ⟨p, 0, none⟩), .int .i64 m] w fun e w' => e = .returned (.int .i64 n) ∧ TkAt w' p v j ∧ Chg [p] w w' := by
  have t := num_ok hT hv hby h
  have hm' : ¬ m < n := by omega
  clear hT hv h
  go_enter Try.func72, Try.ntmps72
  go_wp2_with (go_at_call 80; refine t.mono ?_; rintro e w2 ⟨rfl, hT2, hc2⟩; clear t)
  go_ret
  exact ⟨rfl, hT2, hc2⟩
set_option maxHeartbeats 2000000 in
set_option maxRecDepth 100000 in
theorem ticked_ok {p fb : Nat} {v : Value} {bs : List Int} {i n j : Int} (hT : TkAt w p v i) (hv : Oct.Bs w v bs) (hby : ∀ x ∈ bs, 0 ≤ x ∧ x < 256) (h : nm bs i = .ok (n, j)) (hf : w.heap[fb]? = some (.cells (tk 0) 35 (0, 0))) : Calls Try.prog 66 #[.pointer (some ⟨p, 0, none⟩), .pointer (some ⟨fb, 0, none⟩)] w fun e w' => e = .returned (.tuple #[]) ∧ TkAt w' p v j ∧ w'.heap[fb]? = some (.cells (tk n) 35 (0, 0)) ∧ Chg [p, fb] w w' := by
  have hne : fb ≠ p := fun e => by have := hT.row; rw [← e, hf] at this; simp at this
  have t := num_ok hT hv hby h
  have HF : Hid (w.heap[fb]? = some (.cells (tk 0) 35 (0, 0))) := ⟨hf⟩
  have Hne : Hid (fb ≠ p) := ⟨hne⟩
  clear hT hv h hf hne
  go_enter Try.func66, Try.ntmps66
  go_wp2_with (go_at_call 80; refine t.mono ?_; rintro e w2 ⟨rfl, hT2, hc2⟩; clear t; have HT2 : Hid (TkAt w2 p v j) := ⟨hT2⟩; have HC2 : Hid (Chg [p] w w2) := ⟨hc2⟩; have HF2 : Hid (w2.heap[fb]? = some (.cells (tk 0) 35 (0, 0))) := ⟨(hc2.block fb (Array.getElem?_eq_some_iff.1 HF.out).1 (by simpa using Hne.out)).trans HF.out⟩; have k2 : w2.cell? ⟨fb, 6, none⟩ = some (.int .i64 0) := (cell_of_row _ _ _ _ _ _ HF2.out).trans rfl; have z2 : w2.frozen? ⟨fb, 6, none⟩ = false := frozen_of_row _ _ _ _ _ HF2.out; clear hT2 hc2)
  go_end0
  refine ⟨rfl, ?_, heap_setCell_same w2 fb 6 _ 35 _ HF2.out, ?_⟩
  · exact HT2.out.far ((Chg.refl [fb] w2).setCell (.inl (by simp)) _) (by simpa using fun e => Hne.out e.symm)
  · exact (HC2.out.mono (by simp)).setCell (.inl (by simp)) _
end
end Go.Proofs.Ytdcmagdglmmdkaa
