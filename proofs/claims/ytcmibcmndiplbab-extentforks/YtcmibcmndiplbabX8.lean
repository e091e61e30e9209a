/- slices.DeleteFunc, of the empty spans, over rows of one and of two spans: case by case. -/
import Derived.Test.YtcmibcmndiplbabX7
namespace Go.Proofs.Ytcmibcmndiplbab
open Go.RowKit Go.Lib Go.Shelf

theorem empty_eq (x y : Int) (W : World) : Calls Try.prog 24 #[.agg #[.int .i64 x, .int .i64 y]] W fun e w' => e = .returned (.bool (x == y)) ∧ w' = W.alloc (.cells #[.int .i64 x, .int .i64 y] 57) := by
  go_enter Try.func24, Try.ntmps24
  go_wp2
  go_ret
  exact ⟨rfl, rfl⟩


set_option maxHeartbeats 2000000 in
theorem del_e (a : Int)  (b : Nat) (w : World) (h : Row w b #[.int .i64 a, .int .i64 a]) :
    Calls Try.prog 23 #[.slice (some ⟨b, 0, none⟩) 1 1, .func (.func 24) #[] #[]] w fun e w' => e = .returned (.slice (some ⟨b, 0, none⟩) 0 1) ∧ Row w' b #[.int .i64 0, .int .i64 0] ∧ w.grownBy w' (some b) := by
  have hs : SpAt w b 1 [(a, a)] := ⟨by simp, by simp, h.lt, fun j hj => by
    obtain rfl : j = 0 := by simp at hj; omega
    exact ⟨h.cell 0, h.cell 1⟩⟩
  have hcon := index_any 24 #[] #[] (fun x => x.1 == x.2) (enters_of Try.func24 (by kernel_rfl) rfl) b 1 [(a, a)] w hs (pred_empty w)
  have e : idx (fun x => x.1 == x.2) [(a, a)] = 0 := by simp [idx, List.findIdx?_cons]
  rw [e] at hcon
  change Calls Try.prog 28 #[.slice (some ⟨b, 0, none⟩) 1 1, _] _ _ at hcon
  have HR : Hid (Row w b #[.int .i64 a, .int .i64 a]) := ⟨h⟩
  clear h hs e
  go_enter Try.func23, Try.ntmps23
  go_wp2_with (go_at_call 28; refine hcon.mono ?_; rintro e w1 ⟨rfl, hb⟩)
  have h1 : Row w1 b #[.int .i64 a, .int .i64 a] := HR.out.below hb
  have H1 : Hid (Row w1 b #[.int .i64 a, .int .i64 a]) := ⟨h1⟩
  have hcl := run_clear2 w1 b 0 1 1 0 (by decide) (fun j hj => by rw [h1.cell]; match j, hj with | 0, _ => rfl | 1, _ => rfl | j + 2, hj => omega) h1.frozen
  clear h1 hcon
  go_rounds 1
  go_wp2
  go_ret
  refine ⟨rfl, ?_, grown_trans (grown_of_below hb) (grown_trans (grown_set _ _ _ _) (grown_set _ _ _ _))⟩
  exact (H1.out.set 0 (.int .i64 0)).set 1 (.int .i64 0)

set_option maxHeartbeats 2000000 in
theorem del_n (a c : Int) (ha : (a == c) = false) (b : Nat) (w : World) (h : Row w b #[.int .i64 a, .int .i64 c]) :
    Calls Try.prog 23 #[.slice (some ⟨b, 0, none⟩) 1 1, .func (.func 24) #[] #[]] w fun e w' => e = .returned (.slice (some ⟨b, 0, none⟩) 1 1) ∧ Row w' b #[.int .i64 a, .int .i64 c] ∧ w.grownBy w' (some b) := by
  have hs : SpAt w b 1 [(a, c)] := ⟨by simp, by simp, h.lt, fun j hj => by
    obtain rfl : j = 0 := by simp at hj; omega
    exact ⟨h.cell 0, h.cell 1⟩⟩
  have hcon := index_any 24 #[] #[] (fun x => x.1 == x.2) (enters_of Try.func24 (by kernel_rfl) rfl) b 1 [(a, c)] w hs (pred_empty w)
  have e : idx (fun x => x.1 == x.2) [(a, c)] = -1 := by simp [idx, List.findIdx?_cons, ha]
  rw [e] at hcon
  change Calls Try.prog 28 #[.slice (some ⟨b, 0, none⟩) 1 1, _] _ _ at hcon
  have HR : Hid (Row w b #[.int .i64 a, .int .i64 c]) := ⟨h⟩
  clear h hs e
  go_enter Try.func23, Try.ntmps23
  go_wp2_with (go_at_call 28; refine hcon.mono ?_; rintro e w1 ⟨rfl, hb⟩)
  go_ret
  exact ⟨rfl, HR.out.below hb, grown_of_below hb⟩

set_option maxHeartbeats 2000000 in
theorem del_nn (a c d f : Int) (ha : (a == c) = false) (hd : (d == f) = false) (b : Nat) (w : World) (h : Row w b #[.int .i64 a, .int .i64 c, .int .i64 d, .int .i64 f]) :
    Calls Try.prog 23 #[.slice (some ⟨b, 0, none⟩) 2 2, .func (.func 24) #[] #[]] w fun e w' => e = .returned (.slice (some ⟨b, 0, none⟩) 2 2) ∧ Row w' b #[.int .i64 a, .int .i64 c, .int .i64 d, .int .i64 f] ∧ w.grownBy w' (some b) := by
  have hs : SpAt w b 2 [(a, c), (d, f)] := ⟨by simp, by simp, h.lt, fun j hj => by
    match j, hj with
    | 0, _ => exact ⟨h.cell 0, h.cell 1⟩
    | 1, _ => exact ⟨h.cell 2, h.cell 3⟩
    | j + 2, hj => exact absurd hj (by show ¬ j + 2 < 2; omega)⟩
  have hcon := index_any 24 #[] #[] (fun x => x.1 == x.2) (enters_of Try.func24 (by kernel_rfl) rfl) b 2 [(a, c), (d, f)] w hs (pred_empty w)
  have e : idx (fun x => x.1 == x.2) [(a, c), (d, f)] = -1 := by simp [idx, List.findIdx?_cons, ha, hd]
  rw [e] at hcon
  change Calls Try.prog 28 #[.slice (some ⟨b, 0, none⟩) 2 2, _] _ _ at hcon
  have HR : Hid (Row w b #[.int .i64 a, .int .i64 c, .int .i64 d, .int .i64 f]) := ⟨h⟩
  clear h hs e
  go_enter Try.func23, Try.ntmps23
  go_wp2_with (go_at_call 28; refine hcon.mono ?_; rintro e w1 ⟨rfl, hb⟩)
  go_ret
  exact ⟨rfl, HR.out.below hb, grown_of_below hb⟩

set_option maxHeartbeats 2000000 in
theorem del_ne (a c d : Int) (ha : (a == c) = false) (b : Nat) (w : World) (h : Row w b #[.int .i64 a, .int .i64 c, .int .i64 d, .int .i64 d]) :
    Calls Try.prog 23 #[.slice (some ⟨b, 0, none⟩) 2 2, .func (.func 24) #[] #[]] w fun e w' => e = .returned (.slice (some ⟨b, 0, none⟩) 1 2) ∧ Row w' b #[.int .i64 a, .int .i64 c, .int .i64 0, .int .i64 0] ∧ w.grownBy w' (some b) := by
  have hs : SpAt w b 2 [(a, c), (d, d)] := ⟨by simp, by simp, h.lt, fun j hj => by
    match j, hj with
    | 0, _ => exact ⟨h.cell 0, h.cell 1⟩
    | 1, _ => exact ⟨h.cell 2, h.cell 3⟩
    | j + 2, hj => exact absurd hj (by show ¬ j + 2 < 2; omega)⟩
  have hcon := index_any 24 #[] #[] (fun x => x.1 == x.2) (enters_of Try.func24 (by kernel_rfl) rfl) b 2 [(a, c), (d, d)] w hs (pred_empty w)
  have e : idx (fun x => x.1 == x.2) [(a, c), (d, d)] = 1 := by simp [idx, List.findIdx?_cons, ha]
  rw [e] at hcon
  change Calls Try.prog 28 #[.slice (some ⟨b, 0, none⟩) 2 2, _] _ _ at hcon
  have HR : Hid (Row w b #[.int .i64 a, .int .i64 c, .int .i64 d, .int .i64 d]) := ⟨h⟩
  clear h hs e
  go_enter Try.func23, Try.ntmps23
  go_wp2_with (go_at_call 28; refine hcon.mono ?_; rintro e w1 ⟨rfl, hb⟩)
  have h1 : Row w1 b #[.int .i64 a, .int .i64 c, .int .i64 d, .int .i64 d] := HR.out.below hb
  have H1 : Hid (Row w1 b #[.int .i64 a, .int .i64 c, .int .i64 d, .int .i64 d]) := ⟨h1⟩
  have hcl := run_clear2 w1 b 2 1 1 0 (by decide) (fun j hj => by rw [h1.cell]; match j, hj with | 0, _ => rfl | 1, _ => rfl | j + 2, hj => omega) h1.frozen
  clear h1 hcon
  go_rounds 1
  go_wp2
  go_ret
  refine ⟨rfl, ?_, grown_trans (grown_of_below hb) (grown_trans (grown_set _ _ _ _) (grown_set _ _ _ _))⟩
  exact (H1.out.set 2 (.int .i64 0)).set 3 (.int .i64 0)

set_option maxHeartbeats 2000000 in
theorem del_en (a d f : Int) (hd : (d == f) = false) (b : Nat) (w : World) (h : Row w b #[.int .i64 a, .int .i64 a, .int .i64 d, .int .i64 f]) :
    Calls Try.prog 23 #[.slice (some ⟨b, 0, none⟩) 2 2, .func (.func 24) #[] #[]] w fun e w' => e = .returned (.slice (some ⟨b, 0, none⟩) 1 2) ∧ Row w' b #[.int .i64 d, .int .i64 f, .int .i64 0, .int .i64 0] ∧ w.grownBy w' (some b) := by
  have hs : SpAt w b 2 [(a, a), (d, f)] := ⟨by simp, by simp, h.lt, fun j hj => by
    match j, hj with
    | 0, _ => exact ⟨h.cell 0, h.cell 1⟩
    | 1, _ => exact ⟨h.cell 2, h.cell 3⟩
    | j + 2, hj => exact absurd hj (by show ¬ j + 2 < 2; omega)⟩
  have hcon := index_any 24 #[] #[] (fun x => x.1 == x.2) (enters_of Try.func24 (by kernel_rfl) rfl) b 2 [(a, a), (d, f)] w hs (pred_empty w)
  have e : idx (fun x => x.1 == x.2) [(a, a), (d, f)] = 0 := by simp [idx, List.findIdx?_cons]
  rw [e] at hcon
  change Calls Try.prog 28 #[.slice (some ⟨b, 0, none⟩) 2 2, _] _ _ at hcon
  have HR : Hid (Row w b #[.int .i64 a, .int .i64 a, .int .i64 d, .int .i64 f]) := ⟨h⟩
  clear h hs e
  go_enter Try.func23, Try.ntmps23
  go_wp2_with (go_at_call 28; refine hcon.mono ?_; rintro e w1 ⟨rfl, hb⟩)
  have h1 : Row w1 b #[.int .i64 a, .int .i64 a, .int .i64 d, .int .i64 f] := HR.out.below hb
  have H1 : Hid (Row w1 b #[.int .i64 a, .int .i64 a, .int .i64 d, .int .i64 f]) := ⟨h1⟩
  have c2 : w1.cell? ⟨b, 2, none⟩ = some (.int .i64 d) := h1.cell 2
  have c3 : w1.cell? ⟨b, 3, none⟩ = some (.int .i64 f) := h1.cell 3
  have c0 : w1.cell? ⟨b, 0, none⟩ = some (.int .i64 a) := h1.cell 0
  have c1 : w1.cell? ⟨b, 1, none⟩ = some (.int .i64 a) := h1.cell 1
  have f0 := h1.frozen 0
  have f1 := h1.frozen 1
  have hbl := h1.lt
  have hne : b ≠ w1.heap.size := by omega
  have hne' : w1.heap.size ≠ b := by omega
  have hne1 : b ≠ w1.heap.size + 1 := by omega
  have h2 : Row ((((w1.setCell ⟨b, 0, none⟩ (.int .i64 d)).setCell ⟨b, 1, none⟩ (.int .i64 f)).alloc (.cells #[.int .i64 d, .int .i64 f] 57)).alloc (.cells #[.int .i64 d, .int .i64 f] 57)) b #[.int .i64 d, .int .i64 f, .int .i64 d, .int .i64 f] := ((h1.set 0 _).set 1 _).below (((Below.refl _ _).alloc (Nat.le_refl _) _).alloc (by simp) _)
  have H2 : Hid (Row ((((w1.setCell ⟨b, 0, none⟩ (.int .i64 d)).setCell ⟨b, 1, none⟩ (.int .i64 f)).alloc (.cells #[.int .i64 d, .int .i64 f] 57)).alloc (.cells #[.int .i64 d, .int .i64 f] 57)) b #[.int .i64 d, .int .i64 f, .int .i64 d, .int .i64 f]) := ⟨h2⟩
  have hcl := run_clear2 ((((w1.setCell ⟨b, 0, none⟩ (.int .i64 d)).setCell ⟨b, 1, none⟩ (.int .i64 f)).alloc (.cells #[.int .i64 d, .int .i64 f] 57)).alloc (.cells #[.int .i64 d, .int .i64 f] 57)) b 2 1 1 0 (by decide) (fun j hj => by rw [h2.cell]; match j, hj with | 0, _ => rfl | 1, _ => rfl | j + 2, hj => omega) h2.frozen
  clear h1 h2 hcon
  go_rounds 2
  go_wp2
  go_ret
  refine ⟨rfl, ?_, grown_trans (grown_of_below hb) (grown_trans (grown_set _ _ _ _) (grown_trans (grown_set _ _ _ _) (grown_trans (grown_of_below (((Below.refl _ _).alloc (Nat.le_refl _) _).alloc (by simp) _)) (grown_trans (grown_set _ _ _ _) (grown_set _ _ _ _)))))⟩
  exact (H2.out.set 2 (.int .i64 0)).set 3 (.int .i64 0)

set_option maxHeartbeats 2000000 in
theorem del_ee (a d : Int)  (b : Nat) (w : World) (h : Row w b #[.int .i64 a, .int .i64 a, .int .i64 d, .int .i64 d]) :
    Calls Try.prog 23 #[.slice (some ⟨b, 0, none⟩) 2 2, .func (.func 24) #[] #[]] w fun e w' => e = .returned (.slice (some ⟨b, 0, none⟩) 0 2) ∧ Row w' b #[.int .i64 0, .int .i64 0, .int .i64 0, .int .i64 0] ∧ w.grownBy w' (some b) := by
  have hs : SpAt w b 2 [(a, a), (d, d)] := ⟨by simp, by simp, h.lt, fun j hj => by
    match j, hj with
    | 0, _ => exact ⟨h.cell 0, h.cell 1⟩
    | 1, _ => exact ⟨h.cell 2, h.cell 3⟩
    | j + 2, hj => exact absurd hj (by show ¬ j + 2 < 2; omega)⟩
  have hcon := index_any 24 #[] #[] (fun x => x.1 == x.2) (enters_of Try.func24 (by kernel_rfl) rfl) b 2 [(a, a), (d, d)] w hs (pred_empty w)
  have e : idx (fun x => x.1 == x.2) [(a, a), (d, d)] = 0 := by simp [idx, List.findIdx?_cons]
  rw [e] at hcon
  change Calls Try.prog 28 #[.slice (some ⟨b, 0, none⟩) 2 2, _] _ _ at hcon
  have HR : Hid (Row w b #[.int .i64 a, .int .i64 a, .int .i64 d, .int .i64 d]) := ⟨h⟩
  clear h hs e
  go_enter Try.func23, Try.ntmps23
  go_wp2_with (go_at_call 28; refine hcon.mono ?_; rintro e w1 ⟨rfl, hb⟩)
  have h1 : Row w1 b #[.int .i64 a, .int .i64 a, .int .i64 d, .int .i64 d] := HR.out.below hb
  have H1 : Hid (Row w1 b #[.int .i64 a, .int .i64 a, .int .i64 d, .int .i64 d]) := ⟨h1⟩
  have c2 : w1.cell? ⟨b, 2, none⟩ = some (.int .i64 d) := h1.cell 2
  have c3 : w1.cell? ⟨b, 3, none⟩ = some (.int .i64 d) := h1.cell 3
  have c0 : w1.cell? ⟨b, 0, none⟩ = some (.int .i64 a) := h1.cell 0
  have c1 : w1.cell? ⟨b, 1, none⟩ = some (.int .i64 a) := h1.cell 1
  have f0 := h1.frozen 0
  have f1 := h1.frozen 1
  have hbl := h1.lt
  have hne : b ≠ w1.heap.size := by omega
  have hne' : w1.heap.size ≠ b := by omega
  have hne1 : b ≠ w1.heap.size + 1 := by omega
  have h2 : Row ((w1.alloc (.cells #[.int .i64 d, .int .i64 d] 57)).alloc (.cells #[.int .i64 d, .int .i64 d] 57)) b #[.int .i64 a, .int .i64 a, .int .i64 d, .int .i64 d] := h1.below (((Below.refl _ w1).alloc (Nat.le_refl _) _).alloc (by simp) _)
  have H2 : Hid (Row ((w1.alloc (.cells #[.int .i64 d, .int .i64 d] 57)).alloc (.cells #[.int .i64 d, .int .i64 d] 57)) b #[.int .i64 a, .int .i64 a, .int .i64 d, .int .i64 d]) := ⟨h2⟩
  have hcl := run_clear2 ((w1.alloc (.cells #[.int .i64 d, .int .i64 d] 57)).alloc (.cells #[.int .i64 d, .int .i64 d] 57)) b 0 2 2 0 (by decide) (fun j hj => by rw [h2.cell]; match j, hj with | 0, _ => rfl | 1, _ => rfl | 2, _ => rfl | 3, _ => rfl | j + 4, hj => omega) h2.frozen
  clear h1 h2 hcon
  go_rounds 2
  go_wp2
  go_ret
  refine ⟨rfl, ?_, grown_trans (grown_of_below hb) (grown_trans (grown_of_below (((Below.refl _ w1).alloc (Nat.le_refl _) _).alloc (by simp) _)) (grown_trans (grown_set _ _ _ _) (grown_trans (grown_set _ _ _ _) (grown_trans (grown_set _ _ _ _) (grown_set _ _ _ _)))))⟩
  exact (((H2.out.set 0 (.int .i64 0)).set 1 (.int .i64 0)).set 2 (.int .i64 0)).set 3 (.int .i64 0)
end Go.Proofs.Ytcmibcmndiplbab
