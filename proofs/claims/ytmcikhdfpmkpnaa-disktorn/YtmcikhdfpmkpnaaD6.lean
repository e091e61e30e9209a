/- Package disk's Write. -/
import Derived.Test.YtmcikhdfpmkpnaaD5
namespace Go.Proofs.Ytmcikhdfpmkpnaa
open Go.RowKit Go.Maps Go.Sort Go.Shelf

def wrE (d : Dk) (i : Int) (n : Nat) : Int := if d.down then 7 else if fitE d i n ≠ 0 then fitE d i n else if d.trip = 1 then 7 else 0
def wrD (d : Dk) (i : Int) (b : List Int) : Dk := if d.down then d else if fitE d i b.length ≠ 0 then d else if d.trip = 1 then { d with down := true } else setWr { d with trip := dec d.trip } i.toNat (fil b)
theorem fitE_zero {d : Dk} {i : Int} {n : Nat} (h : fitE d i n = 0) : 0 ≤ i ∧ i < (d.S.length : Int) ∧ n ≤ 128 := by
  unfold fitE at h
  split at h
  · rename_i h1
    split at h
    · omega
    · omega
  · omega

theorem k_new (w : World) (v : Value) (t : TypeId) : (w.alloc (.cells #[v] t)).cell? ⟨w.heap.size, 0, none⟩ = some v := by
  rw [cell_of_row _ _ _ _ _ _ (heap_alloc_new w (.cells #[v] t))]; rfl
theorem k_old {w : World} {a : Addr} {v : Value} (h : w.cell? a = some v) (o : Obj) : (w.alloc o).cell? a = some v :=
  (((Below.refl _ w).alloc (Nat.le_refl _) o).cell (World.block_lt_of_cell? w a h)).trans h
theorem size_alloc (w : World) (o : Obj) : (w.alloc o).heap.size = w.heap.size + 1 := by simp
theorem box3 (w : World) (v0 v1 v2 : Value) (t0 t1 t2 : TypeId) : (((w.alloc (.cells #[v0] t0)).alloc (.cells #[v1] t1)).alloc (.cells #[v2] t2)).cell? ⟨w.heap.size, 0, none⟩ = some v0 ∧ (((w.alloc (.cells #[v0] t0)).alloc (.cells #[v1] t1)).alloc (.cells #[v2] t2)).cell? ⟨w.heap.size + 1, 0, none⟩ = some v1 ∧ (((w.alloc (.cells #[v0] t0)).alloc (.cells #[v1] t1)).alloc (.cells #[v2] t2)).cell? ⟨w.heap.size + 1 + 1, 0, none⟩ = some v2 := by
  refine ⟨k_old (k_old (k_new _ _ _) _) _, k_old ?_ _, ?_⟩
  · have := k_new (w.alloc (.cells #[v0] t0)) v1 t1
    rwa [size_alloc] at this
  · have := k_new ((w.alloc (.cells #[v0] t0)).alloc (.cells #[v1] t1)) v2 t2
    rwa [size_alloc, size_alloc] at this

theorem At.noByte {w : World} {p g bm base : Nat} {d : Dk} (h : At w p g bm base d) {a : Addr} {z : Int} (hc : w.cell? a = some (.int .u8 z)) : a.block ≠ p := by
  intro e
  obtain ⟨cap, tc, n, D, h⟩ := h
  obtain ⟨b, off, spot⟩ := a
  have hs : spot = none := World.cell?_spot hc
  simp only at e
  subst hs e
  rw [cell_of_row w b off _ 63 (0, 0) h.row] at hc
  match off with
  | 0 => simp at hc
  | 1 => simp at hc
  | 2 => simp at hc
  | 3 => simp at hc
  | 4 => simp at hc
  | k + 5 => simp at hc
theorem Bs.chg {w w' : World} {v : Value} {bs : List Int} {X : List Nat} (h : Bs w v bs) (hc : Chg X w w') (hx : ∀ a z, w.cell? a = some (.int .u8 z) → a.block ∉ X) : Bs w' v bs := by
  obtain ⟨a, cap, rfl, hl, hm, hn, hcell, hy⟩ := h
  exact ⟨a, cap, rfl, hl, hm, hn, fun x hxa i hi => (hc.cell (World.block_lt_of_cell? _ _ (hcell x hxa i hi)) (hx _ _ (hcell x hxa i hi))).trans (hcell x hxa i hi), hy⟩

section
variable {w : World} {p g bm base : Nat} {d : Dk}
set_option maxHeartbeats 2000000 in
theorem write_any (h : At w p g bm base d) (i : Int) (v : Value) (b : List Int) (hv : Bs w v b) :
    Calls Try.prog 19 #[.pointer (some ⟨p, 0, none⟩), .int .i64 i, v] w fun e w' => e = .returned (.int .i64 (wrE d i b.length)) ∧ At w' p g bm base (wrD d i b) ∧ Chg [p, bm] w w' := by
  have hpl := h.lt
  obtain ⟨ao, cp, rfl, hrest⟩ := hv
  have hv : Bs w (.slice ao b.length cp) b := ⟨ao, cp, rfl, hrest⟩
  have hbel : Below w.heap.size w (((w.alloc (.cells #[.pointer (some ⟨p, 0, none⟩)] 22)).alloc (.cells #[.int .i64 i] 3)).alloc (.cells #[.slice ao b.length cp] 37)) := (((Below.refl _ w).alloc (Nat.le_refl _) _).alloc (by simp) _).alloc (by simp; omega) _
  have h0 := h.below hbel
  have t1 := ready_any h0
  obtain ⟨k0, k1, k2⟩ := box3 w (.pointer (some ⟨p, 0, none⟩)) (.int .i64 i) (.slice ao b.length cp) 22 3 37
  have HF : Hid (∃ W0, W0 = (((w.alloc (.cells #[.pointer (some ⟨p, 0, none⟩)] 22)).alloc (.cells #[.int .i64 i] 3)).alloc (.cells #[.slice ao b.length cp] 37)) ∧ At W0 p g bm base d ∧ Below w.heap.size w W0 ∧ Bs W0 (.slice ao b.length cp) b ∧ W0.cell? ⟨w.heap.size, 0, none⟩ = some (.pointer (some ⟨p, 0, none⟩)) ∧ W0.cell? ⟨w.heap.size + 1, 0, none⟩ = some (.int .i64 i) ∧ W0.cell? ⟨w.heap.size + 1 + 1, 0, none⟩ = some (.slice ao b.length cp)) := ⟨_, rfl, h0, hbel, hv.below hbel, k0, k1, k2⟩
  clear h h0 hv k0 k1 k2 hbel hrest
  unfold wrE wrD
  cases hd : d.down with
  | true =>
    rw [hd] at t1
    go_enter Try.func19, Try.ntmps19
    go_wp2_with (go_at_call 33; refine t1.mono ?_; rintro e w' ⟨rfl, hw⟩; obtain ⟨W0, e0, hA, hB, -⟩ := HF.out; rw [← e0] at hw; subst hw; clear e0 HF t1)
    go_ret
    exact ⟨rfl, hA, Chg.ofBelow hB⟩
  | false =>
    rw [hd] at t1
    by_cases hf : fitE d i b.length = 0
    · obtain ⟨hi0, hi1, hbl⟩ := fitE_zero hf
      simp only [hf, ne_eq, not_true, if_false, Bool.false_eq_true]
      obtain ⟨j, rfl⟩ : ∃ j : Nat, i = j := ⟨i.toNat, by omega⟩
      have hj : j < d.S.length := by omega
      by_cases ht : d.trip = 1
      · simp only [ht, if_true]
        have HD : Hid (d.down = false ∧ d.trip = 1) := ⟨hd, ht⟩
        clear hd ht
        go_enter Try.func19, Try.ntmps19
        go_wp2_with (first
          | (go_at_call 33; refine t1.mono ?_; rintro e w' ⟨rfl, hw⟩; obtain ⟨W0, e0, hA, hB, hV, k0, k1, k2⟩ := HF.out; rw [← e0] at hw; subst hw; clear e0 HF t1; have t2 := fits_any hA (j : Int) ao b.length cp; rw [hf] at t2; have t3 := unless_trip hA HD.out.1 HD.out.2 (.func (.func 36) #[] #[.pointer (some ⟨w.heap.size + 1 + 1, 0, none⟩), .pointer (some ⟨w.heap.size, 0, none⟩), .pointer (some ⟨w.heap.size + 1, 0, none⟩)]); have HC : Hid (∀ w', Chg [p] W0 w' → Chg [p, bm] w w') := ⟨fun w' h => (Chg.ofBelow hB).trans (h.mono (fun x hx => .inl (by simp at hx; simp [hx])))⟩; clear hA hB hV)
          | (go_at_call 34; refine t2.mono ?_; rintro e w' ⟨rfl, rfl⟩; clear t2)
          | (go_at_call 35; refine t3.mono ?_; rintro e w' ⟨rfl, hA2, hc2⟩; clear t3))
        go_ret
        rw [HD.out.2] at hA2
        exact ⟨rfl, hA2, HC.out _ hc2⟩
      · simp only [ht, if_false]
        have HD : Hid (d.down = false ∧ d.trip ≠ 1) := ⟨hd, ht⟩
        clear hd ht
        have step : ∀ W0, At W0 p g bm base d → Below w.heap.size w W0 → Bs W0 (.slice ao b.length cp) b → W0.cell? ⟨w.heap.size, 0, none⟩ = some (.pointer (some ⟨p, 0, none⟩)) → W0.cell? ⟨w.heap.size + 1, 0, none⟩ = some (.int .i64 (j : Int)) → W0.cell? ⟨w.heap.size + 1 + 1, 0, none⟩ = some (.slice ao b.length cp) →
            Calls Try.prog 35 #[.pointer (some ⟨p, 0, none⟩), .func (.func 36) #[] #[.pointer (some ⟨w.heap.size + 1 + 1, 0, none⟩), .pointer (some ⟨w.heap.size, 0, none⟩), .pointer (some ⟨w.heap.size + 1, 0, none⟩)]] W0 fun e w' => e = .returned (.int .i64 0) ∧ At w' p g bm base (setWr { d with trip := dec d.trip } j (fil b)) ∧ Chg [p, bm] w w' := by
          intro W0 hA hB hV k0 k1 k2
          refine unless_step hA HD.out.1 HD.out.2 36 #[] _ (enters_of Try.func36 (by kernel_rfl) rfl) (fun w' => At w' p g bm base (setWr { d with trip := dec d.trip } j (fil b)) ∧ Chg [p, bm] w w') (fun W hAW hcW => ?_)
          have hx : ∀ q, p < q → q ∉ [p] := fun q hq hm => by simp at hm; omega
          have l0 := World.block_lt_of_cell? W0 _ k0
          have l1 := World.block_lt_of_cell? W0 _ k1
          have l2 := World.block_lt_of_cell? W0 _ k2
          refine (write1_any hAW (w.heap.size + 1 + 1) w.heap.size (w.heap.size + 1) j _ b hj (hV.chg hcW (fun a z hz => by have := hA.noByte hz; simpa using this)) hbl ((hcW.cell l2 (hx _ (by simp; omega))).trans k2) ((hcW.cell l0 (hx _ (by simp; omega))).trans k0) ((hcW.cell l1 (hx _ (by simp; omega))).trans k1)).mono ?_
          rintro e w' ⟨rfl, hA2, hc2⟩
          exact ⟨rfl, hA2, ((Chg.ofBelow hB).trans (hcW.mono (fun x hx => .inl (by simp at hx; simp [hx])))).trans (hc2.mono (fun x hx => .inl (by simp at hx; simp [hx])))⟩
        have HS : Hid _ := ⟨step⟩
        clear step
        go_enter Try.func19, Try.ntmps19
        go_wp2_with (first
          | (go_at_call 33; refine t1.mono ?_; rintro e w' ⟨rfl, hw⟩; obtain ⟨W0, e0, hA, hB, hV, k0, k1, k2⟩ := HF.out; rw [← e0] at hw; subst hw; clear e0 HF t1; have t2 := fits_any hA (j : Int) ao b.length cp; rw [hf] at t2; have t3 := HS.out W0 hA hB hV k0 k1 k2; clear hA hB hV HS)
          | (go_at_call 34; refine t2.mono ?_; rintro e w' ⟨rfl, rfl⟩; clear t2)
          | (go_at_call 35; refine t3.mono ?_; rintro e w' ⟨rfl, hA2, hc2⟩; clear t3))
        go_ret
        rw [HD.out.1] at hA2
        exact ⟨rfl, hA2, hc2⟩
    · simp only [hf, ne_eq, not_false_eq_true, if_true, if_false, Bool.false_eq_true]
      obtain ⟨fe, HFE⟩ : ∃ fe, Hid (fitE d i b.length = fe) := ⟨_, ⟨rfl⟩⟩
      have hfe : fe ≠ 0 := by rw [← HFE.out]; exact hf
      rw [HFE.out]
      clear hf hd
      go_enter Try.func19, Try.ntmps19
      go_wp2_with (first
        | (go_at_call 33; refine t1.mono ?_; rintro e w' ⟨rfl, hw⟩; obtain ⟨W0, e0, hA, hB, hV, k0, k1, k2⟩ := HF.out; rw [← e0] at hw; subst hw; clear e0 HF t1; have t2 := fits_any hA i ao b.length cp; rw [HFE.out] at t2)
        | (go_at_call 34; refine t2.mono ?_; rintro e w' ⟨rfl, rfl⟩; clear t2))
      go_ret
      exact ⟨rfl, hA, Chg.ofBelow hB⟩
end
end Go.Proofs.Ytmcikhdfpmkpnaa
