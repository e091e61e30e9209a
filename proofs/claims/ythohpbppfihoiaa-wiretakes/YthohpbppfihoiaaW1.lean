/- WireChecks: both Checks answer the same. -/
import Derived.Test.YthohpbppfihoiaaX8
namespace Go.Proofs.Ythohpbppfihoiaa
open Go.RowKit Go.Lib

section
variable {w : World}
set_option maxHeartbeats 8000000 in
set_option maxRecDepth 100000 in
theorem walk_wireChecks (v : Value) (n : Nt) (W : World) (hb : NoteV W v n) : Calls Try.prog 3 #[v] W fun e w' => e = .returned (.bool true) ∧ Below W.heap.size W w' := by
  obtain ⟨ha, hc, pa, pc, ba, bc, rfl, hH, hP, _⟩ := hb.ex
  have h32 : ∀ p ∈ n.P, p.1.length = 32 := fun p hp => (hb.pt p hp).1
  obtain ⟨q, Hq⟩ : ∃ q, Hid (W.heap.size = q) := ⟨_, ⟨rfl⟩⟩
  obtain ⟨A, HA⟩ : ∃ x, Hid (na n.s n.nm n.g n.i (.slice ha n.H.length hc) (.slice pa n.P.length pc) (.slice ba n.bs.length bc) = x) := ⟨_, ⟨rfl⟩⟩
  obtain ⟨w1, Hw1⟩ : ∃ x, Hid (W.alloc (.cells A 27) = x) := ⟨_, ⟨rfl⟩⟩
  have HB1 : Hid (Below W.heap.size W w1) := ⟨by rw [← Hw1.out]; exact (Below.refl _ W).alloc (Nat.le_refl _) _⟩
  have HX1 : Hid (w1.heap[q]? = some (.cells A 27 (0, 0))) := ⟨by rw [← Hw1.out, ← Hq.out]; exact heap_alloc_new W _⟩
  have hq : q < w1.heap.size := (Array.getElem?_eq_some_iff.1 HX1.out).1
  have HIA : Hid ((Try.prog.info? 27).map (·.size) = some A.size) := ⟨by rw [← HA.out]; exact info27⟩
  obtain ⟨wd, Hwd⟩ : ∃ x, Hid (w1.drew = x) := ⟨_, ⟨rfl⟩⟩
  have HBd : Hid (Below w1.heap.size w1 wd) := ⟨by rw [← Hwd.out]; exact ⟨rfl, rfl, rfl, Nat.le_refl _, fun _ _ => rfl⟩⟩
  have HHx : Hid (∀ wx, Below w1.heap.size w1 wx → RdE he 2 h0 wx (.slice ha n.H.length hc) n.H) := ⟨fun wx h => hH.far (Chg.ofBelow (X := []) (HB1.out.trans (h.mono HB1.out.size))) (by simp)⟩
  have HPx : Hid (∀ wx, Below w1.heap.size w1 wx → RdE pe 33 p0 wx (.slice pa n.P.length pc) n.P) := ⟨fun wx h => hP.far (Chg.ofBelow (X := []) (HB1.out.trans (h.mono HB1.out.size))) (by simp)⟩
  have t8 : ∀ wx, Below w1.heap.size w1 wx → Calls Try.prog 8 #[.agg A] wx fun e w' => e = .returned (.int .i64 (chkN n)) ∧ Below wx.heap.size wx w' := fun wx h => by
    rw [← HA.out]; exact check8 n.s n.nm n.g n.i ha pa ba n.H.length hc n.P.length pc n.bs.length bc n.H n.P (HHx.out wx h) rfl (HPx.out wx h) rfl h32
  have t9 : ∀ wx, Below w1.heap.size w1 wx → Calls Try.prog 9 #[.agg A] wx fun e w' => e = .returned (.int .i64 (chkN n)) ∧ Below wx.heap.size wx w' := fun wx h => by
    rw [← HA.out]; exact rcheck9 n.s n.nm n.g n.i ha pa ba n.H.length hc n.P.length pc n.bs.length bc n.H n.P (HHx.out wx h) rfl (HPx.out wx h) rfl
  obtain ⟨z, Hz⟩ : ∃ z, Hid (chkN n = z) := ⟨_, ⟨rfl⟩⟩
  rw [Hz.out] at t8 t9
  have hzz : (z == z) = true := by simp
  have t7 := live7 (w := wd)
  have HSx : Hid (∀ wx, Below w1.heap.size w1 wx → wx.heap[q]? = some (.cells A 27 (0, 0))) := ⟨fun wx h => (h.block q hq).trans HX1.out⟩
  have hS0 : (fun w' : World => w'.heap[q]? = some (.cells A 27 (0, 0))) w1.drew := by rw [Hwd.out]; exact HSx.out wd HBd.out
  rw [HA.out]
  clear hb hH hP h32
  go_enter Try.func3, Try.ntmps3
  go_upto_region 1 with (refine wp_box rfl 27 (.tmp 0) rfl A rfl ?_; rw [Hw1.out, Hq.out])
  refine wp_region_held_drew (S := (fun w' : World => w'.heap[q]? = some (.cells A 27 (0, 0)))) (by kernel_rfl) hS0 (fun hS => ?_)
  rw [Hwd.out]
  refine wpAnyH_ready (rs := [0]) (by kernel_rfl) (by simp) (AllReadyH.cons rfl (fun Kc hK => ?_) AllReadyH.nil)
  go_simp
  refine t7.mono ?_
  rintro e w2 ⟨rfl, hB2⟩
  have HB2 : Hid (Below w1.heap.size w1 w2) := ⟨HBd.out.trans (hB2.mono HBd.out.size)⟩
  clear t7 hB2
  refine hK.out _ _ (HSx.out w2 HB2.out) (fun hS => ?_)
  clear hK
  refine wpAnyH_take (i := 1) (v := .bool true) rfl (by kernel_rfl) (by kernel_rfl) (by kernel_rfl) (fun _ _ _ h => h) (Or.inl ⟨by kernel_rfl, fun wx hx => by kernel_rfl⟩) hS ?_
  refine wpAnyH_take (i := 2) (v := .agg A) rfl (by kernel_rfl) (by kernel_rfl) (by kernel_rfl) (fun _ _ _ h => h) (Or.inl ⟨by kernel_rfl, fun wx hx => exec_load rfl q 0 rfl (run_loadW 27 wx q A 27 (0, 0) _ hx Try.underlying27 rfl HIA.out)⟩) hS ?_
  refine wpAnyH_take (i := 4) (v := .agg A) rfl (by kernel_rfl) (by kernel_rfl) (by kernel_rfl) (fun _ _ _ h => h) (Or.inl ⟨by kernel_rfl, fun wx hx => exec_load rfl q 0 rfl (run_loadW 27 wx q A 27 (0, 0) _ hx Try.underlying27 rfl HIA.out)⟩) hS ?_
  refine wpAnyH_ready (rs := [3]) (by kernel_rfl) (by simp) (AllReadyH.cons rfl (fun Kc hK => ?_) AllReadyH.nil)
  go_simp
  refine (t8 w2 HB2.out).mono ?_
  rintro e w3 ⟨rfl, hB3⟩
  have HB3 : Hid (Below w1.heap.size w1 w3) := ⟨HB2.out.trans (hB3.mono HB2.out.size)⟩
  clear t8 hB3
  refine hK.out _ _ (HSx.out w3 HB3.out) (fun hS => ?_)
  clear hK
  refine wpAnyH_ready (rs := [5]) (by kernel_rfl) (by simp) (AllReadyH.cons rfl (fun Kc hK => ?_) AllReadyH.nil)
  go_simp
  refine (t9 w3 HB3.out).mono ?_
  rintro e w4 ⟨rfl, hB4⟩
  have HB4 : Hid (Below w1.heap.size w1 w4) := ⟨HB3.out.trans (hB4.mono HB3.out.size)⟩
  clear t9 hB4
  refine hK.out _ _ (HSx.out w4 HB4.out) (fun hS => ?_)
  clear hK
  refine wpAnyH_take (i := 6) (v := .bool true) rfl (by kernel_rfl) (by kernel_rfl) (by kernel_rfl) (fun _ _ _ h => h) (Or.inl ⟨by kernel_rfl, fun wx hx => by go_simp⟩) hS ?_
  refine wpAnyH_take (i := 7) (v := .bool true) rfl (by kernel_rfl) (by kernel_rfl) (by kernel_rfl) (fun _ _ _ h => h) (Or.inl ⟨by kernel_rfl, fun wx hx => by go_simp⟩) hS ?_
  refine wpAnyH_take (i := 8) (v := .bool true) rfl (by kernel_rfl) (by kernel_rfl) (by kernel_rfl) (fun _ _ _ h => h) (Or.inl ⟨by kernel_rfl, fun wx hx => by kernel_rfl⟩) hS ?_
  refine wpAnyH_done (by kernel_rfl) ?_ _
  clear hS hS0
  go_simp
  go_wp2_with fail
  go_ret
  exact ⟨rfl, HB1.out.trans (HB4.out.mono HB1.out.size)⟩
end
end Go.Proofs.Ythohpbppfihoiaa
