/- Check. -/
import Derived.Test.YthohpbppfihoiaaN4a
import Derived.Test.YthohpbppfihoiaaN4b
import Derived.Test.YthohpbppfihoiaaN4c
import Derived.Test.YthohpbppfihoiaaN5
namespace Go.Proofs.Ythohpbppfihoiaa
open Go.RowKit Oct

/-- Is a note right, and why not? -/
def chk (s : Int) (nm : ByteArray) (g i : Int) (H : List Hd) (P : List Pt) (bn : Nat) : Int :=
  if isS s = false then 4 else if al (nmd s) nm g i H.length P.length bn = false then 4 else if 64 < H.length ∨ 256 < P.length ∨ 512 < bn then 6 else if rt (nmd s) nm g i H P bn = false then 2 else 0
theorem say7 {s : Int} (h : isS s = true) : s = 1 ∨ s = 2 ∨ s = 3 ∨ s = 4 ∨ s = 5 ∨ s = 6 ∨ s = 7 := by
  unfold isS at h
  have := of_decide_eq_true h
  omega
section
variable {w : World}
theorem alone16 (s' : Int) (hs : isS s' = true) (s : Int) (nm : ByteArray) (g i : Int) (ha pa ba : Option Addr) (hn hc pn pc bn bc : Nat) : Calls Try.prog 16 #[.agg (nmV (nmd s')), .agg (na s nm g i (.slice ha hn hc) (.slice pa pn pc) (.slice ba bn bc))] w fun e w' => e = .returned (.bool (al (nmd s') nm g i hn pn bn)) ∧ Below w.heap.size w w' := by
  rcases say7 hs with rfl | rfl | rfl | rfl | rfl | rfl | rfl
  · exact alone_L s nm g i ha pa ba hn hc pn pc bn bc
  · exact alone_H s nm g i ha pa ba hn hc pn pc bn bc
  · exact alone_F s nm g i ha pa ba hn hc pn pc bn bc
  · exact alone_P s nm g i ha pa ba hn hc pn pc bn bc
  · exact alone_F s nm g i ha pa ba hn hc pn pc bn bc
  · exact alone_C s nm g i ha pa ba hn hc pn pc bn bc
  · exact alone_B s nm g i ha pa ba hn hc pn pc bn bc
theorem right17 (s' : Int) (hs : isS s' = true) (s : Int) (nm : ByteArray) (g i : Int) (ha pa ba : Option Addr) (hn hc pn pc bn bc : Nat) (H : List Hd) (P : List Pt) (hH : RdE he 2 h0 w (.slice ha hn hc) H) (hP : RdE pe 33 p0 w (.slice pa pn pc) P) (h32 : ∀ p ∈ P, p.1.length = 32) :
    Calls Try.prog 17 #[.agg (nmV (nmd s')), .agg (na s nm g i (.slice ha hn hc) (.slice pa pn pc) (.slice ba bn bc))] w fun e w' => e = .returned (.bool (rt (nmd s') nm g i H P bn)) ∧ Below w.heap.size w w' := by
  rcases say7 hs with rfl | rfl | rfl | rfl | rfl | rfl | rfl
  · exact right_no false false false s nm g i ha pa ba hn hc pn pc bn bc H P hH hP h32
  · exact right_no false true false s nm g i ha pa ba hn hc pn pc bn bc H P hH hP h32
  · exact right_f false false false s nm g i ha pa ba hn hc pn pc bn bc H P hH hP h32
  · exact right_f false false true s nm g i ha pa ba hn hc pn pc bn bc H P hH hP h32
  · exact right_f false false false s nm g i ha pa ba hn hc pn pc bn bc H P hH hP h32
  · exact right_f true false false s nm g i ha pa ba hn hc pn pc bn bc H P hH hP h32
  · exact right_b true false false s nm g i ha pa ba hn hc pn pc bn bc H P hH hP h32
theorem zero40 : (Try.prog.info? 40).bind (·.zero) = some (.agg (nmV (false, false, false, false, false))) := by kernel_rfl
theorem info27 : (Try.prog.info? 27).map (·.size) = some 7 := by kernel_rfl
theorem nmV_one (m : Nm) : (nmV m).all (·.oneCell') = true := by
  unfold nmV
  simp [Value.oneCell']
set_option maxHeartbeats 8000000 in
set_option maxRecDepth 100000 in
theorem check8 (s : Int) (nm : ByteArray) (g i : Int) (ha pa ba : Option Addr) (hn hc pn pc bn bc : Nat) (H : List Hd) (P : List Pt) (hH : RdE he 2 h0 w (.slice ha hn hc) H) (hHn : H.length = hn) (hP : RdE pe 33 p0 w (.slice pa pn pc) P) (hPn : P.length = pn) (h32 : ∀ p ∈ P, p.1.length = 32) :
    Calls Try.prog 8 #[.agg (na s nm g i (.slice ha hn hc) (.slice pa pn pc) (.slice ba bn bc))] w fun e w' => e = .returned (.int .i64 (chk s nm g i H P bn)) ∧ Below w.heap.size w w' := by
  obtain ⟨Z, HZ⟩ : ∃ x, Hid (chk s nm g i H P bn = x) := ⟨_, ⟨rfl⟩⟩
  have HZd : Hid (Z = chk s nm g i H P bn) := ⟨HZ.out.symm⟩
  unfold chk at HZd
  rw [HZ.out]
  obtain ⟨q, Hq⟩ : ∃ q, Hid (w.heap.size = q) := ⟨_, ⟨rfl⟩⟩
  obtain ⟨A, HA⟩ : ∃ x, Hid (na s nm g i (.slice ha hn hc) (.slice pa pn pc) (.slice ba bn bc) = x) := ⟨_, ⟨rfl⟩⟩
  obtain ⟨w1, Hw1⟩ : ∃ x, Hid (w.alloc (.cells A 27) = x) := ⟨_, ⟨rfl⟩⟩
  have HB1 : Hid (Below w.heap.size w w1) := ⟨by rw [← Hw1.out]; exact (Below.refl _ w).alloc (Nat.le_refl _) _⟩
  have HX1 : Hid (w1.heap[q]? = some (.cells A 27 (0, 0))) := ⟨by rw [← Hw1.out, ← Hq.out]; exact heap_alloc_new w _⟩
  have HIA : Hid ((Try.prog.info? 27).map (·.size) = some A.size) := ⟨by rw [← HA.out]; exact info27⟩
  have a0 : w1.cell? ⟨q, 0, none⟩ = some (.int .i64 s) := by rw [cell_of_row _ _ _ _ _ _ HX1.out, ← HA.out]; rfl
  have t1 := named15 (w := w1) s
  have HHx : Hid (∀ wx, Below w.heap.size w wx → RdE he 2 h0 wx (.slice ha hn hc) H) := ⟨fun wx h => hH.far (Chg.ofBelow (X := []) h) (by simp)⟩
  have HPx : Hid (∀ wx, Below w.heap.size w wx → RdE pe 33 p0 wx (.slice pa pn pc) P) := ⟨fun wx h => hP.far (Chg.ofBelow (X := []) h) (by simp)⟩
  rw [HA.out]
  rw [hHn, hPn] at HZd
  clear hH hP
  cases hs : isS s with
  | false =>
    rw [hs] at t1
    have HR : Hid (Z = 4) := ⟨by rw [HZd.out, hs, if_pos rfl]⟩
    simp only [Bool.false_eq_true, if_false] at t1
    clear HZd hs
    go_enter Try.func8, Try.ntmps8
    go_upto_region 1 with (refine wp_box rfl 27 (.tmp 0) rfl A rfl ?_; rw [Hw1.out, Hq.out])
    go_wp2_with fail
    refine t1.mono ?_
    rintro e w2 ⟨rfl, hB2⟩
    have HB2 : Hid (Below w.heap.size w w2) := ⟨HB1.out.trans (hB2.mono HB1.out.size)⟩
    obtain ⟨M, HM⟩ : ∃ x, Hid (nmV (false, false, false, false, false) = x) := ⟨_, ⟨rfl⟩⟩
    rw [HM.out]
    obtain ⟨r, Hr⟩ : ∃ q, Hid (w2.heap.size = q) := ⟨_, ⟨rfl⟩⟩
    have HMs : Hid ((Try.prog.info? 40).map (·.size) = some M.size ∧ M.all (·.oneCell') = true ∧ (nmV (false, false, false, false, false)).size = M.size) := ⟨by rw [← HM.out]; exact ⟨info40, nmV_one _, rfl⟩⟩
    clear t1 hB2
    go_upto_region 2 with (first | (refine wp_newZ zero40 rfl rfl ?_; rw [Hr.out]) | (refine wpList_store_row rfl 40 (.tmp 3) (.tmp 9) rfl r M rfl rfl 40 (nmV (false, false, false, false, false)) (by rw [← Hr.out]; exact heap_alloc_new w2 _) HMs.out.1 HMs.out.2.2 HMs.out.2.1 ?_))
    go_wp2_with fail
    go_ret
    refine ⟨by rw [HR.out]; rfl, ?_⟩
    rw [← Hr.out]
    exact below_setRow (HB2.out.alloc HB2.out.size _) HB2.out.size _
  | true =>
    rw [hs] at t1 HZd
    simp only [if_true] at t1
    have t2 := fun W : World => alone16 (w := W) s hs s nm g i ha pa ba hn hc pn pc bn bc
    have t3 := fun W : World => fun h1 h2 => right17 (w := W) s hs s nm g i ha pa ba hn hc pn pc bn bc H P h1 h2 h32
    obtain ⟨m, Hm⟩ : ∃ x, Hid (nmd s = x) := ⟨_, ⟨rfl⟩⟩
    rw [Hm.out] at t1 t2 t3 HZd
    obtain ⟨m1, m2, m3, m4, m5⟩ := m
    obtain ⟨M, HM⟩ : ∃ x, Hid (nmV (m1, m2, m3, m4, m5) = x) := ⟨_, ⟨rfl⟩⟩
    have HMs : Hid ((Try.prog.info? 40).map (·.size) = some M.size ∧ M.all (·.oneCell') = true ∧ (nmV (false, false, false, false, false)).size = M.size) := ⟨by rw [← HM.out]; exact ⟨info40, nmV_one _, rfl⟩⟩
    obtain ⟨B2, HB2v⟩ : ∃ x, Hid (al (m1, m2, m3, m4, m5) nm g i hn pn bn = x) := ⟨_, ⟨rfl⟩⟩
    obtain ⟨B3, HB3v⟩ : ∃ x, Hid (rt (m1, m2, m3, m4, m5) nm g i H P bn = x) := ⟨_, ⟨rfl⟩⟩
    rw [HM.out] at t1
    rw [HB2v.out] at t2 HZd
    rw [HB3v.out] at t3 HZd
    have HR0 : Hid (Z = if B2 = false then 4 else if 64 < hn ∨ 256 < pn ∨ 512 < bn then 6 else if B3 = false then 2 else 0) := ⟨by rw [HZd.out, if_neg (by decide)]⟩
    have T2 := Hid.mk t2
    have T3 := Hid.mk t3
    clear HZd hs t2 t3
    cases B2 with
    | false =>
      have HR : Hid (Z = 4) := ⟨by rw [HR0.out, if_pos rfl]⟩
      clear HR0
      go_enter Try.func8, Try.ntmps8
      go_upto_region 1 with (refine wp_box rfl 27 (.tmp 0) rfl A rfl ?_; rw [Hw1.out, Hq.out])
      go_wp2_with fail
      refine t1.mono ?_
      rintro e w2 ⟨rfl, hB2⟩
      have HB2 : Hid (Below w.heap.size w w2) := ⟨HB1.out.trans (hB2.mono HB1.out.size)⟩
      have HX2 := Hid.mk (below_atN hB2 HX1.out)
      obtain ⟨r, Hr⟩ : ∃ q, Hid (w2.heap.size = q) := ⟨_, ⟨rfl⟩⟩
      obtain ⟨w3, Hw3⟩ : ∃ x, Hid ((w2.alloc (.cells (nmV (false, false, false, false, false)) 40)).setRow r M = x) := ⟨_, ⟨rfl⟩⟩
      have HB23 : Hid (Below w2.heap.size w2 w3) := ⟨by rw [← Hw3.out, ← Hr.out]; exact below_setRow ((Below.refl _ w2).alloc (Nat.le_refl _) _) (Nat.le_refl _) _⟩
      have HM3 : Hid (w3.heap[r]? = some (.cells M 40 (0, 0))) := ⟨by rw [← Hw3.out, ← Hr.out]; exact setRow_heap _ _ (nmV (false, false, false, false, false)) _ 40 (0, 0) (heap_alloc_new w2 _)⟩
      have HX3 := Hid.mk (below_atN HB23.out HX2.out)
      have HB3 : Hid (Below w.heap.size w w3) := ⟨HB2.out.trans (HB23.out.mono HB2.out.size)⟩
      have x0 : w3.cell? ⟨r, 0, none⟩ = some (.bool m1) := by rw [cell_of_row _ _ _ _ _ _ HM3.out, ← HM.out]; rfl
      have x1 : w3.cell? ⟨r, 1, none⟩ = some (.bool m2) := by rw [cell_of_row _ _ _ _ _ _ HM3.out, ← HM.out]; rfl
      have x2 : w3.cell? ⟨r, 2, none⟩ = some (.bool m3) := by rw [cell_of_row _ _ _ _ _ _ HM3.out, ← HM.out]; rfl
      have x3 : w3.cell? ⟨r, 3, none⟩ = some (.bool m4) := by rw [cell_of_row _ _ _ _ _ _ HM3.out, ← HM.out]; rfl
      have x4 : w3.cell? ⟨r, 4, none⟩ = some (.bool m5) := by rw [cell_of_row _ _ _ _ _ _ HM3.out, ← HM.out]; rfl
      have y0 : w3.cell? ⟨q, 0, none⟩ = some (.int .i64 s) := by rw [cell_of_row _ _ _ _ _ _ HX3.out, ← HA.out]; rfl
      have y1 : w3.cell? ⟨q, 1, none⟩ = some (.string nm) := by rw [cell_of_row _ _ _ _ _ _ HX3.out, ← HA.out]; rfl
      have y2 : w3.cell? ⟨q, 2, none⟩ = some (.int .i64 g) := by rw [cell_of_row _ _ _ _ _ _ HX3.out, ← HA.out]; rfl
      have y3 : w3.cell? ⟨q, 3, none⟩ = some (.int .i64 i) := by rw [cell_of_row _ _ _ _ _ _ HX3.out, ← HA.out]; rfl
      have y4 : w3.cell? ⟨q, 4, none⟩ = some (.slice ha hn hc) := by rw [cell_of_row _ _ _ _ _ _ HX3.out, ← HA.out]; rfl
      have y5 : w3.cell? ⟨q, 5, none⟩ = some (.slice pa pn pc) := by rw [cell_of_row _ _ _ _ _ _ HX3.out, ← HA.out]; rfl
      have y6 : w3.cell? ⟨q, 6, none⟩ = some (.slice ba bn bc) := by rw [cell_of_row _ _ _ _ _ _ HX3.out, ← HA.out]; rfl
      clear t1 hB2
      go_upto_region 2 with (first | (refine wp_newZ zero40 rfl rfl ?_; rw [Hr.out]) | (refine wpList_store_row rfl 40 (.tmp 3) (.tmp 9) rfl r M rfl rfl 40 (nmV (false, false, false, false, false)) (by rw [← Hr.out]; exact heap_alloc_new w2 _) HMs.out.1 HMs.out.2.2 HMs.out.2.1 ?_; rw [Hw3.out]))
      go_wp2_with fail

      refine (T2.out w3).mono ?_
      rintro e w5 ⟨rfl, hB5⟩
      have HB5 : Hid (Below w.heap.size w w5) := ⟨HB3.out.trans (hB5.mono HB3.out.size)⟩
      have HX5 := Hid.mk (below_atN hB5 HX3.out)
      have HM5 := Hid.mk (below_atN hB5 HM3.out)
      have u0 : w5.cell? ⟨r, 0, none⟩ = some (.bool m1) := by rw [cell_of_row _ _ _ _ _ _ HM5.out, ← HM.out]; rfl
      have u1 : w5.cell? ⟨r, 1, none⟩ = some (.bool m2) := by rw [cell_of_row _ _ _ _ _ _ HM5.out, ← HM.out]; rfl
      have u2 : w5.cell? ⟨r, 2, none⟩ = some (.bool m3) := by rw [cell_of_row _ _ _ _ _ _ HM5.out, ← HM.out]; rfl
      have u3 : w5.cell? ⟨r, 3, none⟩ = some (.bool m4) := by rw [cell_of_row _ _ _ _ _ _ HM5.out, ← HM.out]; rfl
      have u4 : w5.cell? ⟨r, 4, none⟩ = some (.bool m5) := by rw [cell_of_row _ _ _ _ _ _ HM5.out, ← HM.out]; rfl
      have v0 : w5.cell? ⟨q, 0, none⟩ = some (.int .i64 s) := by rw [cell_of_row _ _ _ _ _ _ HX5.out, ← HA.out]; rfl
      have v1 : w5.cell? ⟨q, 1, none⟩ = some (.string nm) := by rw [cell_of_row _ _ _ _ _ _ HX5.out, ← HA.out]; rfl
      have v2 : w5.cell? ⟨q, 2, none⟩ = some (.int .i64 g) := by rw [cell_of_row _ _ _ _ _ _ HX5.out, ← HA.out]; rfl
      have v3 : w5.cell? ⟨q, 3, none⟩ = some (.int .i64 i) := by rw [cell_of_row _ _ _ _ _ _ HX5.out, ← HA.out]; rfl
      have v4 : w5.cell? ⟨q, 4, none⟩ = some (.slice ha hn hc) := by rw [cell_of_row _ _ _ _ _ _ HX5.out, ← HA.out]; rfl
      have v5 : w5.cell? ⟨q, 5, none⟩ = some (.slice pa pn pc) := by rw [cell_of_row _ _ _ _ _ _ HX5.out, ← HA.out]; rfl
      have v6 : w5.cell? ⟨q, 6, none⟩ = some (.slice ba bn bc) := by rw [cell_of_row _ _ _ _ _ _ HX5.out, ← HA.out]; rfl
      clear hB5 x0 x1 x2 x3 x4 y0 y1 y2 y3 y4 y5 y6
      go_wp2_with fail
      go_ret
      exact ⟨by rw [HR.out]; rfl, HB5.out⟩
    | true =>
      by_cases hh : 64 < hn
      · have hhz : (64 : Int) < (hn : Int) := by omega
        have HR : Hid (Z = 6) := ⟨by rw [HR0.out, if_neg (by decide), if_pos (.inl hh)]⟩
        clear HR0
        go_enter Try.func8, Try.ntmps8
        go_upto_region 1 with (refine wp_box rfl 27 (.tmp 0) rfl A rfl ?_; rw [Hw1.out, Hq.out])
        go_wp2_with fail
        refine t1.mono ?_
        rintro e w2 ⟨rfl, hB2⟩
        have HB2 : Hid (Below w.heap.size w w2) := ⟨HB1.out.trans (hB2.mono HB1.out.size)⟩
        have HX2 := Hid.mk (below_atN hB2 HX1.out)
        obtain ⟨r, Hr⟩ : ∃ q, Hid (w2.heap.size = q) := ⟨_, ⟨rfl⟩⟩
        obtain ⟨w3, Hw3⟩ : ∃ x, Hid ((w2.alloc (.cells (nmV (false, false, false, false, false)) 40)).setRow r M = x) := ⟨_, ⟨rfl⟩⟩
        have HB23 : Hid (Below w2.heap.size w2 w3) := ⟨by rw [← Hw3.out, ← Hr.out]; exact below_setRow ((Below.refl _ w2).alloc (Nat.le_refl _) _) (Nat.le_refl _) _⟩
        have HM3 : Hid (w3.heap[r]? = some (.cells M 40 (0, 0))) := ⟨by rw [← Hw3.out, ← Hr.out]; exact setRow_heap _ _ (nmV (false, false, false, false, false)) _ 40 (0, 0) (heap_alloc_new w2 _)⟩
        have HX3 := Hid.mk (below_atN HB23.out HX2.out)
        have HB3 : Hid (Below w.heap.size w w3) := ⟨HB2.out.trans (HB23.out.mono HB2.out.size)⟩
        have x0 : w3.cell? ⟨r, 0, none⟩ = some (.bool m1) := by rw [cell_of_row _ _ _ _ _ _ HM3.out, ← HM.out]; rfl
        have x1 : w3.cell? ⟨r, 1, none⟩ = some (.bool m2) := by rw [cell_of_row _ _ _ _ _ _ HM3.out, ← HM.out]; rfl
        have x2 : w3.cell? ⟨r, 2, none⟩ = some (.bool m3) := by rw [cell_of_row _ _ _ _ _ _ HM3.out, ← HM.out]; rfl
        have x3 : w3.cell? ⟨r, 3, none⟩ = some (.bool m4) := by rw [cell_of_row _ _ _ _ _ _ HM3.out, ← HM.out]; rfl
        have x4 : w3.cell? ⟨r, 4, none⟩ = some (.bool m5) := by rw [cell_of_row _ _ _ _ _ _ HM3.out, ← HM.out]; rfl
        have y0 : w3.cell? ⟨q, 0, none⟩ = some (.int .i64 s) := by rw [cell_of_row _ _ _ _ _ _ HX3.out, ← HA.out]; rfl
        have y1 : w3.cell? ⟨q, 1, none⟩ = some (.string nm) := by rw [cell_of_row _ _ _ _ _ _ HX3.out, ← HA.out]; rfl
        have y2 : w3.cell? ⟨q, 2, none⟩ = some (.int .i64 g) := by rw [cell_of_row _ _ _ _ _ _ HX3.out, ← HA.out]; rfl
        have y3 : w3.cell? ⟨q, 3, none⟩ = some (.int .i64 i) := by rw [cell_of_row _ _ _ _ _ _ HX3.out, ← HA.out]; rfl
        have y4 : w3.cell? ⟨q, 4, none⟩ = some (.slice ha hn hc) := by rw [cell_of_row _ _ _ _ _ _ HX3.out, ← HA.out]; rfl
        have y5 : w3.cell? ⟨q, 5, none⟩ = some (.slice pa pn pc) := by rw [cell_of_row _ _ _ _ _ _ HX3.out, ← HA.out]; rfl
        have y6 : w3.cell? ⟨q, 6, none⟩ = some (.slice ba bn bc) := by rw [cell_of_row _ _ _ _ _ _ HX3.out, ← HA.out]; rfl
        clear t1 hB2
        go_upto_region 2 with (first | (refine wp_newZ zero40 rfl rfl ?_; rw [Hr.out]) | (refine wpList_store_row rfl 40 (.tmp 3) (.tmp 9) rfl r M rfl rfl 40 (nmV (false, false, false, false, false)) (by rw [← Hr.out]; exact heap_alloc_new w2 _) HMs.out.1 HMs.out.2.2 HMs.out.2.1 ?_; rw [Hw3.out]))
        go_wp2_with fail

        refine (T2.out w3).mono ?_
        rintro e w5 ⟨rfl, hB5⟩
        have HB5 : Hid (Below w.heap.size w w5) := ⟨HB3.out.trans (hB5.mono HB3.out.size)⟩
        have HX5 := Hid.mk (below_atN hB5 HX3.out)
        have HM5 := Hid.mk (below_atN hB5 HM3.out)
        have u0 : w5.cell? ⟨r, 0, none⟩ = some (.bool m1) := by rw [cell_of_row _ _ _ _ _ _ HM5.out, ← HM.out]; rfl
        have u1 : w5.cell? ⟨r, 1, none⟩ = some (.bool m2) := by rw [cell_of_row _ _ _ _ _ _ HM5.out, ← HM.out]; rfl
        have u2 : w5.cell? ⟨r, 2, none⟩ = some (.bool m3) := by rw [cell_of_row _ _ _ _ _ _ HM5.out, ← HM.out]; rfl
        have u3 : w5.cell? ⟨r, 3, none⟩ = some (.bool m4) := by rw [cell_of_row _ _ _ _ _ _ HM5.out, ← HM.out]; rfl
        have u4 : w5.cell? ⟨r, 4, none⟩ = some (.bool m5) := by rw [cell_of_row _ _ _ _ _ _ HM5.out, ← HM.out]; rfl
        have v0 : w5.cell? ⟨q, 0, none⟩ = some (.int .i64 s) := by rw [cell_of_row _ _ _ _ _ _ HX5.out, ← HA.out]; rfl
        have v1 : w5.cell? ⟨q, 1, none⟩ = some (.string nm) := by rw [cell_of_row _ _ _ _ _ _ HX5.out, ← HA.out]; rfl
        have v2 : w5.cell? ⟨q, 2, none⟩ = some (.int .i64 g) := by rw [cell_of_row _ _ _ _ _ _ HX5.out, ← HA.out]; rfl
        have v3 : w5.cell? ⟨q, 3, none⟩ = some (.int .i64 i) := by rw [cell_of_row _ _ _ _ _ _ HX5.out, ← HA.out]; rfl
        have v4 : w5.cell? ⟨q, 4, none⟩ = some (.slice ha hn hc) := by rw [cell_of_row _ _ _ _ _ _ HX5.out, ← HA.out]; rfl
        have v5 : w5.cell? ⟨q, 5, none⟩ = some (.slice pa pn pc) := by rw [cell_of_row _ _ _ _ _ _ HX5.out, ← HA.out]; rfl
        have v6 : w5.cell? ⟨q, 6, none⟩ = some (.slice ba bn bc) := by rw [cell_of_row _ _ _ _ _ _ HX5.out, ← HA.out]; rfl
        clear hB5 x0 x1 x2 x3 x4 y0 y1 y2 y3 y4 y5 y6
        go_wp2_with fail
        go_ret
        exact ⟨by rw [HR.out]; rfl, HB5.out⟩
      · have hhz : ¬ (64 : Int) < (hn : Int) := by omega
        by_cases hp : 256 < pn
        · have hpz : (256 : Int) < (pn : Int) := by omega
          have HR : Hid (Z = 6) := ⟨by rw [HR0.out, if_neg (by decide), if_pos (.inr (.inl hp))]⟩
          clear HR0
          go_enter Try.func8, Try.ntmps8
          go_upto_region 1 with (refine wp_box rfl 27 (.tmp 0) rfl A rfl ?_; rw [Hw1.out, Hq.out])
          go_wp2_with fail
          refine t1.mono ?_
          rintro e w2 ⟨rfl, hB2⟩
          have HB2 : Hid (Below w.heap.size w w2) := ⟨HB1.out.trans (hB2.mono HB1.out.size)⟩
          have HX2 := Hid.mk (below_atN hB2 HX1.out)
          obtain ⟨r, Hr⟩ : ∃ q, Hid (w2.heap.size = q) := ⟨_, ⟨rfl⟩⟩
          obtain ⟨w3, Hw3⟩ : ∃ x, Hid ((w2.alloc (.cells (nmV (false, false, false, false, false)) 40)).setRow r M = x) := ⟨_, ⟨rfl⟩⟩
          have HB23 : Hid (Below w2.heap.size w2 w3) := ⟨by rw [← Hw3.out, ← Hr.out]; exact below_setRow ((Below.refl _ w2).alloc (Nat.le_refl _) _) (Nat.le_refl _) _⟩
          have HM3 : Hid (w3.heap[r]? = some (.cells M 40 (0, 0))) := ⟨by rw [← Hw3.out, ← Hr.out]; exact setRow_heap _ _ (nmV (false, false, false, false, false)) _ 40 (0, 0) (heap_alloc_new w2 _)⟩
          have HX3 := Hid.mk (below_atN HB23.out HX2.out)
          have HB3 : Hid (Below w.heap.size w w3) := ⟨HB2.out.trans (HB23.out.mono HB2.out.size)⟩
          have x0 : w3.cell? ⟨r, 0, none⟩ = some (.bool m1) := by rw [cell_of_row _ _ _ _ _ _ HM3.out, ← HM.out]; rfl
          have x1 : w3.cell? ⟨r, 1, none⟩ = some (.bool m2) := by rw [cell_of_row _ _ _ _ _ _ HM3.out, ← HM.out]; rfl
          have x2 : w3.cell? ⟨r, 2, none⟩ = some (.bool m3) := by rw [cell_of_row _ _ _ _ _ _ HM3.out, ← HM.out]; rfl
          have x3 : w3.cell? ⟨r, 3, none⟩ = some (.bool m4) := by rw [cell_of_row _ _ _ _ _ _ HM3.out, ← HM.out]; rfl
          have x4 : w3.cell? ⟨r, 4, none⟩ = some (.bool m5) := by rw [cell_of_row _ _ _ _ _ _ HM3.out, ← HM.out]; rfl
          have y0 : w3.cell? ⟨q, 0, none⟩ = some (.int .i64 s) := by rw [cell_of_row _ _ _ _ _ _ HX3.out, ← HA.out]; rfl
          have y1 : w3.cell? ⟨q, 1, none⟩ = some (.string nm) := by rw [cell_of_row _ _ _ _ _ _ HX3.out, ← HA.out]; rfl
          have y2 : w3.cell? ⟨q, 2, none⟩ = some (.int .i64 g) := by rw [cell_of_row _ _ _ _ _ _ HX3.out, ← HA.out]; rfl
          have y3 : w3.cell? ⟨q, 3, none⟩ = some (.int .i64 i) := by rw [cell_of_row _ _ _ _ _ _ HX3.out, ← HA.out]; rfl
          have y4 : w3.cell? ⟨q, 4, none⟩ = some (.slice ha hn hc) := by rw [cell_of_row _ _ _ _ _ _ HX3.out, ← HA.out]; rfl
          have y5 : w3.cell? ⟨q, 5, none⟩ = some (.slice pa pn pc) := by rw [cell_of_row _ _ _ _ _ _ HX3.out, ← HA.out]; rfl
          have y6 : w3.cell? ⟨q, 6, none⟩ = some (.slice ba bn bc) := by rw [cell_of_row _ _ _ _ _ _ HX3.out, ← HA.out]; rfl
          clear t1 hB2
          go_upto_region 2 with (first | (refine wp_newZ zero40 rfl rfl ?_; rw [Hr.out]) | (refine wpList_store_row rfl 40 (.tmp 3) (.tmp 9) rfl r M rfl rfl 40 (nmV (false, false, false, false, false)) (by rw [← Hr.out]; exact heap_alloc_new w2 _) HMs.out.1 HMs.out.2.2 HMs.out.2.1 ?_; rw [Hw3.out]))
          go_wp2_with fail

          refine (T2.out w3).mono ?_
          rintro e w5 ⟨rfl, hB5⟩
          have HB5 : Hid (Below w.heap.size w w5) := ⟨HB3.out.trans (hB5.mono HB3.out.size)⟩
          have HX5 := Hid.mk (below_atN hB5 HX3.out)
          have HM5 := Hid.mk (below_atN hB5 HM3.out)
          have u0 : w5.cell? ⟨r, 0, none⟩ = some (.bool m1) := by rw [cell_of_row _ _ _ _ _ _ HM5.out, ← HM.out]; rfl
          have u1 : w5.cell? ⟨r, 1, none⟩ = some (.bool m2) := by rw [cell_of_row _ _ _ _ _ _ HM5.out, ← HM.out]; rfl
          have u2 : w5.cell? ⟨r, 2, none⟩ = some (.bool m3) := by rw [cell_of_row _ _ _ _ _ _ HM5.out, ← HM.out]; rfl
          have u3 : w5.cell? ⟨r, 3, none⟩ = some (.bool m4) := by rw [cell_of_row _ _ _ _ _ _ HM5.out, ← HM.out]; rfl
          have u4 : w5.cell? ⟨r, 4, none⟩ = some (.bool m5) := by rw [cell_of_row _ _ _ _ _ _ HM5.out, ← HM.out]; rfl
          have v0 : w5.cell? ⟨q, 0, none⟩ = some (.int .i64 s) := by rw [cell_of_row _ _ _ _ _ _ HX5.out, ← HA.out]; rfl
          have v1 : w5.cell? ⟨q, 1, none⟩ = some (.string nm) := by rw [cell_of_row _ _ _ _ _ _ HX5.out, ← HA.out]; rfl
          have v2 : w5.cell? ⟨q, 2, none⟩ = some (.int .i64 g) := by rw [cell_of_row _ _ _ _ _ _ HX5.out, ← HA.out]; rfl
          have v3 : w5.cell? ⟨q, 3, none⟩ = some (.int .i64 i) := by rw [cell_of_row _ _ _ _ _ _ HX5.out, ← HA.out]; rfl
          have v4 : w5.cell? ⟨q, 4, none⟩ = some (.slice ha hn hc) := by rw [cell_of_row _ _ _ _ _ _ HX5.out, ← HA.out]; rfl
          have v5 : w5.cell? ⟨q, 5, none⟩ = some (.slice pa pn pc) := by rw [cell_of_row _ _ _ _ _ _ HX5.out, ← HA.out]; rfl
          have v6 : w5.cell? ⟨q, 6, none⟩ = some (.slice ba bn bc) := by rw [cell_of_row _ _ _ _ _ _ HX5.out, ← HA.out]; rfl
          clear hB5 x0 x1 x2 x3 x4 y0 y1 y2 y3 y4 y5 y6
          go_wp2_with fail
          go_ret
          exact ⟨by rw [HR.out]; rfl, HB5.out⟩
        · have hpz : ¬ (256 : Int) < (pn : Int) := by omega
          by_cases hb : 512 < bn
          · have hbz : (512 : Int) < (bn : Int) := by omega
            have HR : Hid (Z = 6) := ⟨by rw [HR0.out, if_neg (by decide), if_pos (.inr (.inr hb))]⟩
            clear HR0
            go_enter Try.func8, Try.ntmps8
            go_upto_region 1 with (refine wp_box rfl 27 (.tmp 0) rfl A rfl ?_; rw [Hw1.out, Hq.out])
            go_wp2_with fail
            refine t1.mono ?_
            rintro e w2 ⟨rfl, hB2⟩
            have HB2 : Hid (Below w.heap.size w w2) := ⟨HB1.out.trans (hB2.mono HB1.out.size)⟩
            have HX2 := Hid.mk (below_atN hB2 HX1.out)
            obtain ⟨r, Hr⟩ : ∃ q, Hid (w2.heap.size = q) := ⟨_, ⟨rfl⟩⟩
            obtain ⟨w3, Hw3⟩ : ∃ x, Hid ((w2.alloc (.cells (nmV (false, false, false, false, false)) 40)).setRow r M = x) := ⟨_, ⟨rfl⟩⟩
            have HB23 : Hid (Below w2.heap.size w2 w3) := ⟨by rw [← Hw3.out, ← Hr.out]; exact below_setRow ((Below.refl _ w2).alloc (Nat.le_refl _) _) (Nat.le_refl _) _⟩
            have HM3 : Hid (w3.heap[r]? = some (.cells M 40 (0, 0))) := ⟨by rw [← Hw3.out, ← Hr.out]; exact setRow_heap _ _ (nmV (false, false, false, false, false)) _ 40 (0, 0) (heap_alloc_new w2 _)⟩
            have HX3 := Hid.mk (below_atN HB23.out HX2.out)
            have HB3 : Hid (Below w.heap.size w w3) := ⟨HB2.out.trans (HB23.out.mono HB2.out.size)⟩
            have x0 : w3.cell? ⟨r, 0, none⟩ = some (.bool m1) := by rw [cell_of_row _ _ _ _ _ _ HM3.out, ← HM.out]; rfl
            have x1 : w3.cell? ⟨r, 1, none⟩ = some (.bool m2) := by rw [cell_of_row _ _ _ _ _ _ HM3.out, ← HM.out]; rfl
            have x2 : w3.cell? ⟨r, 2, none⟩ = some (.bool m3) := by rw [cell_of_row _ _ _ _ _ _ HM3.out, ← HM.out]; rfl
            have x3 : w3.cell? ⟨r, 3, none⟩ = some (.bool m4) := by rw [cell_of_row _ _ _ _ _ _ HM3.out, ← HM.out]; rfl
            have x4 : w3.cell? ⟨r, 4, none⟩ = some (.bool m5) := by rw [cell_of_row _ _ _ _ _ _ HM3.out, ← HM.out]; rfl
            have y0 : w3.cell? ⟨q, 0, none⟩ = some (.int .i64 s) := by rw [cell_of_row _ _ _ _ _ _ HX3.out, ← HA.out]; rfl
            have y1 : w3.cell? ⟨q, 1, none⟩ = some (.string nm) := by rw [cell_of_row _ _ _ _ _ _ HX3.out, ← HA.out]; rfl
            have y2 : w3.cell? ⟨q, 2, none⟩ = some (.int .i64 g) := by rw [cell_of_row _ _ _ _ _ _ HX3.out, ← HA.out]; rfl
            have y3 : w3.cell? ⟨q, 3, none⟩ = some (.int .i64 i) := by rw [cell_of_row _ _ _ _ _ _ HX3.out, ← HA.out]; rfl
            have y4 : w3.cell? ⟨q, 4, none⟩ = some (.slice ha hn hc) := by rw [cell_of_row _ _ _ _ _ _ HX3.out, ← HA.out]; rfl
            have y5 : w3.cell? ⟨q, 5, none⟩ = some (.slice pa pn pc) := by rw [cell_of_row _ _ _ _ _ _ HX3.out, ← HA.out]; rfl
            have y6 : w3.cell? ⟨q, 6, none⟩ = some (.slice ba bn bc) := by rw [cell_of_row _ _ _ _ _ _ HX3.out, ← HA.out]; rfl
            clear t1 hB2
            go_upto_region 2 with (first | (refine wp_newZ zero40 rfl rfl ?_; rw [Hr.out]) | (refine wpList_store_row rfl 40 (.tmp 3) (.tmp 9) rfl r M rfl rfl 40 (nmV (false, false, false, false, false)) (by rw [← Hr.out]; exact heap_alloc_new w2 _) HMs.out.1 HMs.out.2.2 HMs.out.2.1 ?_; rw [Hw3.out]))
            go_wp2_with fail

            refine (T2.out w3).mono ?_
            rintro e w5 ⟨rfl, hB5⟩
            have HB5 : Hid (Below w.heap.size w w5) := ⟨HB3.out.trans (hB5.mono HB3.out.size)⟩
            have HX5 := Hid.mk (below_atN hB5 HX3.out)
            have HM5 := Hid.mk (below_atN hB5 HM3.out)
            have u0 : w5.cell? ⟨r, 0, none⟩ = some (.bool m1) := by rw [cell_of_row _ _ _ _ _ _ HM5.out, ← HM.out]; rfl
            have u1 : w5.cell? ⟨r, 1, none⟩ = some (.bool m2) := by rw [cell_of_row _ _ _ _ _ _ HM5.out, ← HM.out]; rfl
            have u2 : w5.cell? ⟨r, 2, none⟩ = some (.bool m3) := by rw [cell_of_row _ _ _ _ _ _ HM5.out, ← HM.out]; rfl
            have u3 : w5.cell? ⟨r, 3, none⟩ = some (.bool m4) := by rw [cell_of_row _ _ _ _ _ _ HM5.out, ← HM.out]; rfl
            have u4 : w5.cell? ⟨r, 4, none⟩ = some (.bool m5) := by rw [cell_of_row _ _ _ _ _ _ HM5.out, ← HM.out]; rfl
            have v0 : w5.cell? ⟨q, 0, none⟩ = some (.int .i64 s) := by rw [cell_of_row _ _ _ _ _ _ HX5.out, ← HA.out]; rfl
            have v1 : w5.cell? ⟨q, 1, none⟩ = some (.string nm) := by rw [cell_of_row _ _ _ _ _ _ HX5.out, ← HA.out]; rfl
            have v2 : w5.cell? ⟨q, 2, none⟩ = some (.int .i64 g) := by rw [cell_of_row _ _ _ _ _ _ HX5.out, ← HA.out]; rfl
            have v3 : w5.cell? ⟨q, 3, none⟩ = some (.int .i64 i) := by rw [cell_of_row _ _ _ _ _ _ HX5.out, ← HA.out]; rfl
            have v4 : w5.cell? ⟨q, 4, none⟩ = some (.slice ha hn hc) := by rw [cell_of_row _ _ _ _ _ _ HX5.out, ← HA.out]; rfl
            have v5 : w5.cell? ⟨q, 5, none⟩ = some (.slice pa pn pc) := by rw [cell_of_row _ _ _ _ _ _ HX5.out, ← HA.out]; rfl
            have v6 : w5.cell? ⟨q, 6, none⟩ = some (.slice ba bn bc) := by rw [cell_of_row _ _ _ _ _ _ HX5.out, ← HA.out]; rfl
            clear hB5 x0 x1 x2 x3 x4 y0 y1 y2 y3 y4 y5 y6
            go_wp2_with fail
            go_ret
            exact ⟨by rw [HR.out]; rfl, HB5.out⟩
          · have hbz : ¬ (512 : Int) < (bn : Int) := by omega
            have HR1 : Hid (Z = if B3 = false then 2 else 0) := ⟨by rw [HR0.out, if_neg (by decide), if_neg (by omega)]⟩
            clear HR0
            go_enter Try.func8, Try.ntmps8
            go_upto_region 1 with (refine wp_box rfl 27 (.tmp 0) rfl A rfl ?_; rw [Hw1.out, Hq.out])
            go_wp2_with fail
            refine t1.mono ?_
            rintro e w2 ⟨rfl, hB2⟩
            have HB2 : Hid (Below w.heap.size w w2) := ⟨HB1.out.trans (hB2.mono HB1.out.size)⟩
            have HX2 := Hid.mk (below_atN hB2 HX1.out)
            obtain ⟨r, Hr⟩ : ∃ q, Hid (w2.heap.size = q) := ⟨_, ⟨rfl⟩⟩
            obtain ⟨w3, Hw3⟩ : ∃ x, Hid ((w2.alloc (.cells (nmV (false, false, false, false, false)) 40)).setRow r M = x) := ⟨_, ⟨rfl⟩⟩
            have HB23 : Hid (Below w2.heap.size w2 w3) := ⟨by rw [← Hw3.out, ← Hr.out]; exact below_setRow ((Below.refl _ w2).alloc (Nat.le_refl _) _) (Nat.le_refl _) _⟩
            have HM3 : Hid (w3.heap[r]? = some (.cells M 40 (0, 0))) := ⟨by rw [← Hw3.out, ← Hr.out]; exact setRow_heap _ _ (nmV (false, false, false, false, false)) _ 40 (0, 0) (heap_alloc_new w2 _)⟩
            have HX3 := Hid.mk (below_atN HB23.out HX2.out)
            have HB3 : Hid (Below w.heap.size w w3) := ⟨HB2.out.trans (HB23.out.mono HB2.out.size)⟩
            have x0 : w3.cell? ⟨r, 0, none⟩ = some (.bool m1) := by rw [cell_of_row _ _ _ _ _ _ HM3.out, ← HM.out]; rfl
            have x1 : w3.cell? ⟨r, 1, none⟩ = some (.bool m2) := by rw [cell_of_row _ _ _ _ _ _ HM3.out, ← HM.out]; rfl
            have x2 : w3.cell? ⟨r, 2, none⟩ = some (.bool m3) := by rw [cell_of_row _ _ _ _ _ _ HM3.out, ← HM.out]; rfl
            have x3 : w3.cell? ⟨r, 3, none⟩ = some (.bool m4) := by rw [cell_of_row _ _ _ _ _ _ HM3.out, ← HM.out]; rfl
            have x4 : w3.cell? ⟨r, 4, none⟩ = some (.bool m5) := by rw [cell_of_row _ _ _ _ _ _ HM3.out, ← HM.out]; rfl
            have y0 : w3.cell? ⟨q, 0, none⟩ = some (.int .i64 s) := by rw [cell_of_row _ _ _ _ _ _ HX3.out, ← HA.out]; rfl
            have y1 : w3.cell? ⟨q, 1, none⟩ = some (.string nm) := by rw [cell_of_row _ _ _ _ _ _ HX3.out, ← HA.out]; rfl
            have y2 : w3.cell? ⟨q, 2, none⟩ = some (.int .i64 g) := by rw [cell_of_row _ _ _ _ _ _ HX3.out, ← HA.out]; rfl
            have y3 : w3.cell? ⟨q, 3, none⟩ = some (.int .i64 i) := by rw [cell_of_row _ _ _ _ _ _ HX3.out, ← HA.out]; rfl
            have y4 : w3.cell? ⟨q, 4, none⟩ = some (.slice ha hn hc) := by rw [cell_of_row _ _ _ _ _ _ HX3.out, ← HA.out]; rfl
            have y5 : w3.cell? ⟨q, 5, none⟩ = some (.slice pa pn pc) := by rw [cell_of_row _ _ _ _ _ _ HX3.out, ← HA.out]; rfl
            have y6 : w3.cell? ⟨q, 6, none⟩ = some (.slice ba bn bc) := by rw [cell_of_row _ _ _ _ _ _ HX3.out, ← HA.out]; rfl
            clear t1 hB2
            go_upto_region 2 with (first | (refine wp_newZ zero40 rfl rfl ?_; rw [Hr.out]) | (refine wpList_store_row rfl 40 (.tmp 3) (.tmp 9) rfl r M rfl rfl 40 (nmV (false, false, false, false, false)) (by rw [← Hr.out]; exact heap_alloc_new w2 _) HMs.out.1 HMs.out.2.2 HMs.out.2.1 ?_; rw [Hw3.out]))
            go_wp2_with fail

            refine (T2.out w3).mono ?_
            rintro e w5 ⟨rfl, hB5⟩
            have HB5 : Hid (Below w.heap.size w w5) := ⟨HB3.out.trans (hB5.mono HB3.out.size)⟩
            have HX5 := Hid.mk (below_atN hB5 HX3.out)
            have HM5 := Hid.mk (below_atN hB5 HM3.out)
            have u0 : w5.cell? ⟨r, 0, none⟩ = some (.bool m1) := by rw [cell_of_row _ _ _ _ _ _ HM5.out, ← HM.out]; rfl
            have u1 : w5.cell? ⟨r, 1, none⟩ = some (.bool m2) := by rw [cell_of_row _ _ _ _ _ _ HM5.out, ← HM.out]; rfl
            have u2 : w5.cell? ⟨r, 2, none⟩ = some (.bool m3) := by rw [cell_of_row _ _ _ _ _ _ HM5.out, ← HM.out]; rfl
            have u3 : w5.cell? ⟨r, 3, none⟩ = some (.bool m4) := by rw [cell_of_row _ _ _ _ _ _ HM5.out, ← HM.out]; rfl
            have u4 : w5.cell? ⟨r, 4, none⟩ = some (.bool m5) := by rw [cell_of_row _ _ _ _ _ _ HM5.out, ← HM.out]; rfl
            have v0 : w5.cell? ⟨q, 0, none⟩ = some (.int .i64 s) := by rw [cell_of_row _ _ _ _ _ _ HX5.out, ← HA.out]; rfl
            have v1 : w5.cell? ⟨q, 1, none⟩ = some (.string nm) := by rw [cell_of_row _ _ _ _ _ _ HX5.out, ← HA.out]; rfl
            have v2 : w5.cell? ⟨q, 2, none⟩ = some (.int .i64 g) := by rw [cell_of_row _ _ _ _ _ _ HX5.out, ← HA.out]; rfl
            have v3 : w5.cell? ⟨q, 3, none⟩ = some (.int .i64 i) := by rw [cell_of_row _ _ _ _ _ _ HX5.out, ← HA.out]; rfl
            have v4 : w5.cell? ⟨q, 4, none⟩ = some (.slice ha hn hc) := by rw [cell_of_row _ _ _ _ _ _ HX5.out, ← HA.out]; rfl
            have v5 : w5.cell? ⟨q, 5, none⟩ = some (.slice pa pn pc) := by rw [cell_of_row _ _ _ _ _ _ HX5.out, ← HA.out]; rfl
            have v6 : w5.cell? ⟨q, 6, none⟩ = some (.slice ba bn bc) := by rw [cell_of_row _ _ _ _ _ _ HX5.out, ← HA.out]; rfl
            clear hB5 x0 x1 x2 x3 x4 y0 y1 y2 y3 y4 y5 y6
            go_wp2_with fail
            refine (T3.out w5 (HHx.out w5 HB5.out) (HPx.out w5 HB5.out)).mono ?_
            rintro e w6 ⟨rfl, hB6⟩
            have HB6 : Hid (Below w.heap.size w w6) := ⟨HB5.out.trans (hB6.mono HB5.out.size)⟩
            clear hB6
            cases B3 with
            | false =>
              have HR : Hid (Z = 2) := ⟨by rw [HR1.out, if_pos rfl]⟩
              go_wp2_with fail
              go_ret
              exact ⟨by rw [HR.out]; rfl, HB6.out⟩
            | true =>
              have HR : Hid (Z = 0) := ⟨by rw [HR1.out, if_neg (by decide)]⟩
              go_wp2_with fail
              go_ret
              exact ⟨by rw [HR.out]; rfl, HB6.out⟩
end
end Go.Proofs.Ythohpbppfihoiaa
