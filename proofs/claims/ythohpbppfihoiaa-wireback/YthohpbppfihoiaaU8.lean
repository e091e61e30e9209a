/- Put. -/
import Derived.Test.YthohpbppfihoiaaGu
namespace Go.Proofs.Ythohpbppfihoiaa
open Go.RowKit

section
variable {w : World}
theorem put_ok (s : Int) (nm : ByteArray) (g i : Int) (ha pa ba : Option Addr) (hn hc pn pc bn bc : Nat) (H : List Hd) (P : List Pt) (bs : List Int) (hH : RdE he 2 h0 w (.slice ha hn hc) H) (hHn : H.length = hn) (hP : RdE pe 33 p0 w (.slice pa pn pc) P) (hPn : P.length = pn) (hb : Oct.Bs w (.slice ba bn bc) bs) (hbn : bs.length = bn) (h32 : ∀ p ∈ P, p.1.length = 32) (hk : chk s nm g i H P bn = 0) :
    Calls Try.prog 10 #[.agg (na s nm g i (.slice ha hn hc) (.slice pa pn pc) (.slice ba bn bc))] w fun e w' => ∃ v, e = .returned (.tuple #[v, .int .i64 0]) ∧ OwnY w' w.heap.size v (pB s nm g i H P bs) ∧ Below w.heap.size w w' := by
  have R := right_of hk
  have hg : 0 ≤ g := by
    cases hm : (nmd s).1 with
    | true => exact (R.file hm).2.1
    | false => have := (R.nofile hm).2; omega
  obtain ⟨gn, rfl⟩ := Int.eq_ofNat_of_zero_le hg
  obtain ⟨inn, rfl⟩ := Int.eq_ofNat_of_zero_le R.i.1
  rcases say7 R.say with rfl | rfl | rfl | rfl | rfl | rfl | rfl
  · have e : pB 1 nm gn inn H P bs = Oct.numB 1 := by simp [pB, nmd]
    rw [e]; exact put_1 nm gn inn ha pa ba hn hc pn pc bn bc H P bs hH hHn hP hPn hb hbn h32 hk
  · have e : pB 2 nm gn inn H P bs = Oct.numB 2 ++ lB hB H := by simp [pB, nmd]
    rw [e]; exact put_2 nm gn inn ha pa ba hn hc pn pc bn bc H P bs hH hHn hP hPn hb hbn h32 hk
  · have e : pB 3 nm gn inn H P bs = Oct.numB 3 ++ fB nm gn := by simp [pB, nmd]
    rw [e]; exact put_3 nm gn inn ha pa ba hn hc pn pc bn bc H P bs hH hHn hP hPn hb hbn h32 hk
  · have e : pB 4 nm gn inn H P bs = Oct.numB 4 ++ fB nm gn ++ lB qB P := by simp [pB, nmd]
    rw [e]; exact put_4 nm gn inn ha pa ba hn hc pn pc bn bc H P bs hH hHn hP hPn hb hbn h32 hk
  · have e : pB 5 nm gn inn H P bs = Oct.numB 5 ++ fB nm gn := by simp [pB, nmd]
    rw [e]; exact put_5 nm gn inn ha pa ba hn hc pn pc bn bc H P bs hH hHn hP hPn hb hbn h32 hk
  · have e : pB 6 nm gn inn H P bs = Oct.numB 6 ++ fB nm gn ++ Oct.numB inn := by simp [pB, nmd]
    rw [e]; exact put_6 nm gn inn ha pa ba hn hc pn pc bn bc H P bs hH hHn hP hPn hb hbn h32 hk
  · have e : pB 7 nm gn inn H P bs = Oct.numB 7 ++ fB nm gn ++ Oct.numB inn ++ (Oct.numB bs.length ++ bs) := by simp [pB, nmd]
    rw [e]; exact put_7 nm gn inn ha pa ba hn hc pn pc bn bc H P bs hH hHn hP hPn hb hbn h32 hk
set_option maxHeartbeats 4000000 in
set_option maxRecDepth 100000 in
theorem put_no (s : Int) (nm : ByteArray) (g i : Int) (ha pa ba : Option Addr) (hn hc pn pc bn bc : Nat) (H : List Hd) (P : List Pt) (hH : RdE he 2 h0 w (.slice ha hn hc) H) (hHn : H.length = hn) (hP : RdE pe 33 p0 w (.slice pa pn pc) P) (hPn : P.length = pn) (h32 : ∀ p ∈ P, p.1.length = 32) (hk : chk s nm g i H P bn ≠ 0) :
    Calls Try.prog 10 #[.agg (na s nm g i (.slice ha hn hc) (.slice pa pn pc) (.slice ba bn bc))] w fun e w' => e = .returned (.tuple #[.slice none 0 0, .int .i64 (chk s nm g i H P bn)]) ∧ Below w.heap.size w w' := by
  obtain ⟨q, Hq⟩ : ∃ q, Hid (w.heap.size = q) := ⟨_, ⟨rfl⟩⟩
  obtain ⟨A, HA⟩ : ∃ x, Hid (na s nm g i (.slice ha hn hc) (.slice pa pn pc) (.slice ba bn bc) = x) := ⟨_, ⟨rfl⟩⟩
  obtain ⟨w1, Hw1⟩ : ∃ x, Hid (w.alloc (.cells A 27) = x) := ⟨_, ⟨rfl⟩⟩
  have HB1 : Hid (Below w.heap.size w w1) := ⟨by rw [← Hw1.out]; exact (Below.refl _ w).alloc (Nat.le_refl _) _⟩
  have HX1 : Hid (w1.heap[q]? = some (.cells A 27 (0, 0))) := ⟨by rw [← Hw1.out, ← Hq.out]; exact heap_alloc_new w _⟩
  have HIA : Hid ((Try.prog.info? 27).map (·.size) = some A.size) := ⟨by rw [← HA.out]; exact info27⟩
  have t8 := check8 (w := w1) s nm g i ha pa ba hn hc pn pc bn bc H P (hH.far (Chg.ofBelow (X := []) HB1.out) (by simp)) hHn (hP.far (Chg.ofBelow (X := []) HB1.out) (by simp)) hPn h32
  rw [HA.out] at t8 ⊢
  obtain ⟨z, Hz⟩ : ∃ z, Hid (chk s nm g i H P bn = z) := ⟨_, ⟨rfl⟩⟩
  rw [Hz.out] at t8 hk ⊢
  have hz : (z != 0) = true := by simpa using hk
  clear hH hP h32 hk
  go_enter Try.func10, Try.ntmps10
  go_upto_region 1 with (refine wp_box rfl 27 (.tmp 0) rfl A rfl ?_; rw [Hw1.out, Hq.out])
  go_wp2_with (refine wp_load rfl 27 (.tmp 1) rfl q rfl A 27 (0, 0) _ HX1.out Try.underlying27 rfl HIA.out ?_)
  refine t8.mono ?_
  rintro e w2 ⟨rfl, hB2⟩
  have HB2 : Hid (Below w.heap.size w w2) := ⟨HB1.out.trans (hB2.mono HB1.out.size)⟩
  clear t8 hB2
  go_wp2_with fail
  go_ret2
  exact ⟨rfl, HB2.out⟩
end
end Go.Proofs.Ythohpbppfihoiaa
