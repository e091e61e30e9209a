/- The document's Check. -/
import Derived.Test.YthohpbppfihoiaaGn
namespace Go.Proofs.Ythohpbppfihoiaa
open Go.RowKit Oct

section
variable {w : World}
set_option maxHeartbeats 4000000 in
set_option maxRecDepth 100000 in
theorem rcheck_no (s : Int) (hs : isS s = false) (nm : ByteArray) (g i : Int) (ha pa ba : Option Addr) (hn hc pn pc bn bc : Nat) (H : List Hd) (P : List Pt) :
    Calls Try.prog 9 #[.agg (na s nm g i (.slice ha hn hc) (.slice pa pn pc) (.slice ba bn bc))] w fun e w' => e = .returned (.int .i64 (chk s nm g i H P bn)) ∧ Below w.heap.size w w' := by
  have HZ : Hid (chk s nm g i H P bn = 4) := ⟨by unfold chk; rw [if_pos hs]⟩
  rw [HZ.out]
  obtain ⟨q, Hq⟩ : ∃ q, Hid (w.heap.size = q) := ⟨_, ⟨rfl⟩⟩
  obtain ⟨A, HA⟩ : ∃ x, Hid (na s nm g i (.slice ha hn hc) (.slice pa pn pc) (.slice ba bn bc) = x) := ⟨_, ⟨rfl⟩⟩
  obtain ⟨w1, Hw1⟩ : ∃ x, Hid (w.alloc (.cells A 27) = x) := ⟨_, ⟨rfl⟩⟩
  have HB1 : Hid (Below w.heap.size w w1) := ⟨by rw [← Hw1.out]; exact (Below.refl _ w).alloc (Nat.le_refl _) _⟩
  have HX1 : Hid (w1.heap[q]? = some (.cells A 27 (0, 0))) := ⟨by rw [← Hw1.out, ← Hq.out]; exact heap_alloc_new w _⟩
  have a0 : w1.cell? ⟨q, 0, none⟩ = some (.int .i64 s) := by rw [cell_of_row _ _ _ _ _ _ HX1.out, ← HA.out]; rfl
  rw [HA.out]
  unfold isS at hs
  have hs2 := of_decide_eq_false hs
  clear hs HZ
  by_cases h1 : s < 1
  · clear hs2
    go_enter Try.func9, Try.ntmps9
    go_upto_region 1 with (refine wp_box rfl 27 (.tmp 0) rfl A rfl ?_; rw [Hw1.out, Hq.out])
    go_wp2_with fail
    go_ret
    exact ⟨rfl, HB1.out⟩
  · have h2 : 7 < s := by omega
    clear hs2
    go_enter Try.func9, Try.ntmps9
    go_upto_region 1 with (refine wp_box rfl 27 (.tmp 0) rfl A rfl ?_; rw [Hw1.out, Hq.out])
    go_wp2_with fail
    go_ret
    exact ⟨rfl, HB1.out⟩
theorem rcheck9 (s : Int) (nm : ByteArray) (g i : Int) (ha pa ba : Option Addr) (hn hc pn pc bn bc : Nat) (H : List Hd) (P : List Pt) (hH : RdE he 2 h0 w (.slice ha hn hc) H) (hHn : H.length = hn) (hP : RdE pe 33 p0 w (.slice pa pn pc) P) (hPn : P.length = pn) :
    Calls Try.prog 9 #[.agg (na s nm g i (.slice ha hn hc) (.slice pa pn pc) (.slice ba bn bc))] w fun e w' => e = .returned (.int .i64 (chk s nm g i H P bn)) ∧ Below w.heap.size w w' := by
  cases hs : isS s with
  | false => exact rcheck_no s hs nm g i ha pa ba hn hc pn pc bn bc H P
  | true =>
    rcases say7 hs with rfl | rfl | rfl | rfl | rfl | rfl | rfl
    · exact rcheck_1 nm g i ha pa ba hn hc pn pc bn bc H P hH hHn hP hPn
    · exact rcheck_2 nm g i ha pa ba hn hc pn pc bn bc H P hH hHn hP hPn
    · exact rcheck_3 nm g i ha pa ba hn hc pn pc bn bc H P hH hHn hP hPn
    · exact rcheck_4 nm g i ha pa ba hn hc pn pc bn bc H P hH hHn hP hPn
    · exact rcheck_5 nm g i ha pa ba hn hc pn pc bn bc H P hH hHn hP hPn
    · exact rcheck_6 nm g i ha pa ba hn hc pn pc bn bc H P hH hHn hP hPn
    · exact rcheck_7 nm g i ha pa ba hn hc pn pc bn bc H P hH hHn hP hPn
end
end Go.Proofs.Ythohpbppfihoiaa
