/- Two rows of the same ints are found to be the same. -/
import Derived.Test.YtjcojpddjhjhbaaInts
import Derived.BigQuiet
namespace Go.Proofs.Ytjcojpddjhjhbaa
open Go.RowKit

variable {w : World}
set_option maxHeartbeats 4000000 in
set_option maxRecDepth 100000 in
theorem ints_same (u v : Value) (l : List Int) (hu : RdI w u l) (hv : RdI w v l) (hl : l.length ≤ 6000000000000) : Calls Try.prog 15 #[u, v] w fun e w' => e = .returned (.bool true) ∧ Below w.heap.size w w' := by
  have HU := Hid.mk hu
  have HV := Hid.mk hv
  obtain ⟨au, cu, rfl, hcu, hcum, _⟩ := hu.shape
  obtain ⟨av, cv, rfl, hcv, hcvm, _⟩ := hv.shape
  obtain ⟨n, Hn⟩ : ∃ n, Hid (l.length = n) := ⟨_, ⟨rfl⟩⟩
  rw [Hn.out] at HU HV hcu hcv hl ⊢
  clear hu hv
  go_enter Try.func15, Try.ntmps15
  go_wp2_with fail
  go_loopg [5] n (fun gg s5 wr => ∃ i : Nat, i ≤ n ∧ n - i ≤ gg ∧ s5 = .int .i64 (i : Int) ∧ Hid (Below w.heap.size w wr))
  case atStart => exact ⟨0, Nat.zero_le _, by omega, rfl, ⟨Below.refl _ _⟩⟩
  case round =>
    obtain ⟨i, hi, hgg, rfl, HB⟩ := hrel
    rename World => wo
    by_cases hlt : i < n
    · have hltz : (i : Int) < (n : Int) := by omega
      have hiL : i < l.length := by rw [Hn.out]; exact hlt
      obtain ⟨b, off, cap, e, _, hc⟩ := HU.out.at hiL
      rw [Hn.out] at e
      simp at e
      obtain ⟨rfl, rfl⟩ := e
      obtain ⟨b', off', cap', e, _, hc'⟩ := HV.out.at hiL
      rw [Hn.out] at e
      simp at e
      obtain ⟨rfl, rfl⟩ := e
      have h1 := hc i hiL
      have h2 := hc' i hiL
      generalize l.getD i 0 = x at h1 h2
      have c1 : wo.cell? ⟨b, off + i, none⟩ = some (.int .i64 x) := (HB.out.cell (p := ⟨b, off + i, none⟩) (World.block_lt_of_cell? _ _ h1)).trans h1
      have c2 : wo.cell? ⟨b', off' + i, none⟩ = some (.int .i64 x) := (HB.out.cell (p := ⟨b', off' + i, none⟩) (World.block_lt_of_cell? _ _ h2)).trans h2
      clear hc hc' h1 h2
      go_upto_region 6 with fail
      go_quiet (fail)
      go_wp2_with fail
      go_roundg (n - (i + 1))
      case measure => omega
      case rel => exact ⟨i + 1, by omega, by omega, by go_num, ⟨below_drewN HB.out nq⟩⟩
    · obtain rfl : n = i := by omega
      go_wp2_with fail
      go_ret
      exact ⟨rfl, HB.out⟩
end Go.Proofs.Ytjcojpddjhjhbaa
