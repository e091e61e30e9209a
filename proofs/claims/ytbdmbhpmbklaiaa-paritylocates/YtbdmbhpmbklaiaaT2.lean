/- The document's Wrong. -/
import Derived.Test.YtbdmbhpmbklaiaaT1
namespace Go.Proofs.Ytbdmbhpmbklaiaa
open Go.RowKit Gf
section
variable {w : World}
set_option maxHeartbeats 8000000 in
set_option maxRecDepth 100000 in
theorem rwrong26 (v : Value) (L : List Sd) {B : Nat × TypeId} (hv : RdR w B v L) (hl : L.length ≤ 1000000) (h4 : ∀ i, i < L.length → (sl (L.getD i none)).length ≤ 4096) :
    Calls Try.prog 26 #[v] w fun e w' => ∃ z : Int, e = .returned (.int .i64 z) ∧ (z = 4 ∧ Wr L ∨ z = 0 ∧ ¬ Wr L) ∧ Below w.heap.size w w' := by
  obtain ⟨va, vc, rfl, h1, h2, _⟩ := hv.shape
  have HV := Hid.mk hv
  have H4 := Hid.mk h4
  obtain ⟨n, Hn⟩ : ∃ n, Hid (L.length = n) := ⟨_, ⟨rfl⟩⟩
  rw [Hn.out] at hl h1 HV ⊢
  clear h2 hv h4
  go_enter Try.func26, Try.ntmps26
  go_upto_region 2 with fail
  go_loopg [3] n (fun gg s3 wr => ∃ i : Nat, i ≤ n ∧ n - i ≤ gg ∧ s3 = .int .i64 (i : Int) ∧ Hid (w = wr))
  case atStart => exact ⟨0, Nat.zero_le _, by omega, rfl, ⟨rfl⟩⟩
  case round =>
    obtain ⟨i, hi, hgg, rfl, HW⟩ := hrel
    rename World => wo
    have hw := HW.out
    subst hw
    clear HW
    by_cases hlt : i < n
    · have hltz : (i : Int) < (n : Int) := by omega
      have hiL : i < L.length := by rw [Hn.out]; exact hlt
      obtain ⟨b, off, cap, e, _, hc⟩ := HV.out.at hiL
      rw [Hn.out] at e
      simp only [Value.slice.injEq] at e
      obtain ⟨rfl, -, rfl⟩ := e
      obtain ⟨sa, sc, c1, _⟩ := hc i hiL
      have h4 := H4.out i hiL
      generalize (sl (L.getD i none)).length = sn at c1 h4
      have h4z : ¬ (4096 : Int) < (sn : Int) := by omega
      clear hc
      go_wp2_with fail
      go_roundg (n - (i + 1))
      case measure => omega
      case rel => exact ⟨i + 1, by omega, by omega, by go_num, ⟨rfl⟩⟩
    · obtain rfl : n = i := by omega
      go_upto_region 7 with fail
      go_loopg [4, 5] n (fun gg s4 _ wr => ∃ i : Nat, i ≤ n ∧ n - i ≤ gg ∧ s4 = .int .i64 (i : Int) ∧ Hid (∀ i', i' < i → ∀ k, k < i' → ¬ ((L.getD i' none).isSome = true ∧ (L.getD k none).isSome = true ∧ (sl (L.getD i' none)).length ≠ (sl (L.getD k none)).length)) ∧ Hid (Below w.heap.size w wr))
      case atStart => exact ⟨0, Nat.zero_le _, by omega, rfl, ⟨fun i' hi' => by omega⟩, ⟨Below.refl _ _⟩⟩
      case round =>
        obtain ⟨i, hi, hgg, rfl, HF, HB⟩ := hrel
        rename World => wo
        by_cases hlt : i < n
        · have hltz : (i : Int) < (n : Int) := by omega
          have hiL : i < L.length := by rw [Hn.out]; exact hlt
          go_upto_region 10 with fail
          go_loopg [5] i (fun gg2 s5 wr => ∃ k : Nat, k ≤ i ∧ i - k ≤ gg2 ∧ s5 = .int .i64 (k : Int) ∧ Hid (∀ k', k' < k → ¬ ((L.getD i none).isSome = true ∧ (L.getD k' none).isSome = true ∧ (sl (L.getD i none)).length ≠ (sl (L.getD k' none)).length)) ∧ Hid (Below w.heap.size w wr))
          case atStart => exact ⟨0, Nat.zero_le _, by omega, rfl, ⟨fun k' hk' => by omega⟩, HB⟩
          case round =>
            clear HB
            obtain ⟨k, hk, hgg2, rfl, HK, HB⟩ := hrel
            rename World => wk
            by_cases hki : k < i
            · have hkiz : (k : Int) < (i : Int) := by omega
              have hknz : (k : Int) < (n : Int) := by omega
              have hkL : k < L.length := by rw [Hn.out]; omega
              obtain ⟨b, off, cap, e, _, hc⟩ := (HV.out.below HB.out).at hiL
              rw [Hn.out] at e
              simp only [Value.slice.injEq] at e
              obtain ⟨rfl, -, rfl⟩ := e
              obtain ⟨a1, s1, c1, h1n, _⟩ := hc i hiL
              obtain ⟨a2, s2, c2, h2n, _⟩ := hc k hkL
              have q1 := fun w => nilNe33 a1 (sl (L.getD i none)).length s1 w
              have q2 := fun w => nilNe33 a2 (sl (L.getD k none)).length s2 w
              have HN1 : Hid (a1.isSome = (L.getD i none).isSome) := ⟨by cases a1 <;> cases hh : L.getD i none <;> simp_all⟩
              have HN2 : Hid (a2.isSome = (L.getD k none).isSome) := ⟨by cases a2 <;> cases hh : L.getD k none <;> simp_all⟩
              rw [HN1.out] at q1
              rw [HN2.out] at q2
              clear hc h1n h2n
              by_cases hs1 : (L.getD i none).isSome = true
              · rw [hs1] at q1
                by_cases hs2 : (L.getD k none).isSome = true
                · rw [hs2] at q2
                  by_cases hne : (sl (L.getD i none)).length = (sl (L.getD k none)).length
                  · have HK' : Hid (∀ k', k' < k + 1 → ¬ ((L.getD i none).isSome = true ∧ (L.getD k' none).isSome = true ∧ (sl (L.getD i none)).length ≠ (sl (L.getD k' none)).length)) := ⟨fun k' hk' => by
                      by_cases e : k' = k
                      · rw [e]; exact fun h => h.2.2 hne
                      · exact HK.out k' (by omega)⟩
                    generalize (sl (L.getD i none)).length = n1 at *
                    generalize (sl (L.getD k none)).length = n2 at *
                    have hb : ((n1 : Int) != (n2 : Int)) = false := by simp [hne]
                    clear hne HN1 HN2 hs1 hs2
                    go_upto_region 12 with fail
                    go_quiet (fail)
                    go_wp2_with fail
                    go_roundg (i - (k + 1))
                    case measure => omega
                    case rel => exact ⟨k + 1, by omega, by omega, by go_num, HK', ⟨below_drewN HB.out nq⟩⟩
                  · have HWr : Hid (Wr L) := ⟨⟨i, k, hki, hiL, hs1, hs2, hne⟩⟩
                    generalize (sl (L.getD i none)).length = n1 at *
                    generalize (sl (L.getD k none)).length = n2 at *
                    have hb : ((n1 : Int) != (n2 : Int)) = true := by simp; omega
                    clear hne HN1 HN2 hs1 hs2
                    go_upto_region 12 with fail
                    go_quiet (fail)
                    go_wp2_with fail
                    go_ret
                    exact ⟨_, rfl, .inl ⟨rfl, HWr.out⟩, below_drewN HB.out nq⟩
                · have hs2' : (L.getD k none).isSome = false := by simpa using hs2
                  rw [hs2'] at q2
                  have HK' : Hid (∀ k', k' < k + 1 → ¬ ((L.getD i none).isSome = true ∧ (L.getD k' none).isSome = true ∧ (sl (L.getD i none)).length ≠ (sl (L.getD k' none)).length)) := ⟨fun k' hk' => by
                    by_cases e : k' = k
                    · rw [e]; exact fun h => hs2 h.2.1
                    · exact HK.out k' (by omega)⟩
                  generalize (sl (L.getD i none)).length = n1 at *
                  generalize (sl (L.getD k none)).length = n2 at *
                  clear HN1 HN2 hs1 hs2 hs2'
                  go_upto_region 12 with fail
                  go_quiet (fail)
                  go_wp2_with fail
                  go_roundg (i - (k + 1))
                  case measure => omega
                  case rel => exact ⟨k + 1, by omega, by omega, by go_num, HK', ⟨below_drewN HB.out nq⟩⟩
              · have hs1' : (L.getD i none).isSome = false := by simpa using hs1
                rw [hs1'] at q1
                have HK' : Hid (∀ k', k' < k + 1 → ¬ ((L.getD i none).isSome = true ∧ (L.getD k' none).isSome = true ∧ (sl (L.getD i none)).length ≠ (sl (L.getD k' none)).length)) := ⟨fun k' hk' h => hs1 h.1⟩
                generalize (sl (L.getD i none)).length = n1 at *
                generalize (sl (L.getD k none)).length = n2 at *
                clear HN1 HN2 hs1 hs1' q2
                go_upto_region 12 with fail
                go_quiet (fail)
                go_wp2_with fail
                go_roundg (i - (k + 1))
                case measure => omega
                case rel => exact ⟨k + 1, by omega, by omega, by go_num, HK', ⟨below_drewN HB.out nq⟩⟩
            · obtain rfl : i = k := by omega
              have HF' : Hid (∀ i', i' < i + 1 → ∀ k, k < i' → ¬ ((L.getD i' none).isSome = true ∧ (L.getD k none).isSome = true ∧ (sl (L.getD i' none)).length ≠ (sl (L.getD k none)).length)) := ⟨fun i' hi' k' hk' => by
                by_cases e : i' = i
                · rw [e]; exact HK.out k' (by omega)
                · exact HF.out i' (by omega) k' hk'⟩
              go_wp2_with fail
              go_roundg (n - (i + 1))
              case measure => omega
              case rel => exact ⟨i + 1, by omega, by omega, by go_num, HF', HB⟩
        · obtain rfl : n = i := by omega
          have HWr : Hid (¬ Wr L) := ⟨fun ⟨i', k', h1, h2, h3⟩ => HF.out i' (by rw [← Hn.out]; exact h2) k' h1 h3⟩
          go_wp2_with fail
          go_ret
          exact ⟨_, rfl, .inr ⟨rfl, HWr.out⟩, HB.out⟩
end
end Go.Proofs.Ytbdmbhpmbklaiaa
