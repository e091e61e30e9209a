/- The document's match at a place. -/
import Derived.Test.YtoneepoaodoijaaP7
import Derived.Test.YtoneepoaodoijaaZ1
import Derived.Test.YtoneepoaodoijaaP1
namespace Go.Proofs.Ytoneepoaodoijaa
open Go.RowKit Go.Lib Oct

section
variable {w : World}
set_option maxHeartbeats 8000000 in
set_option maxRecDepth 100000 in
theorem match16 (v : Value) (p : List Int) (i : Nat) (hv : RdY w v p) (hi : i < p.length) (hp : p.length ≤ 8192) :
    Calls Try.prog 16 #[v, .int .i64 i] w fun e w' => e = .returned (.tuple #[.int .i64 ((mt p i).1 : Int), .int .i64 ((mt p i).2 : Int)]) ∧ Below w.heap.size w w' := by
  obtain ⟨g, off, cap, rfl, hcap, hat⟩ := hv.at hi
  have HV := Hid.mk hv
  obtain ⟨n, Hn⟩ : ∃ n, Hid (p.length = n) := ⟨_, ⟨rfl⟩⟩
  obtain ⟨D, HD⟩ : ∃ n, Hid (min i 4096 = n) := ⟨_, ⟨rfl⟩⟩
  have hD : D ≤ i ∧ D ≤ 4096 ∧ (D = i ∨ D = 4096) := by rw [← HD.out]; omega
  have HMt : Hid (mt p i = bst p i D) := ⟨by unfold mt; rw [HD.out]⟩
  rw [HMt.out]
  have HAt : Hid (∀ (w' : World), Below w.heap.size w w' → ∀ j, j < p.length → w'.cell? ⟨g, off + j, none⟩ = some (.int .u8 (p.getD j 0))) := ⟨fun w' h j hj => (h.cell (p := ⟨g, off + j, none⟩) (World.block_lt_of_cell? _ _ (hat j hj))).trans (hat j hj)⟩
  rw [Hn.out] at hi hp hcap HAt ⊢
  obtain ⟨m, Hm⟩ : ∃ m, Hid (mst p i = m) := ⟨_, ⟨rfl⟩⟩
  have hm : m ≤ 131 ∧ i + m ≤ n ∧ (m = 131 ∨ i + m = n) := by rw [← Hm.out, mst, Hn.out]; omega
  clear hv hat
  go_enter Try.func16, Try.ntmps16
  go_upto_region 3 with fail
  go_loopg [6, 7, 8, 9] D (fun gg s6 s7 s8 s9 wr => ∃ d : Nat, d ≤ D ∧ D - d ≤ gg ∧ s8 = .int .i64 ((d : Int) + 1) ∧ s6 = .int .i64 ((bst p i d).1 : Int) ∧ s7 = .int .i64 ((bst p i d).2 : Int) ∧ Hid (Below w.heap.size w wr))
  case atStart => exact ⟨0, Nat.zero_le _, by omega, rfl, rfl, rfl, ⟨Below.refl _ _⟩⟩
  case round =>
    obtain ⟨d, hd, hgg, rfl, rfl, rfl, HB⟩ := hrel
    rename World => wo
    obtain ⟨b1, b2, Hb⟩ : ∃ x y, Hid (bst p i d = (x, y)) := ⟨_, _, ⟨rfl⟩⟩
    have hb1 : b1 ≤ 131 := by have := (bst_le p i d).1; rw [Hb.out, Hm.out] at this; simp only at this; omega
    rw [Hb.out]
    simp only
    by_cases hlt : d < D
    · have h1 : (d : Int) + 1 ≤ (i : Int) := by omega
      have h2 : (d : Int) + 1 ≤ 4096 := by omega
      obtain ⟨A, HA⟩ : ∃ A, Hid (alk p (i - (d + 1)) i m 0 = A) := ⟨_, ⟨rfl⟩⟩
      have hA : A ≤ m := by rw [← HA.out]; exact alk_le _ _ _ _ _
      have HSame : Hid (∀ s, s < A → p.getD (i - (d + 1) + s) 0 = p.getD (i + s) 0) := ⟨fun s hs => by have := alk_eq p (i - (d + 1)) i m 0 s (by rw [HA.out]; exact hs); simpa using this⟩
      have HNe : Hid (A < m → p.getD (i - (d + 1) + A) 0 ≠ p.getD (i + A) 0) := ⟨fun h => by have := alk_ne p (i - (d + 1)) i m 0 (by rw [HA.out]; exact h); rw [HA.out] at this; simpa using this⟩
      have HBs : Hid (bst p i (d + 1) = if 4 ≤ A ∧ b1 < A then (A, d + 1) else (b1, b2)) := ⟨by rw [bst, Hm.out, HA.out, Hb.out]⟩
      have hw0 : IntKind.i64.wrap ((d : Int) + 1 + 1) = (d : Int) + 1 + 1 := IntWalk.i64_in _ ⟨by omega, by omega⟩
      go_upto_region 6 with fail
      go_loopg [9] (A + 1) (fun g2 s9 wi => ∃ t : Nat, t ≤ A ∧ A + 1 - t ≤ g2 ∧ s9 = .int .i64 (t : Int) ∧ Hid (Below w.heap.size w wi))
      case atStart => exact ⟨0, Nat.zero_le _, by omega, rfl, HB⟩
      case round =>
        obtain ⟨t, ht, hg2, rfl, HBi⟩ := hrel
        rename World => wi
        have hwt : IntKind.i64.wrap ((i : Int) + (t : Int)) = ((i + t : Nat) : Int) := by rw [show (i : Int) + (t : Int) = ((i + t : Nat) : Int) by omega]; exact IntWalk.i64_in _ ⟨by omega, by omega⟩
        have hwd : IntKind.i64.wrap (((i + t : Nat) : Int) - ((d : Int) + 1)) = ((i - (d + 1) + t : Nat) : Int) := by rw [show ((i + t : Nat) : Int) - ((d : Int) + 1) = ((i - (d + 1) + t : Nat) : Int) by omega]; exact IntWalk.i64_in _ ⟨by omega, by omega⟩
        have hw1 : IntKind.i64.wrap ((t : Int) + 1) = (t : Int) + 1 := IntWalk.i64_in _ ⟨by omega, by omega⟩
        obtain ⟨u, Hu⟩ : ∃ u, Hid (i + t = u) := ⟨_, ⟨rfl⟩⟩
        obtain ⟨x, Hx⟩ : ∃ u, Hid (i - (d + 1) + t = u) := ⟨_, ⟨rfl⟩⟩
        rw [Hu.out] at hwt hwd
        rw [Hx.out] at hwd
        by_cases htA : t < A
        · have hz1 : (t : Int) < 131 := by omega
          have hun : u < n := by rw [← Hu.out]; omega
          have hxn : x < n := by rw [← Hx.out]; omega
          have hzu : (u : Int) < (n : Int) := by omega
          have hzx : (x : Int) < (n : Int) := by omega
          have c1 := HAt.out wi HBi.out u hun
          have c2 := HAt.out wi HBi.out x hxn
          have he : p.getD x 0 = p.getD u 0 := by rw [← Hx.out, ← Hu.out]; exact HSame.out t htA
          rw [he] at c2
          generalize p.getD u 0 = y at c1 c2
          clear he
          go_upto_region 6 with fail
          go_quiet (fail)
          go_wp2_with fail
          go_roundg (A + 1 - (t + 1))
          case measure => omega
          case rel => exact ⟨t + 1, by omega, by omega, by go_num, ⟨below_drewN HBi.out nq⟩⟩
        · obtain rfl : A = t := by omega
          by_cases h131 : A < 131
          · by_cases hin : i + A < n
            · have hz1 : (A : Int) < 131 := by omega
              have hun : u < n := by rw [← Hu.out]; omega
              have hxn : x < n := by rw [← Hx.out]; omega
              have hzu : (u : Int) < (n : Int) := by omega
              have hzx : (x : Int) < (n : Int) := by omega
              have c1 := HAt.out wi HBi.out u hun
              have c2 := HAt.out wi HBi.out x hxn
              have hne : p.getD x 0 ≠ p.getD u 0 := by rw [← Hx.out, ← Hu.out]; exact HNe.out (by omega)
              generalize p.getD u 0 = y at c1 hne
              generalize p.getD x 0 = y2 at c2 hne
              have hnb : (y == y2) = false := by simpa using (fun e => hne e.symm)
              clear hne
              go_upto_region 6 with fail
              go_quiet (fail)
              have HBj : Hid (Below w.heap.size w (wi.drewN nq)) := ⟨below_drewN HBi.out nq⟩
              clear c1 c2 hnb
              by_cases hbt : 4 ≤ A ∧ b1 < A
              · have hz4 : (4 : Int) ≤ (A : Int) := by omega
                have hzb : (b1 : Int) < (A : Int) := by omega
                have HBn : Hid (bst p i (d + 1) = (A, d + 1)) := ⟨by rw [HBs.out, if_pos hbt]⟩
                clear hbt
                go_wp2_with fail
                go_roundg (D - (d + 1))
                case measure => omega
                case rel => exact ⟨d + 1, by omega, by omega, by go_num, by rw [HBn.out], by rw [HBn.out]; go_num, HBj⟩
              · have HBn : Hid (bst p i (d + 1) = (b1, b2)) := ⟨by rw [HBs.out, if_neg hbt]⟩
                by_cases h4 : 4 ≤ A
                · have hz4 : (4 : Int) ≤ (A : Int) := by omega
                  have hzb : ¬ (b1 : Int) < (A : Int) := by omega
                  clear hbt
                  go_wp2_with fail
                  go_roundg (D - (d + 1))
                  case measure => omega
                  case rel => exact ⟨d + 1, by omega, by omega, by go_num, by rw [HBn.out], by rw [HBn.out], HBj⟩
                · have hz4 : ¬ (4 : Int) ≤ (A : Int) := by omega
                  clear hbt
                  go_wp2_with fail
                  go_roundg (D - (d + 1))
                  case measure => omega
                  case rel => exact ⟨d + 1, by omega, by omega, by go_num, by rw [HBn.out], by rw [HBn.out], HBj⟩
            · have hz1 : (A : Int) < 131 := by omega
              have hzu : ¬ (u : Int) < (n : Int) := by rw [← Hu.out]; omega
              go_upto_region 6 with fail
              go_quiet (fail)
              have HBj : Hid (Below w.heap.size w (wi.drewN nq)) := ⟨below_drewN HBi.out nq⟩
              by_cases hbt : 4 ≤ A ∧ b1 < A
              · have hz4 : (4 : Int) ≤ (A : Int) := by omega
                have hzb : (b1 : Int) < (A : Int) := by omega
                have HBn : Hid (bst p i (d + 1) = (A, d + 1)) := ⟨by rw [HBs.out, if_pos hbt]⟩
                clear hbt
                go_wp2_with fail
                go_roundg (D - (d + 1))
                case measure => omega
                case rel => exact ⟨d + 1, by omega, by omega, by go_num, by rw [HBn.out], by rw [HBn.out]; go_num, HBj⟩
              · have HBn : Hid (bst p i (d + 1) = (b1, b2)) := ⟨by rw [HBs.out, if_neg hbt]⟩
                by_cases h4 : 4 ≤ A
                · have hz4 : (4 : Int) ≤ (A : Int) := by omega
                  have hzb : ¬ (b1 : Int) < (A : Int) := by omega
                  clear hbt
                  go_wp2_with fail
                  go_roundg (D - (d + 1))
                  case measure => omega
                  case rel => exact ⟨d + 1, by omega, by omega, by go_num, by rw [HBn.out], by rw [HBn.out], HBj⟩
                · have hz4 : ¬ (4 : Int) ≤ (A : Int) := by omega
                  clear hbt
                  go_wp2_with fail
                  go_roundg (D - (d + 1))
                  case measure => omega
                  case rel => exact ⟨d + 1, by omega, by omega, by go_num, by rw [HBn.out], by rw [HBn.out], HBj⟩
          · have hz1 : ¬ (A : Int) < 131 := by omega
            go_upto_region 6 with fail
            go_quiet (fail)
            have HBj : Hid (Below w.heap.size w (wi.drewN nq)) := ⟨below_drewN HBi.out nq⟩
            by_cases hbt : 4 ≤ A ∧ b1 < A
            · have hz4 : (4 : Int) ≤ (A : Int) := by omega
              have hzb : (b1 : Int) < (A : Int) := by omega
              have HBn : Hid (bst p i (d + 1) = (A, d + 1)) := ⟨by rw [HBs.out, if_pos hbt]⟩
              clear hbt
              go_wp2_with fail
              go_roundg (D - (d + 1))
              case measure => omega
              case rel => exact ⟨d + 1, by omega, by omega, by go_num, by rw [HBn.out], by rw [HBn.out]; go_num, HBj⟩
            · have HBn : Hid (bst p i (d + 1) = (b1, b2)) := ⟨by rw [HBs.out, if_neg hbt]⟩
              by_cases h4 : 4 ≤ A
              · have hz4 : (4 : Int) ≤ (A : Int) := by omega
                have hzb : ¬ (b1 : Int) < (A : Int) := by omega
                clear hbt
                go_wp2_with fail
                go_roundg (D - (d + 1))
                case measure => omega
                case rel => exact ⟨d + 1, by omega, by omega, by go_num, by rw [HBn.out], by rw [HBn.out], HBj⟩
              · have hz4 : ¬ (4 : Int) ≤ (A : Int) := by omega
                clear hbt
                go_wp2_with fail
                go_roundg (D - (d + 1))
                case measure => omega
                case rel => exact ⟨d + 1, by omega, by omega, by go_num, by rw [HBn.out], by rw [HBn.out], HBj⟩
    · have hdD : d = D := by omega
      subst hdD
      by_cases hdi : (d : Int) + 1 ≤ (i : Int)
      · have h2 : ¬ (d : Int) + 1 ≤ 4096 := by omega
        go_wp2_with fail
        go_ret2
        exact ⟨by rw [Hb.out]; rfl, HB.out⟩
      · go_wp2_with fail
        go_ret2
        exact ⟨by rw [Hb.out]; rfl, HB.out⟩
end
end Go.Proofs.Ytoneepoaodoijaa
