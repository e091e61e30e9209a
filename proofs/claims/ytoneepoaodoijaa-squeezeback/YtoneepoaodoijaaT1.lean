/- The document's row: bytes as they stand, in pieces. -/
import Derived.Test.YtoneepoaodoijaaP9
namespace Go.Proofs.Ytoneepoaodoijaa
open Go.RowKit Go.Lib Go.Shelf Oct

section
variable {w : World}
set_option maxHeartbeats 4000000 in
set_option maxRecDepth 100000 in
theorem row17 (ov pv : Value) (out b : List Int) {base : Nat} (ho : OwnY w base ov out) (hbase : base ≤ w.heap.size) (hp : RdY w pv b) (hap : ∀ g ∈ ob pv, g ∉ ob ov ∧ g < w.heap.size) (hb : b.length ≤ 8192) (hol : out.length ≤ 1000000) :
    Calls Try.prog 17 #[ov, pv] w fun e w' => ∃ a n c, e = .returned (.slice a n c) ∧ OwnY w' base (.slice a n c) (out ++ rws b (cnk b.length)) ∧ Chg (ob ov) w w' ∧ NewB w ov (.slice a n c) := by
  obtain ⟨pa, pc, rfl, hpc, hpm, _⟩ := hp.shape
  obtain ⟨oa, oc, rfl, hoc, _⟩ := ho.shape
  have HP := Hid.mk hp
  have HO := Hid.mk ho
  have HA := Hid.mk hap
  obtain ⟨n, Hn⟩ : ∃ n, Hid (b.length = n) := ⟨_, ⟨rfl⟩⟩
  obtain ⟨m0, Hm0⟩ : ∃ n, Hid (out.length = n) := ⟨_, ⟨rfl⟩⟩
  have HRl : Hid (∀ k, k ≤ cnk n → (rws b k).length ≤ 129 * k) := ⟨by rw [← Hn.out]; exact rws_len b hb⟩
  rw [Hn.out] at HP HA hb hpc ⊢
  rw [Hm0.out] at HO hol HA hoc ⊢
  clear hp ho hap
  go_enter Try.func17, Try.ntmps17
  go_upto_region 1 with fail
  go_loopg [0, 1] 65 (fun gg s0 s1 wr => ∃ (k i : Nat) (ra : Option Addr) (rn rc : Nat) (sa : Option Addr) (sc : Nat), k ≤ cnk n ∧ 65 - k ≤ gg ∧ Hid (i = min n (128 * k)) ∧ s0 = .slice ra rn rc ∧ s1 = .slice sa (n - i) sc ∧ Hid (i < n → ∃ g o, pa = some ⟨g, o, none⟩ ∧ sa = some ⟨g, o + i, none⟩ ∧ sc = pc - i) ∧ Hid (OwnY wr base (.slice ra rn rc) (out ++ rws b k)) ∧ Hid (Chg (ob (.slice oa m0 oc)) w wr) ∧ Hid (NewB w (.slice oa m0 oc) (.slice ra rn rc)))
  case atStart => exact ⟨0, 0, oa, m0, oc, pa, pc, Nat.zero_le _, by omega, ⟨by omega⟩, rfl, rfl, ⟨fun h => by
    obtain ⟨g, o, c, e, _⟩ := HP.out.at (i := 0) (by rw [Hn.out]; omega)
    simp only [Value.slice.injEq] at e
    exact ⟨g, o, e.1, e.1, rfl⟩⟩, ⟨by simpa [rws] using HO.out⟩, ⟨Chg.refl _ _⟩, ⟨fun g hg => .inl hg⟩⟩
  case round =>
    obtain ⟨k, i, ra, rn, rc, sa, sc, hkc, hgg, Hi, rfl, rfl, HS, HR, HC, HNw⟩ := hrel
    rename World => wo
    by_cases hlt : i < n
    · obtain ⟨g, off, rfl, rfl, rfl⟩ := HS.out hlt
      have hik : i = 128 * k := by have := Hi.out; omega
      have HIk := Hid.mk hik
      obtain ⟨m, Hm⟩ : ∃ m, Hid (min 128 (n - i) = m) := ⟨_, ⟨rfl⟩⟩
      have hm : m ≤ 128 ∧ i + m ≤ n ∧ 0 < m := by rw [← Hm.out]; omega
      have hmc : (128 < n - i ∧ m = 128) ∨ (¬ 128 < n - i ∧ m = n - i) := by have := Hm.out; omega
      have HLy : Hid (rws b (k + 1) = (rws b k ++ [((m - 1 : Nat) : Int)]) ++ (b.drop i).take m) := ⟨by rw [rws_snoc, lay_chk (m := m) (by rw [Hn.out, ← HIk.out]; exact Hm.out) hm.2.2, ← HIk.out, List.append_assoc]⟩
      have hkk : k + 1 ≤ cnk n := by unfold cnk; omega
      have hk64 : k ≤ 64 := by omega
      have hrl := HRl.out k hkc
      have hl1 : (out ++ rws b k).length ≤ 1000000000000 := by rw [List.length_append, Hm0.out]; omega
      have hbo : base ≤ wo.heap.size := Nat.le_trans hbase HC.out.size
      have hs1 : IntKind.i64.wrap ((m : Int) - 1) = ((m - 1 : Nat) : Int) := by rw [show (m : Int) - 1 = ((m - 1 : Nat) : Int) by omega]; exact IntWalk.i64_in _ ⟨by omega, by omega⟩
      have hs2 : IntKind.u8.wrap ((m - 1 : Nat) : Int) = ((m - 1 : Nat) : Int) := IntWalk.u8_in _ ⟨by omega, by omega⟩
      obtain ⟨y, Hy⟩ : ∃ y, Hid (((m - 1 : Nat) : Int) = y) := ⟨_, ⟨rfl⟩⟩
      rw [Hy.out] at hs1 hs2 HLy
      have hgA := HA.out g (mem_ob.2 rfl)
      have hgR : g ∉ ob (.slice ra rn rc) := fun h => by rcases HNw.out g h with h | h; exact hgA.1 h; omega
      have HRo : Hid (RdY wo (.slice (some ⟨g, off + i, none⟩) m (pc - i)) ((b.drop i).take m)) := ⟨by
        have := rdY_sub HP.out (k := i) (m := m) (by omega) (pc - i) ⟨by omega, by omega⟩
        exact this.far HC.out (fun _ k hk hx => by simp [Value.ownBlock] at hk; subst hk; exact hgA.1 hx)⟩
      have HRd : Hid (∀ w6, Chg (ob (.slice ra rn rc)) wo w6 → RdY w6 (.slice (some ⟨g, off + i, none⟩) m (pc - i)) ((b.drop i).take m)) := ⟨fun w6 h6 => HRo.out.far h6 (fun _ k hk hx => by simp [Value.ownBlock] at hk; subst hk; exact hgR hx)⟩
      have HL6 : Hid (World → (out ++ rws b k ++ [y]).length + ((b.drop i).take m).length ≤ 1000000000000) := ⟨fun _ => by simp only [List.length_append, List.length_cons, List.length_nil, Hm0.out, List.length_take, List.length_drop]; omega⟩
      obtain ⟨r, Hr⟩ : ∃ r, Hid (n - i = r) := ⟨_, ⟨rfl⟩⟩
      obtain ⟨C, HCc⟩ : ∃ r, Hid (pc - i = r) := ⟨_, ⟨rfl⟩⟩
      have hrm : m ≤ r ∧ r ≤ C ∧ 0 < r := by rw [← Hr.out, ← HCc.out]; omega
      rw [Hr.out] at hmc ⊢
      rw [HCc.out] at HRd ⊢
      have hrz : (0 : Int) < (r : Int) := by omega
      have hmr : (m : Int) ≤ (r : Int) := by omega
      have hmC : (m : Int) ≤ (C : Int) := by omega
      have HLz : Hid (out ++ rws b (k + 1) = out ++ rws b k ++ [y] ++ (b.drop i).take m) := ⟨by rw [HLy.out]; simp⟩
      clear hrl hgA hgR HRo HS hik
      rcases hmc with ⟨h1, h2⟩ | ⟨h1, h2⟩
      · have h1z : (128 : Int) < (r : Int) := by omega
        subst h2
        obtain rfl : y = 127 := by rw [← Hy.out]; rfl
        go_upto_region 6 with (refine wp_appY1 (y := 127) rfl (.tmp 13) (.tmp 17) rfl rfl HR.out rfl hl1 hbo ?_; intro v6 w6 hO6 hG6 hV6; have HO6 := Hid.mk hO6; have HG6 := Hid.mk hG6; have HV6 := Hid.mk hV6; clear hO6 hG6 hV6)
        have hl6 := HL6.out w6
        have hb6 : base ≤ w6.heap.size := Nat.le_trans hbo HG6.out.size
        have HR6 := Hid.mk (HRd.out w6 HG6.out)
        obtain ⟨a6, c6, e6, _⟩ := HO6.out.shape
        obtain ⟨n6, Hn6⟩ : ∃ n, Hid ((out ++ rws b k ++ [127]).length = n) := ⟨_, ⟨rfl⟩⟩
        rw [Hn6.out] at e6
        subst e6
        go_upto_region 7 with (refine wp_appY rfl (.tmp 19) (.tmp 22) rfl rfl HO6.out rfl HR6.out hl6 hb6 ?_; intro v7 w7 hO7 hG7 hV7; have HO7 := Hid.mk hO7; have HG7 := Hid.mk hG7; have HV7 := Hid.mk hV7; clear hO7 hG7 hV7)
        rw [← HLz.out] at HO7
        obtain ⟨a7, c7, e7, _⟩ := HO7.out.shape
        obtain ⟨n7, Hn7⟩ : ∃ n, Hid ((out ++ rws b (k + 1)).length = n) := ⟨_, ⟨rfl⟩⟩
        rw [Hn7.out] at e7
        have HG7' : Hid (Chg (ob (.slice a6 _ c6)) w6 w7) := HG7
        have HC7 : Hid (Chg (ob (.slice oa m0 oc)) w w7) := ⟨(HC.out.step HG6.out HNw.out).step HG7'.out (fun g hg => by
          rcases HV6.out with h | h
          · exact HNw.out g (mem_ob.2 (h.symm.trans (mem_ob.1 hg)))
          · have h2 := mem_ob.1 hg
            rw [h] at h2
            simp at h2
            have := HC.out.size
            right
            omega)⟩
        have HN7 : Hid (NewB w (.slice oa m0 oc) v7) := ⟨fun g hg => by
          have hs6 := HG6.out.size
          have hsw := HC.out.size
          rcases HV7.out with h | h
          · rcases HV6.out with h' | h'
            · exact HNw.out g (mem_ob.2 (h'.symm.trans (h.symm.trans (mem_ob.1 hg))))
            · have h2 := (h'.symm.trans (h.symm.trans (mem_ob.1 hg)))
              simp at h2
              right
              omega
          · have h2 := mem_ob.1 hg
            rw [h] at h2
            simp at h2
            right
            omega⟩
        subst e7
        have HS8 : Hid (i + 128 < n → ∃ g' o, some ⟨g, off, none⟩ = some (⟨g', o, none⟩ : Addr) ∧ some ⟨g, off + i + 128, none⟩ = some (⟨g', o + (i + 128), none⟩ : Addr) ∧ C - 128 = pc - (i + 128)) := ⟨fun _ => ⟨g, off, rfl, by rw [Nat.add_assoc], by rw [← HCc.out]; omega⟩⟩
        have Hi2 : Hid (i + 128 = min n (128 * (k + 1))) := ⟨by have := HIk.out; rw [← Hr.out] at h1; omega⟩
        have hrr : r - 128 = n - (i + 128) := by rw [← Hr.out]; omega
        go_wp2_with fail
        go_roundg (65 - (k + 1))
        case measure => omega
        case rel => exact ⟨k + 1, i + 128, a7, _, c7, _, _, hkk, by omega, Hi2, rfl, by rw [← hrr], HS8, HO7, HC7, HN7⟩
      · have h1z : ¬ (128 : Int) < (r : Int) := by omega
        subst h2
        go_upto_region 6 with (refine wp_appY1 (y := y) rfl (.tmp 13) (.tmp 17) rfl rfl HR.out rfl hl1 hbo ?_; intro v6 w6 hO6 hG6 hV6; have HO6 := Hid.mk hO6; have HG6 := Hid.mk hG6; have HV6 := Hid.mk hV6; clear hO6 hG6 hV6)
        have hl6 := HL6.out w6
        have hb6 : base ≤ w6.heap.size := Nat.le_trans hbo HG6.out.size
        have HR6 := Hid.mk (HRd.out w6 HG6.out)
        obtain ⟨a6, c6, e6, _⟩ := HO6.out.shape
        obtain ⟨n6, Hn6⟩ : ∃ n, Hid ((out ++ rws b k ++ [y]).length = n) := ⟨_, ⟨rfl⟩⟩
        rw [Hn6.out] at e6
        subst e6
        go_upto_region 7 with (refine wp_appY rfl (.tmp 19) (.tmp 22) rfl rfl HO6.out rfl HR6.out hl6 hb6 ?_; intro v7 w7 hO7 hG7 hV7; have HO7 := Hid.mk hO7; have HG7 := Hid.mk hG7; have HV7 := Hid.mk hV7; clear hO7 hG7 hV7)
        rw [← HLz.out] at HO7
        obtain ⟨a7, c7, e7, _⟩ := HO7.out.shape
        obtain ⟨n7, Hn7⟩ : ∃ n, Hid ((out ++ rws b (k + 1)).length = n) := ⟨_, ⟨rfl⟩⟩
        rw [Hn7.out] at e7
        have HG7' : Hid (Chg (ob (.slice a6 _ c6)) w6 w7) := HG7
        have HC7 : Hid (Chg (ob (.slice oa m0 oc)) w w7) := ⟨(HC.out.step HG6.out HNw.out).step HG7'.out (fun g hg => by
          rcases HV6.out with h | h
          · exact HNw.out g (mem_ob.2 (h.symm.trans (mem_ob.1 hg)))
          · have h2 := mem_ob.1 hg
            rw [h] at h2
            simp at h2
            have := HC.out.size
            right
            omega)⟩
        have HN7 : Hid (NewB w (.slice oa m0 oc) v7) := ⟨fun g hg => by
          have hs6 := HG6.out.size
          have hsw := HC.out.size
          rcases HV7.out with h | h
          · rcases HV6.out with h' | h'
            · exact HNw.out g (mem_ob.2 (h'.symm.trans (h.symm.trans (mem_ob.1 hg))))
            · have h2 := (h'.symm.trans (h.symm.trans (mem_ob.1 hg)))
              simp at h2
              right
              omega
          · have h2 := mem_ob.1 hg
            rw [h] at h2
            simp at h2
            right
            omega⟩
        subst e7
        have Hi2 : Hid (n = min n (128 * (k + 1))) := ⟨by have := Hr.out; have := HIk.out; omega⟩
        by_cases hCm : C = m
        · subst hCm
          go_wp2_with fail
          go_roundg (65 - (k + 1))
          case measure => omega
          case rel => exact ⟨k + 1, n, a7, _, c7, _, _, hkk, by omega, Hi2, rfl, by rw [Nat.sub_self], ⟨fun h => absurd h (Nat.lt_irrefl _)⟩, HO7, HC7, HN7⟩
        · have hCr : m < C := by omega
          go_wp2_with fail
          go_roundg (65 - (k + 1))
          case measure => omega
          case rel => exact ⟨k + 1, n, a7, _, c7, _, _, hkk, by omega, Hi2, rfl, by rw [Nat.sub_self], ⟨fun h => absurd h (Nat.lt_irrefl _)⟩, HO7, HC7, HN7⟩
    · have hn0 : n - i = 0 := by omega
      have HKn : Hid (k = cnk n) := ⟨by have := Hi.out; unfold cnk at hkc ⊢; omega⟩
      rw [hn0]
      go_wp2_with fail
      go_ret
      exact ⟨ra, rn, rc, rfl, by rw [← HKn.out]; exact HR.out, HC.out, HNw.out⟩
end
end Go.Proofs.Ytoneepoaodoijaa
